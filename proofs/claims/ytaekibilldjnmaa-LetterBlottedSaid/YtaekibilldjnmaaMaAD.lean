/- A range over a sequence: what holds between its rounds. A region in any order: its operations one by one. So many zeros more: a new object, of which only what was there is told. An object under a new name; what a function is lent that only reads. Arguments, as they are read out of memory. Closed facts on the types. Conditions for all elements of a list. -/
import Derived.Test.YtaekibilldjnmaaMaAC
import Derived.Lib.AppendZerosOnto
import Derived.Deep.Slices
import Derived.OpenShut
import Derived.ProofKit
import Derived.ShutString
import Derived.ChangeOld
import Derived.Test.YtaekibilldjnmaaRows
set_option linter.unusedVariables false
set_option linter.unusedSimpArgs false
set_option linter.unusedSectionVars false
namespace Go.Proofs.Ytaekibilldjnmaa
variable {P : Program} {H : Hp}

/-- A loop in whose rounds marks may be laid. -/
theorem WpV.loopD {r : Option Nat} {N : Nat} {c : Code} {Q : Exit → Fr → List Nat → Hp → Prop} {fr : Fr} {D : List Nat} {ι : Type} (I : ι → Fr) (J : ι → Hp) (M : ι → List Nat) (μ : ι → Nat) (i0 : ι)
    (h0 : ∀ t x, (I i0).get t = some x → fr.get t = some x) (hH : J i0 = H) (hM : M i0 = D)
    (round : ∀ i, WpV P r N c (Vthen (fun fr' D' H' => ∃ j, μ j < μ i ∧ (∀ t x, (I j).get t = some x → fr'.get t = some x) ∧ J j = H' ∧ M j = D') Q) (I i) (M i) (J i)) : WpV P r N (.loop c) Q fr D H := by
  intro r ρ W a hr hs hf hd
  refine wpIn_loop_g (fun i a' W' => ∃ ρ', Ext ρ W ρ' W' ∧ Sim N (I i) ρ' W' a' ∧ Defs ρ' (M i) a'.defers ∧ HD ρ' W' (J i)) μ i0
    ⟨ρ, hd.refl, ⟨hs.size, fun t x hx => hs.fr t x (h0 t x hx)⟩, by rw [hM]; exact hf, by rw [hH]; exact hd⟩ ?_
  rintro i a' W' ⟨ρ', q, hs', hf', hd'⟩
  refine wpIn_mono (round i r ρ' W' a' (hr.ext q) hs' hf' hd') fun e a'' W'' he => ?_
  obtain ⟨ρ'', fr'', D'', H'', q2, hs2, hf2, hd2, hq⟩ := he
  have q3 := q.trans hd.live q2
  cases e with
  | normal =>
    obtain ⟨j, hj, hw, rfl, rfl⟩ := hq
    exact ⟨j, hj, ρ'', q3, ⟨hs2.size, fun t x hx => hs2.fr t x (hw t x hx)⟩, hf2, hd2⟩
  | _ => exact ⟨ρ'', fr'', D'', H'', q3, hs2, hf2, hd2, hq⟩

/-- How a round over a sequence ends: on with the rest, or out. -/
def RoundS (id N : Nat) (fr : Fr) (ps : Array Tmp) (assign body : Code) (Inv : List (List AV) → Hp → Prop) (Rt : Code → Hp → Prop) (rest : List (List AV)) (L : List (Nat × Ob)) : Exit → Fr → List Nat → Hp → Prop
  | .normal, _, _, H => (∃ pend, H id = some (.loop N fr ps assign body .busy pend)) ∧ ∃ B, LayOn L B (H.set id none) ∧ Inv rest B
  | .ret, _, _, H => (∃ pend, H id = some (.loop N fr ps assign body .busy pend)) ∧ ∃ B, LayOn L B (H.set id none) ∧ Rt .ret B
  | .exit i, _, _, H => (∃ pend, H id = some (.loop N fr ps assign body .busy pend)) ∧ ∃ B, LayOn L B (H.set id none) ∧ Rt (.exit i) B
  | _, _, _, _ => False
/-- A round, from its assignments on. -/
def RoundI (P : Program) (id N : Nat) (fr : Fr) (ps : Array Tmp) (assign body : Code) (Inv : List (List AV) → Hp → Prop) (Rt : Code → Hp → Prop) : Prop :=
  ∀ L x rest B Hx, Hx id = some (.loop N fr ps assign body .ready none) → LayOn L B (Hx.set id none) → Inv (x :: rest) B → x.length = ps.size ∧
    WpV P (some id) N assign (Vthen (fun fr1 D1 H1 => ∃ pend1, H1 id = some (.loop N fr ps assign body .ready pend1) ∧ WpV P (some id) N body (RoundS id N fr ps assign body Inv Rt rest L) fr1 D1 (H1.set id (some (.loop N fr ps assign body .busy pend1)))) (fun _ _ _ _ => False)) (putPs ps.toList x fr) [] Hx

def JS (id N : Nat) (fr : Fr) (ps : Array Tmp) (assign body : Code) (Inv : List (List AV) → Hp → Prop) (l : List (List AV)) (Hx : Hp) : Prop := Hx id = some (.loop N fr ps assign body .ready none) ∧ Inv l (Hx.set id none)
def DS (id N : Nat) (fr : Fr) (ps : Array Tmp) (assign body : Code) (Rt : Code → Hp → Prop) (Hx : Hp) : Prop := ∃ c, Hx id = some (.loop N fr ps assign body .done (some c)) ∧ Rt c (Hx.set id none)

theorem eats_yl {id N : Nat} {fr : Fr} {ps : Array Tmp} {assign body : Code} {Inv : List (List AV) → Hp → Prop} {Rt : Code → Hp → Prop} (hps : (ps.toList.all (· < N)) = true) (hr : RoundI P id N fr ps assign body Inv Rt) :
    Eats P (.yl id) (JS id N fr ps assign body Inv) (DS id N fr ps assign body Rt) := by
  rintro L x rest Bx Hx hM ⟨hl, hi⟩ o ev c args ts ho hy hx
  have hl' := (hM.get hl)
  obtain ⟨hlen, hw⟩ := hr L x rest _ Hx hl' (hM.set none hl) hi
  have back : ∀ {H2 B2 : Hp} {pend : Option Code} (s : Ob), H2 id = some (.loop N fr ps assign body .busy pend) → LayOn L B2 (H2.set id none) → B2 id = none → LayOn L (B2.set id (some s)) (H2.set id (some s)) := by
    intro H2 B2 pend s h2 h3 hb
    have := LayOn.lay (o := s) h3 (k := id) hb (Hp.set_eq _ _ _)
    rwa [Hp.set_set] at this
  have none_of : ∀ {H2 B2 : Hp}, LayOn L B2 (H2.set id none) → B2 id = none := by
    intro H2 B2 h3
    cases e : B2 id with
    | none => rfl
    | some o => have := h3.get e; rw [Hp.set_eq] at this; cases this
  refine OpW.yield ho hy hx hl' hlen hps (hw.mono fun e fr1 D1 H1 h => ?_)
  cases e with
  | normal =>
    obtain ⟨pend1, h1, h2⟩ := h
    refine ⟨pend1, h1, h2.mono fun e2 fr2 D2 H2 h3 => ?_⟩
    cases e2 with
    | normal =>
      obtain ⟨⟨pend, h4⟩, B2, h5, h6⟩ := h3
      have hb := none_of h5
      exact ⟨pend, h4, _, back _ h4 h5 hb, .inl ⟨rfl, Hp.set_eq _ _ _, by rw [Hp.set_set, Hp.set_same _ _ _ hb]; exact h6⟩⟩
    | ret =>
      obtain ⟨⟨pend, h4⟩, B2, h5, h6⟩ := h3
      have hb := none_of h5
      exact ⟨pend, h4, _, back _ h4 h5 hb, .inr ⟨rfl, _, Hp.set_eq _ _ _, by rw [Hp.set_set, Hp.set_same _ _ _ hb]; exact h6⟩⟩
    | exit i =>
      obtain ⟨⟨pend, h4⟩, B2, h5, h6⟩ := h3
      have hb := none_of h5
      exact ⟨pend, h4, _, back _ h4 h5 hb, .inr ⟨rfl, _, Hp.set_eq _ _ _, by rw [Hp.set_set, Hp.set_same _ _ _ hb]; exact h6⟩⟩
    | _ => exact h3.elim
  | _ => exact h.elim

/-- A function that yields its items to whoever eats them. -/
def Seqs (P : Program) (f : FuncId) (fs cs : List AV) (items : List (List AV)) : Prop :=
  ∀ (y : AV) (J : List (List AV) → Hp → Prop) (Dn : Hp → Prop) (H : Hp), (∃ id, y = .yl id) → Eats P y J Dn → J items H → CallV P f (fs ++ [y] ++ cs) H (fun _ H' => J [] H' ∨ Dn H')

theorem WpV.rangeS {N : Nat} {Q : Exit → Fr → List Nat → Hp → Prop} {fr : Fr} {D : List Nat} {g : Operand} {ps : Array Tmp} {assign body : Code} {f : FuncId} {fs cs : List AV} {items : List (List AV)}
    (hg : fr.ev g = some (.fn (.func f) fs cs)) (eg : EntersF P f) (hmD : Marks D H) (hps : (ps.toList.all (· < N)) = true) (hseq : Seqs P f fs cs items)
    (h : ∀ idm idl, idm ≠ idl → H idm = none → H idl = none → ∃ (Inv : List (List AV) → Hp → Prop) (Rt : Code → Hp → Prop), Inv items (H.set idm (some .mark)) ∧ RoundI P idl N fr ps assign body Inv Rt ∧
      (∀ H', Inv [] H' → Marks (idm :: D) H' ∧ Q .normal fr (idm :: D) H') ∧ (∀ c H', Rt c H' → Marks (idm :: D) H' ∧ WpV P none N c Q fr (idm :: D) H')) :
    WpV P none N (.rangeFunc g ps assign body) Q fr D H := by
  refine WpV.rangeFunc hg eg hmD fun idm idl hne h1 h2 => ?_
  obtain ⟨Inv, Rt, hi, hr, hn, ht⟩ := h idm idl hne h1 h2
  refine (hseq (.yl idl) (JS idl N fr ps assign body Inv) (DS idl N fr ps assign body Rt) _ ⟨_, rfl⟩ (eats_yl hps hr) ⟨Hp.set_eq _ _ _, ?_⟩).mono ?_
  · rw [Hp.set_set, Hp.set_same _ _ _ (by rw [Hp.set_ne _ _ hne.symm]; exact h2)]; exact hi
  · rintro x H' (⟨h3, h4⟩ | ⟨c, h3, h4⟩)
    · obtain ⟨a, b⟩ := hn _ h4
      exact ⟨.ready, none, h3, by decide, a, b⟩
    · obtain ⟨a, b⟩ := ht _ _ h4
      exact ⟨.done, some c, h3, by decide, a, b⟩

theorem WpV.rangeSI {N idr : Nat} {Q : Exit → Fr → List Nat → Hp → Prop} {fr : Fr} {D : List Nat} {g : Operand} {ps : Array Tmp} {assign body : Code} {f : FuncId} {fs cs : List AV} {N0 : Nat} {fr0 : Fr} {ps0 : Array Tmp} {as0 bo0 : Code} {st0 : LoopState} {pe0 : Option Code} {items : List (List AV)}
    (hg : fr.ev g = some (.fn (.func f) fs cs)) (eg : EntersF P f) (hmD : Marks D H) (hidr : H idr = some (.loop N0 fr0 ps0 as0 bo0 st0 pe0)) (hps : (ps.toList.all (· < N)) = true) (hseq : Seqs P f fs cs items)
    (h : ∀ idl, H idl = none → ∃ (Inv : List (List AV) → Hp → Prop) (Rt : Code → Hp → Prop), Inv items H ∧ RoundI P idl N fr ps assign body Inv Rt ∧
      (∀ H', Inv [] H' → Marks D H' ∧ Q .normal fr D H') ∧ (∀ c H', Rt c H' → Marks D H' ∧ WpV P (some idr) N c Q fr D H')) :
    WpV P (some idr) N (.rangeFunc g ps assign body) Q fr D H := by
  refine WpV.rangeFuncI hg eg hmD hidr fun idl h2 => ?_
  obtain ⟨Inv, Rt, hi, hr, hn, ht⟩ := h idl h2
  refine (hseq (.yl idl) (JS idl N fr ps assign body Inv) (DS idl N fr ps assign body Rt) _ ⟨_, rfl⟩ (eats_yl hps hr) ⟨Hp.set_eq _ _ _, ?_⟩).mono ?_
  · rw [Hp.set_set, Hp.set_same _ _ _ h2]; exact hi
  · rintro x H' (⟨h3, h4⟩ | ⟨c, h3, h4⟩)
    · obtain ⟨a, b⟩ := hn _ h4
      exact ⟨.ready, none, h3, by decide, a, b⟩
    · obtain ⟨a, b⟩ := ht _ _ h4
      exact ⟨.done, some c, h3, by decide, a, b⟩

end Go.Proofs.Ytaekibilldjnmaa
namespace Go.Proofs.Ytaekibilldjnmaa
variable {P : Program} {H : Hp}
theorem LexB.pure {N i : Nat} {ops : Array Oper} {isn : Nat → Bool} {Hs : (Nat → Nat) → (Nat → Bool) → Hp} {Q : (Nat → Nat) → Fr → Prop} {o : Oper} {l : List Oper} {fr : (Nat → Nat) → Fr} {x : AV} (hN : (o.dst.all (· < N)) = true) (hc : Oper.calm o = true) (hg : ∀ ids, guardOf ops (fr ids) o = some true)
    (hs : ∀ ids b, Good ops H isn o i ids b → Hs ids (upd b i) = Hs ids b) (hop : ∀ ids b, Good ops H isn o i ids b → OpW P o (fr ids).ev (Hs ids b) (fun x' H' => x' = x ∧ H' = Hs ids b)) (h : LexB P N ops H isn Hs Q (i + 1) l (fun ids => (fr ids).put o.dst x)) : LexB P N ops H isn Hs Q i (o :: l) fr :=
  ⟨hN, hc, .inl ⟨hg, x, fun ids b g => by rw [hs ids b g]; exact hop ids b g, h⟩⟩
theorem LexB.eff {N i : Nat} {ops : Array Oper} {isn : Nat → Bool} {Hs : (Nat → Nat) → (Nat → Bool) → Hp} {Q : (Nat → Nat) → Fr → Prop} {o : Oper} {l : List Oper} {fr : (Nat → Nat) → Fr} {x : AV} (hN : (o.dst.all (· < N)) = true) (hc : Oper.calm o = true) (hg : ∀ ids, guardOf ops (fr ids) o = some true)
    (hop : ∀ ids b, Good ops H isn o i ids b → OpW P o (fr ids).ev (Hs ids b) (fun x' H' => x' = x ∧ H' = Hs ids (upd b i))) (h : LexB P N ops H isn Hs Q (i + 1) l (fun ids => (fr ids).put o.dst x)) : LexB P N ops H isn Hs Q i (o :: l) fr :=
  ⟨hN, hc, .inl ⟨hg, x, hop, h⟩⟩
theorem LexB.new {N i : Nat} {ops : Array Oper} {isn : Nat → Bool} {Hs : (Nat → Nat) → (Nat → Bool) → Hp} {Q : (Nat → Nat) → Fr → Prop} {o : Oper} {l : List Oper} {fr : (Nat → Nat) → Fr} (X : Nat → AV) (ob : Ob) (hin : isn i = true) (hN : (o.dst.all (· < N)) = true) (hc : Oper.calm o = true) (hg : ∀ ids, guardOf ops (fr ids) o = some true)
    (hop : ∀ ids b, Good ops H isn o i ids b → OpW P o (fr ids).ev (Hs ids b) (fun x' H' => ∃ id, (Hs ids b) id = none ∧ x' = X id ∧ H' = (Hs ids b).set id (some ob))) (hs : ∀ ids b, Good ops H isn o i ids b → (Hs ids b) (ids i) = none → Hs ids (upd b i) = (Hs ids b).set (ids i) (some ob))
    (h : LexB P N ops H isn Hs Q (i + 1) l (fun ids => (fr ids).put o.dst (X (ids i)))) : LexB P N ops H isn Hs Q i (o :: l) fr :=
  ⟨hN, hc, .inr (.inr ⟨hin, hg, X, ob, hop, hs, h⟩)⟩
theorem OpW.evX {o : Oper} {ev : Operand → Option AV} {x : AV} (h : evP P H ev o.op = some x) : OpW P o ev H (fun x' H' => x' = x ∧ H' = H) := OpW.ev h ⟨rfl, rfl⟩
end Go.Proofs.Ytaekibilldjnmaa
namespace Go.Proofs.Ytaekibilldjnmaa
variable {P : Program} {H : Hp}

theorem OpW.appendZ {o : Oper} {ev : Operand → Option AV} {t tn e : TypeId} {a y : Operand} {nl : Bool} {len m s : Nat} {cells : List AV} {kq kn : IntKind} {K : AV → Hp → Prop}
    (ho : o.op = .call { callee := .builtin .append, args := #[a, y], argTypes := #[t, tn] }) (ha : ev a = some (.sl nl true len cells)) (hy : ev y = some (.int kq (m : Int)))
    (hE : Elem P t e s (len + m)) (htn : P.underlying tn = some (.int kn)) (hl1 : cells.length = len * s) (hs : 0 < s) (hm : 0 < m)
    (hk : ∀ id, H id = none → K (.rs id 0 s 0 (len + m) false) (H.set id (some (.cells e 0 cells)))) : OpW P o ev H K := by
  refine ⟨by simp [Oper.calm, ho], fun ρ W σ hd hH => ?_⟩
  have hva := hd a (by simp [ho, Op.operands, Call.operands]) _ ha
  have hvy := hd y (by simp [ho, Op.operands, Call.operands]) _ hy
  rw [Den] at hvy
  obtain ⟨i, z, hi, his, hz, hzs, hb⟩ := hE.info
  rw [Den] at hva
  obtain ⟨base, cap, ea, g1, g2, g3, g4⟩ := hva
  obtain rfl := g2 rfl
  obtain ⟨olds, hold, hdo, hlo⟩ : ∃ olds : List Value, (Builtin.firstCells i.size cap (.slice base cap cap)).run P W.drew = .ok olds.toArray W.drew ∧ DenL ρ W cells (fun i => olds[i]?) ∧ olds.length = cells.length := by
    cases nl with
    | true =>
      obtain ⟨rfl, rfl, rfl⟩ := g3 rfl
      exact ⟨[], run_firstCells_none W.drew i.size 0 0 0, by rw [DenL]; trivial, rfl⟩
    | false =>
      obtain ⟨b, off, rfl, -, hdc⟩ := g4 rfl
      obtain ⟨vs, k1, k2, k3⟩ := hdc.list
      exact ⟨vs, run_firstCells_some W.drew i.size cap ⟨b, off, none⟩ cap cap vs (by rw [k1, hl1, his]) (fun j v hj => by rw [add_addr]; exact k2 j v hj), k3, k1⟩
  have hmb : m * i.bytes ≤ (cap + m) * i.bytes := Nat.mul_le_mul_right _ (by omega)
  have hrun := Go.Lib.run_append_grow_zeros (P := P) W t tn o.type e i z kq kn hE.slice htn hi hz base cap cap olds hold m hm (by omega) (by omega) (by have := hE.small; omega) (by omega) (growslice_fits (by omega) hb)
  generalize harr : (olds.toArray ++ Builtin.zeroCells z.cells m ++ Builtin.zeroCells z.cells (grownCap W (cap + m) cap e - (cap + m))) = arr at hrun
  have hsz : arr.size = olds.length + m * s + (grownCap W (cap + m) cap e - (cap + m)) * s := by
    rw [← harr]; simp [zeroCells_size, hzs, Nat.add_assoc]
  have hden : DenL ρ W cells (fun j => arr[j]?) := by
    refine DenL.of fun j x hj => ?_
    have hjl := (List.getElem?_eq_some_iff.1 hj).1
    obtain ⟨v, hv, hdv⟩ := hdo.at hj
    refine ⟨v, ?_, hdv⟩
    rw [← harr, Array.append_assoc, Array.getElem?_append_left (by simp; omega)]
    simpa using hv
  have hH1 := hH.drew
  obtain ⟨q, hd', hn, hbk⟩ := own_den hH1 (ty := e) (arr := arr) (by omega) (DenL.ext (Ext.drew hH) hH.live _ _ hden)
  have hle := grownCap_le W (cap + m) cap e
  have hdv : Den (ρ.add ρ.nx W.drew.heap.size) (W.drew.alloc (.cells arr e)) (.rs ρ.nx 0 s 0 (cap + m) false) (.slice (some ⟨W.heap.size, 0, none⟩) (cap + m) (grownCap W (cap + m) cap e)) := by
    rw [Den]
    refine ⟨q.live _ _ _ hbk, rfl, fun e' b' hb' => ?_⟩
    rw [hbk] at hb'; cases hb'
    refine ⟨Nat.le_refl _, fun _ => ⟨_, rfl, hle, nofun, _, e, (0, 0), World.alloc_heap_new _ _, ?_⟩⟩
    rw [hsz, hlo, hl1, Nat.zero_add, ← Nat.add_mul, ← Nat.add_mul]
    exact Nat.mul_le_mul_right _ (by omega)
  refine Runs.value (v := .slice (some ⟨W.heap.size, 0, none⟩) (cap + m) (grownCap W (cap + m) cap e)) (W' := W.drew.alloc (.cells arr e)) ?_
    ⟨_, _, _, (Ext.drew hH).trans hH.live q, hdv, hd', hk _ hn⟩
  simp only [execOp, ho, resolve, Sem.run_bind, Sem.run_pure, Result.andThen_ok, invoke, builtin]
  rw [show (#[a, y].map σ) = #[.slice base cap cap, .int kq (m : Int)] by simp [ea, hvy], hrun]
  rfl
end Go.Proofs.Ytaekibilldjnmaa
namespace Go.Proofs.Ytaekibilldjnmaa
variable {P : Program} {ρ : Own} {W : World} {H : Hp}

theorem Ext.rename (h : HD ρ W H) {id e b : Nat} (hb : ρ.obj id = some (e, b)) : Ext ρ W (ρ.rename id ρ.nx 0 b) W := by
  have hlt := h.live _ _ _ hb
  refine ⟨by simp only [Own.rename]; omega, Nat.le_refl _, fun k hk hn => ?_, fun k e1 b1 e2 b2 h1 h2 => ?_, fun c hc hf => ⟨fun k e' hk => ?_, rfl⟩, fun k e1 b1 hk => ?_, rfl, rfl, rfl⟩
  · simp only [Own.rename]; rw [if_neg (by omega)]; split <;> first | rfl | exact hn
  · have := h.live _ _ _ h1
    simp only [Own.rename] at h2
    rw [if_neg (by omega)] at h2
    split at h2
    · cases h2
    · rw [h1] at h2; cases h2; exact ⟨Nat.le_refl _, fun _ => ⟨rfl, fun cs ty fz hc => ⟨cs, hc, rfl⟩⟩⟩
  · simp only [Own.rename] at hk
    split at hk
    · cases hk; exact hf _ _ hb
    · split at hk
      · cases hk
      · exact hf _ _ hk
  · simp only [Own.rename] at hk ⊢
    split at hk
    · omega
    · split at hk
      · cases hk
      · have := h.live _ _ _ hk; omega
theorem HD.rename (h : HD ρ W H) {id e b : Nat} {ty : TypeId} {cs : List AV} (hb : ρ.obj id = some (e, b)) (ho : H id = some (.cells ty e cs)) : HD (ρ.rename id ρ.nx 0 b) W ((H.set id none).set ρ.nx (some (.cells ty 0 cs))) := by
  have hlt := h.live _ _ _ hb
  have q := Ext.rename h hb
  refine ⟨fun k o' hk => ?_, fun k hk => ?_, fun k e1 b1 hk => q.live k e1 b1 hk, fun k k' e1 e2 b1 h1 h2 => ?_⟩
  · simp only [Hp.set] at hk
    split at hk
    · rename_i hkn
      cases hk
      obtain ⟨e1, b1, h1, h2, h3⟩ := h.obs id _ ho
      rw [hb] at h1; cases h1
      have h3' := h.of_ext (id := id) q h3 rfl
      obtain ⟨-, arr, h4, h5, h6⟩ := h3'
      exact ⟨0, b, by simp [Own.rename, hkn], h2, rfl, arr, h4, h5, h6⟩
    · rename_i hkn
      split at hk
      · cases hk
      · rename_i hne
        obtain ⟨e1, b1, h1, h2, h3⟩ := h.obs k o' hk
        exact ⟨e1, b1, by simp only [Own.rename]; rw [if_neg hkn, if_neg hne]; exact h1, h2, h.of_ext (id := k) q h3 rfl⟩
  · simp only [Hp.set] at hk
    simp only [Own.rename]
    split at hk
    · cases hk
    · rename_i hkn
      rw [if_neg hkn]
      split
      · rfl
      · rename_i hne; rw [if_neg hne] at hk; exact h.non k hk
  · simp only [Own.rename] at h1 h2
    split at h1 <;> split at h2
    · omega
    · cases h1
      split at h2
      · cases h2
      · rename_i h3; exact absurd (h.inj _ _ _ _ _ h2 hb) h3
    · cases h2
      split at h1
      · cases h1
      · rename_i h3; exact absurd (h.inj _ _ _ _ _ h1 hb) h3
    · split at h1
      · cases h1
      · split at h2
        · cases h2
        · exact h.inj _ _ _ _ _ h1 h2

/-- What a call has laid, as an object that was written on by nobody. -/
theorem CallV.anew {f : FuncId} {args : List AV} {e : TypeId} {s m : Nat} {nl : Bool} {xs : List AV} (h : CallV P f args H (fun r H' => Bld H e s nl m xs r H')) (hm : 0 < m) :
    CallV P f args H (fun r H' => ∃ id, H id = none ∧ r = .rs id 0 s 0 m false ∧ H' = H.set id (some (.cells e 0 xs))) := by
  intro ρ W vs hl hd hH
  refine Calls.mono (h ρ W vs hl hd hH) ?_
  rintro e' W' ⟨v, ρ', x, H', rfl, q, hv, hH', hb⟩
  obtain ⟨hl, ⟨h0, -⟩ | ⟨hp, id, ver, hid, rfl, rfl⟩⟩ := hb
  · omega
  · obtain ⟨e1, b, h1, h2, h3⟩ := hH'.obs id _ (Hp.set_eq _ _ _)
    have he : e1 = ver := h3.1
    subst he
    have hH2 := hH'.rename h1 (Hp.set_eq _ _ _)
    rw [Hp.set_set, Hp.set_same _ _ _ hid] at hH2
    have q2 := Ext.rename hH' h1
    have hfresh : H ρ'.nx = none := by
      cases hn : H ρ'.nx with
      | none => rfl
      | some o =>
        have hne : ρ'.nx ≠ id := fun e => by rw [e, hid] at hn; cases hn
        obtain ⟨e2, b2, h4, -⟩ := hH'.obs ρ'.nx o (by rw [Hp.set_ne _ _ hne]; exact hn)
        exact absurd (hH'.live _ _ _ h4) (Nat.lt_irrefl _)
    refine ⟨v, ρ'.rename id ρ'.nx 0 b, .rs ρ'.nx 0 s 0 m false, _, rfl, q.trans hH.live q2, ?_, hH2, _, hfresh, rfl, rfl⟩
    rw [Den] at hv ⊢
    obtain ⟨-, k2, k3⟩ := hv
    refine ⟨by simp only [Own.rename]; omega, k2, fun e b' hb' => ?_⟩
    simp only [Own.rename, if_true, Option.some.injEq, Prod.mk.injEq] at hb'
    obtain ⟨rfl, rfl⟩ := hb'
    exact ⟨Nat.le_refl _, fun _ => (k3 _ _ h1).2 rfl⟩

/-! ### Lending -/
def Own.none (ρ : Own) : Own := { ρ with obj := fun _ => Option.none }
theorem Ext.none (ρ : Own) (W : World) : Ext ρ W ρ.none W :=
  ⟨Nat.le_refl _, Nat.le_refl _, fun _ _ _ => rfl, fun _ _ _ _ _ _ h => (by simp [Own.none] at h), fun _ _ _ => ⟨fun _ _ h => (by simp [Own.none] at h), rfl⟩, fun _ _ _ h => (by simp [Own.none] at h), rfl, rfl, rfl⟩
theorem HD.none (ρ : Own) (W : World) : HD ρ.none W (fun _ => Option.none) := ⟨fun _ _ h => (by cases h), fun _ _ => rfl, fun _ _ _ h => (by simp [Own.none] at h), fun _ _ _ _ _ h => (by simp [Own.none] at h)⟩
/-- What a value looks like to those who only read. -/
def Seen (H : Hp) (x y : AV) : Prop := ∀ ρ W v, HD ρ W H → Den ρ W x v → Den ρ.none W y v
theorem Seen.same (H : Hp) (x : AV) : Seen H x x := fun ρ W v hH h => Den.ext (Ext.none ρ W) hH.live _ _ h
theorem Seen.rs {id ver sz off len : Nat} {clip : Bool} {ty : TypeId} {cs : List AV} (ho : H id = some (.cells ty ver cs)) : Seen H (.rs id ver sz off len clip) (.sl false clip len ((cs.drop off).take (len * sz))) := fun ρ W v hH h => by
  have h2 := den_freeze hH h ho
  have h3 := Den.ext (Ext.none (ρ.drop id) W) (Ext.drop hH id).live _ _ h2
  exact h3
inductive SeenL (H : Hp) : List AV → List AV → Prop
  | nil : SeenL H [] []
  | cons {x y : AV} {xs ys : List AV} : Seen H x y → SeenL H xs ys → SeenL H (x :: xs) (y :: ys)
theorem SeenL.len {xs ys : List AV} (h : SeenL H xs ys) : xs.length = ys.length := by induction h <;> simp_all
theorem SeenL.den {xs ys : List AV} (h : SeenL H xs ys) (hH : HD ρ W H) : ∀ {f : Nat → Option Value}, DenL ρ W xs f → DenL ρ.none W ys f := by
  induction h with
  | nil => intro f _; rw [DenL]; trivial
  | cons h1 _ ih =>
    intro f hd
    rw [DenL] at hd ⊢
    obtain ⟨⟨v, hv, hx⟩, hr⟩ := hd
    exact ⟨⟨v, hv, h1 _ _ _ hH hx⟩, ih hr⟩
def Plain (x : AV) : Prop := ∀ (ρ ρ' : Own) (W W' : World) v, Den ρ W x v → Den ρ' W' x v
theorem Plain.int (k : IntKind) (n : Int) : Plain (.int k n) := fun _ _ _ _ v h => by rw [Den] at h ⊢; exact h
theorem Plain.bool (b : Bool) : Plain (.bool b) := fun _ _ _ _ v h => by rw [Den] at h ⊢; exact h
theorem CallV.lend {f : FuncId} {xs ys : List AV} {x : AV} (h : CallV P f ys (fun _ => Option.none) (fun r H' => r = x ∧ H' = fun _ => Option.none)) (hs : SeenL H xs ys) (hx : Plain x) : CallV P f xs H (fun r H' => r = x ∧ H' = H) := by
  intro ρ W vs hl hd hH
  refine Calls.mono (h ρ.none W vs (by rw [hl, hs.len]) (hs.den hH hd) (HD.none ρ W)) ?_
  rintro e' W' ⟨v, ρ', x', H', rfl, q, hv, hH', rfl, rfl⟩
  have hfr : ∀ b, b < W.heap.size → W'.heap[b]? = W.heap[b]? := fun b hb => (q.free b hb (fun _ _ h => by simp [Own.none] at h)).2
  have hnx : ρ.nx ≤ ρ'.nx := q.nx
  have q2 : Ext ρ W { obj := ρ.obj, nx := ρ'.nx } W' := by
    refine ⟨hnx, q.size, fun _ _ h => h, fun k e b e' b' h1 h2 => ?_, fun b hb hf => ⟨hf, hfr b hb⟩, fun k e b hk => Nat.lt_of_lt_of_le (hH.live _ _ _ hk) hnx, q.io⟩
    simp only at h2
    rw [h1] at h2; cases h2
    exact ⟨Nat.le_refl _, fun _ => ⟨rfl, fun cs ty fz hc => ⟨cs, by rw [hfr _ (hH.lt h1)]; exact hc, rfl⟩⟩⟩
  refine ⟨v, { obj := ρ.obj, nx := ρ'.nx }, _, H, rfl, q2, hx _ _ _ _ _ hv, ⟨fun k o hk => ?_, fun k hk => hH.non k hk, q2.live, fun k k' e e' b h1 h2 => hH.inj _ _ _ _ _ h1 h2⟩, rfl, rfl⟩
  obtain ⟨e1, b1, h1, h2, h3⟩ := hH.obs k o hk
  exact ⟨e1, b1, h1, Nat.lt_of_lt_of_le h2 q2.size, hH.of_ext (id := k) q2 h3 (hfr _ h2)⟩

/-- What an operation has laid is written no more. -/
theorem OpW.frzS {o : Oper} {ev : Operand → Option AV} {e : TypeId} {s m : Nat} {clip : Bool} {xs : List AV} (h : OpW P o ev H (fun r H' => ∃ id ver, H id = none ∧ r = .rs id ver s 0 m clip ∧ H' = H.set id (some (.cells e ver xs)))) (hl : xs.length = m * s) :
    OpW P o ev H (fun r H' => r = .sl false clip m xs ∧ H' = H) := by
  refine ⟨h.calm, fun ρ W σ hd hH => ?_⟩
  have hr := h.runs ρ W σ hd hH
  have go : ∀ v W', (∃ ρ' x H', Ext ρ W ρ' W' ∧ Den ρ' W' x v ∧ HD ρ' W' H' ∧ ∃ id ver, H id = none ∧ x = .rs id ver s 0 m clip ∧ H' = H.set id (some (.cells e ver xs))) → ∃ ρ' x H', Ext ρ W ρ' W' ∧ Den ρ' W' x v ∧ HD ρ' W' H' ∧ (x = .sl false clip m xs ∧ H' = H) := by
    rintro v W' ⟨ρ', x, H', q, hv, hH', id, ver, hid, rfl, rfl⟩
    have h2 := den_freeze hH' hv (Hp.set_eq _ _ _)
    rw [List.drop_zero, List.take_of_length_le (by omega)] at h2
    have h3 := hH'.drop id
    rw [Hp.set_set, Hp.set_same _ _ _ hid] at h3
    exact ⟨ρ'.drop id, _, _, q.trans hH.live (Ext.drop hH' id), h2, h3, rfl, rfl⟩
  unfold Runs at hr ⊢
  generalize (execOp σ o).run P W = q at hr
  cases q with
  | halt x w => cases hr
  | ok x w =>
    cases x <;> first
      | exact go _ _ hr
      | (refine Calls.mono hr ?_; rintro e w' ⟨v, rfl, hv⟩; exact ⟨v, rfl, go _ _ hv⟩)
      | (refine RoundIn.mono hr ?_; rintro e w' ⟨v, rfl, hv⟩; exact ⟨v, rfl, go _ _ hv⟩)
      | cases hr
end Go.Proofs.Ytaekibilldjnmaa
namespace Go.Proofs.Ytaekibilldjnmaa
open Go.ChangeShapes Go.WideShapes Go.ChangeAt Go.RowKit Go.Deep
variable {P : Program} {Hh : Type} {enc : TypeId × Value → Hh} {w : World} {base : Nat} {spare : Nat → Bool} {held : Bool}

def ρ0 : Own := { obj := fun _ => none, nx := 0 }
theorem ρ0_free (b : Nat) : ρ0.free b := fun _ _ h => by cases h
theorem ρ0_hd (w : World) : HD ρ0 w (fun _ => none) := ⟨fun _ _ h => (by cases h), fun _ _ => rfl, fun _ _ _ h => (by cases h), fun _ _ _ _ _ h => (by cases h)⟩
/-- These cells are denoted by those values. -/
def CellsD (w : World) (cells : List AV) (cs : List Value) : Prop := cs.length = cells.length ∧ DenL ρ0 w cells (fun i => cs[i]?)
theorem CellsD.one {x : AV} {v : Value} (h : Den ρ0 w x v) : CellsD w [x] [v] := ⟨rfl, by rw [DenL]; exact ⟨⟨v, rfl, h⟩, by rw [DenL]; trivial⟩⟩
theorem CellsD.append {a b : List AV} {cs : List Value} (ha : CellsD w a (cs.take a.length)) (hb : CellsD w b (cs.drop a.length)) : CellsD w (a ++ b) cs := by
  obtain ⟨h1, h2⟩ := ha
  obtain ⟨h3, h4⟩ := hb
  rw [List.length_take] at h1
  rw [List.length_drop] at h3
  refine ⟨by rw [List.length_append]; omega, DenL.of fun i x hx => ?_⟩
  by_cases hi : i < a.length
  · rw [List.getElem?_append_left hi] at hx
    obtain ⟨v, hv, hd⟩ := h2.at hx
    rw [List.getElem?_take, if_pos hi] at hv
    exact ⟨v, hv, hd⟩
  · rw [List.getElem?_append_right (by omega)] at hx
    obtain ⟨v, hv, hd⟩ := h4.at hx
    rw [List.getElem?_drop, show a.length + (i - a.length) = i by omega] at hv
    exact ⟨v, hv, hd⟩
theorem CellsD.agg {cells : List AV} {cs : Array Value} (h : CellsD w cells cs.toList) : Den ρ0 w (.agg cells) (.agg cs) := by
  rw [Den]
  exact ⟨cs, rfl, by simpa using h.1, h.2.congr fun i _ => by simp⟩

/-- What cells of a type read as. -/
def Rd (P : Program) (Hh : Type) (enc : TypeId × Value → Hh) (w : World) (base : Nat) (spare : Nat → Bool) (held : Bool) {A : Type} (t : TypeId) (C : A → List AV) (Okk : A → Prop) : Prop :=
  ∀ (fuel : Nat) (cs : List Value) (x : DataW Hh × List MemPlace), DataW.trod enc P w base spare held fuel t cs = some x → ∃ a : A, Okk a ∧ CellsD w (C a) cs

theorem rd_int {t : TypeId} {k : IntKind} (ht : P.underlying t = some (.int k)) : Rd P Hh enc w base spare held t (fun n : Int => [.int k n]) (fun n => Lit.wf (.int k n) = true) := by
  intro fuel cs x h
  obtain ⟨z, e1, _, hw⟩ := DataW.trod_int ht h
  subst e1
  exact ⟨z, hw, CellsD.one (by rw [Den])⟩
theorem flat_len {A : Type} {C : A → List AV} {s : Nat} (hC : ∀ a, (C a).length = s) : ∀ ls : List A, (ls.flatMap C).length = ls.length * s
  | [] => by simp
  | a :: ls => by rw [List.flatMap_cons, List.length_append, flat_len hC ls, hC]; simp [Nat.add_mul]; omega
theorem flat_at {A : Type} {C : A → List AV} {s : Nat} (hC : ∀ a, (C a).length = s) (hs : 0 < s) : ∀ (ls : List A) (i : Nat) (x : AV), (ls.flatMap C)[i]? = some x → ∃ a, ls[i / s]? = some a ∧ (C a)[i % s]? = some x
  | [], i, x, h => by simp at h
  | a :: ls, i, x, h => by
    rw [List.flatMap_cons] at h
    by_cases hi : i < s
    · rw [List.getElem?_append_left (by rw [hC]; exact hi)] at h
      exact ⟨a, by rw [Nat.div_eq_of_lt hi]; rfl, by rw [Nat.mod_eq_of_lt hi]; exact h⟩
    · rw [List.getElem?_append_right (by rw [hC]; omega), hC] at h
      obtain ⟨b, h1, h2⟩ := flat_at hC hs ls (i - s) x h
      refine ⟨b, ?_, ?_⟩
      · rw [show i / s = (i - s) / s + 1 by rw [← Nat.add_div_right _ hs]; congr 1; omega, List.getElem?_cons_succ]; exact h1
      · rw [show i % s = (i - s) % s by rw [← Nat.add_mod_right (i - s) s]; congr 1; omega]; exact h2
theorem choose_list {A : Type} {p : Nat → A → Prop} : ∀ (n : Nat), (∀ i, i < n → ∃ a, p i a) → ∃ ls : List A, ls.length = n ∧ ∀ i a, ls[i]? = some a → p i a
  | 0, _ => ⟨[], rfl, fun i a h => by simp at h⟩
  | n + 1, h => by
    obtain ⟨ls, h1, h2⟩ := choose_list n (fun i hi => h i (by omega))
    obtain ⟨a, ha⟩ := h n (by omega)
    refine ⟨ls ++ [a], by simp [h1], fun i b hb => ?_⟩
    by_cases hi : i < n
    · rw [List.getElem?_append_left (by omega)] at hb; exact h2 i b hb
    · rw [List.getElem?_append_right (by omega)] at hb
      have hl := (List.getElem?_eq_some_iff.1 hb).1
      simp only [List.length_singleton] at hl
      have e : i = n := by omega
      subst e
      rw [h1, Nat.sub_self] at hb
      simp only [List.getElem?_cons_zero, Option.some.injEq] at hb
      subst hb; exact ha

theorem rd_array {A : Type} {t e : TypeId} {n s : Nat} {C : A → List AV} {Okk : A → Prop} (ht : P.underlying t = some (.array n e)) (hct : P.cellsOf t = n * s) (hce : P.cellsOf e = s) (hs : 0 < s) (hC : ∀ a, (C a).length = s) (hr : Rd P Hh enc w base spare held e C Okk) :
    Rd P Hh enc w base spare held t (fun ls : List A => ls.flatMap C) (fun ls => ls.length = n ∧ ∀ a ∈ ls, Okk a) := by
  intro fuel cs x h
  obtain ⟨xs, m, _, _, hl, hx, hel⟩ := DataW.trod_array ht h
  rw [hct] at hl
  obtain ⟨ls, h1, h2⟩ := choose_list (p := fun i a => Okk a ∧ CellsD w (C a) ((cs.drop (i * s)).take s)) n fun i hi => by
    have hE := hel i hi
    rw [hce, List.getElem?_eq_getElem (by omega)] at hE
    exact hr _ _ _ hE
  refine ⟨ls, ⟨h1, fun a ha => ?_⟩, by rw [flat_len hC, h1, hl], DenL.of fun i x hx => ?_⟩
  · obtain ⟨i, hi, rfl⟩ := List.getElem_of_mem ha
    exact (h2 i _ (List.getElem?_eq_getElem hi)).1
  · obtain ⟨a, e1, e2⟩ := flat_at hC hs ls i x hx
    obtain ⟨v, hv, hd⟩ := (h2 _ _ e1).2.2.at e2
    refine ⟨v, ?_, hd⟩
    rw [List.getElem?_take, if_pos (Nat.mod_lt _ hs), List.getElem?_drop, Nat.mul_comm, Nat.div_add_mod] at hv
    exact hv

theorem rd_slice {A : Type} {t e : TypeId} {s : Nat} {C : A → List AV} {Okk : A → Prop} (ht : P.underlying t = some (.slice e)) (hce : P.cellsOf e = s) (hs : 0 < s) (hC : ∀ a, (C a).length = s) (hr : Rd P Hh enc w base spare held e C Okk)
    {fuel : Nat} {cs : List Value} {x : DataW Hh × List MemPlace} (hsp : ∀ a len cap, cs = [.slice (some a) len cap] → a.spot = none) (h : DataW.trod enc P w base spare held fuel t cs = some x) :
    ∃ (nl : Bool) (ls : List A), (∀ a ∈ ls, Okk a) ∧ ls.length ≤ maxLen ∧ CellsD w [.sl nl false ls.length (ls.flatMap C)] cs := by
  rcases open_slice ht h with ⟨rfl, -⟩ | ⟨a, len, cap, m, n, D, Pl, rfl, _, hl, hcm, hmm, _, hi⟩
  · refine ⟨true, [], by simp, Nat.zero_le _, CellsD.one ?_⟩
    rw [Den]
    exact ⟨none, 0, rfl, Nat.le_refl _, nofun, fun _ => ⟨rfl, rfl, rfl⟩, nofun⟩
  · have hlm : len ≤ m := by rw [hmm]; split <;> omega
    have hspot := hsp _ _ _ rfl
    obtain ⟨b, off, spot⟩ := a
    simp only at hspot
    subst hspot
    obtain ⟨ls, h1, h2⟩ := choose_list (p := fun i (a : A) => Okk a ∧ ∃ cs', w.cells? base ((⟨b, off, none⟩ : Addr).add (i * s)) s = some cs' ∧ CellsD w (C a) cs') len fun i hil => by
      obtain ⟨cs', hc, ht'⟩ := hi i (by omega)
      rw [hce] at hc
      obtain ⟨a, ha, hd⟩ := hr _ _ _ ht'
      exact ⟨a, ha, cs', hc, hd⟩
    subst h1
    have hcell : ∀ i x, (ls.flatMap C)[i]? = some x → ∃ v, w.cell? ⟨b, off + i, none⟩ = some v ∧ Den ρ0 w x v := fun i x hx => by
      obtain ⟨a, e1, e2⟩ := flat_at hC hs ls i x hx
      obtain ⟨-, cs', hc, hd⟩ := h2 _ _ e1
      obtain ⟨v, hv, hden⟩ := hd.2.at e2
      obtain ⟨-, -, hat⟩ := World.cells?_some hc
      have := hat (i % s) (Nat.mod_lt _ hs)
      rw [add_addr, add_addr] at this
      refine ⟨v, ?_, hden⟩
      rw [show off + i / s * s + i % s = off + i by rw [Nat.add_assoc, Nat.mul_comm, Nat.div_add_mod]] at this
      rw [this]; exact hv
    refine ⟨false, ls, fun a ha => ?_, by omega, CellsD.one ?_⟩
    · obtain ⟨i, hi, rfl⟩ := List.getElem_of_mem ha
      exact (h2 i _ (List.getElem?_eq_getElem hi)).1
    · rw [Den]
      refine ⟨_, cap, rfl, hl, nofun, nofun, fun _ => ⟨b, off, rfl, fun hne => ⟨?_, ρ0_free b⟩, DenL.of hcell⟩⟩
      obtain ⟨y, hy⟩ := List.exists_mem_of_ne_nil _ hne
      obtain ⟨i, hi', rfl⟩ := List.getElem_of_mem hy
      obtain ⟨v, hv, -⟩ := hcell i _ (List.getElem?_eq_getElem hi')
      unfold World.cell? at hv
      cases hb : w.heap[b]? with
      | none => simp [hb] at hv
      | some o => exact (Array.getElem?_eq_some_iff.1 hb).1

/-- A slice that was handed in lies at cells of its own. -/
theorem slice_spot {r : Reach} {t e : TypeId} (ht : P.underlying t = some (.slice e)) {a : Addr} {len cap : Nat} (h : Cell.okWide P w r base t (.slice (some a) len cap)) : a.spot = none := by
  simp only [Cell.okWide, Cell.ok, ht] at h
  exact h.2.2.2.1
end Go.Proofs.Ytaekibilldjnmaa
namespace Go.Proofs.Ytaekibilldjnmaa
open Go.Proofs
@[go_sem] theorem Try.sz0 : sizeT Try.prog 0 = some 1 := by kernel_rfl
@[go_sem] theorem Try.ag0 : aggT Try.prog 0 = some false := by kernel_rfl
@[go_sem] theorem Try.sz1 : sizeT Try.prog 1 = some 1 := by kernel_rfl
@[go_sem] theorem Try.ag1 : aggT Try.prog 1 = some false := by kernel_rfl
@[go_sem] theorem Try.sz2 : sizeT Try.prog 2 = some 1 := by kernel_rfl
@[go_sem] theorem Try.ag2 : aggT Try.prog 2 = some false := by kernel_rfl
@[go_sem] theorem Try.ze2 : zeroT Try.prog 2 = some [.int .i64 0] := by kernel_rfl
@[go_sem] theorem Try.sz3 : sizeT Try.prog 3 = some 1 := by kernel_rfl
@[go_sem] theorem Try.ag3 : aggT Try.prog 3 = some false := by kernel_rfl
@[go_sem] theorem Try.ze3 : zeroT Try.prog 3 = some [.int .i64 0] := by kernel_rfl
@[go_sem] theorem Try.sz4 : sizeT Try.prog 4 = some 1 := by kernel_rfl
@[go_sem] theorem Try.ag4 : aggT Try.prog 4 = some false := by kernel_rfl
@[go_sem] theorem Try.ze4 : zeroT Try.prog 4 = some [.bool false] := by kernel_rfl
@[go_sem] theorem Try.sz5 : sizeT Try.prog 5 = some 1 := by kernel_rfl
@[go_sem] theorem Try.ag5 : aggT Try.prog 5 = some false := by kernel_rfl
@[go_sem] theorem Try.ze5 : zeroT Try.prog 5 = some [.int .u8 0] := by kernel_rfl
@[go_sem] theorem Try.sz6 : sizeT Try.prog 6 = some 1 := by kernel_rfl
@[go_sem] theorem Try.ag6 : aggT Try.prog 6 = some false := by kernel_rfl
@[go_sem] theorem Try.ze6 : zeroT Try.prog 6 = some [.int .u8 0] := by kernel_rfl
@[go_sem] theorem Try.sz7 : sizeT Try.prog 7 = some 4 := by kernel_rfl
@[go_sem] theorem Try.ag7 : aggT Try.prog 7 = some true := by kernel_rfl
@[go_sem] theorem Try.ze7 : zeroT Try.prog 7 = some [.int .i64 0, .int .i64 0, .bool false, .int .u8 0] := by kernel_rfl
@[go_sem] theorem Try.fd7_0 : fieldO Try.prog 7 0 = some (2, 0) := by kernel_rfl
@[go_sem] theorem Try.fd7_1 : fieldO Try.prog 7 1 = some (3, 1) := by kernel_rfl
@[go_sem] theorem Try.fd7_2 : fieldO Try.prog 7 2 = some (4, 2) := by kernel_rfl
@[go_sem] theorem Try.fd7_3 : fieldO Try.prog 7 3 = some (6, 3) := by kernel_rfl
@[go_sem] theorem Try.sz8 : sizeT Try.prog 8 = some 4 := by kernel_rfl
@[go_sem] theorem Try.ag8 : aggT Try.prog 8 = some true := by kernel_rfl
@[go_sem] theorem Try.ze8 : zeroT Try.prog 8 = some [.int .i64 0, .int .i64 0, .bool false, .int .u8 0] := by kernel_rfl
@[go_sem] theorem Try.fd8_0 : fieldO Try.prog 8 0 = some (2, 0) := by kernel_rfl
@[go_sem] theorem Try.fd8_1 : fieldO Try.prog 8 1 = some (3, 1) := by kernel_rfl
@[go_sem] theorem Try.fd8_2 : fieldO Try.prog 8 2 = some (4, 2) := by kernel_rfl
@[go_sem] theorem Try.fd8_3 : fieldO Try.prog 8 3 = some (6, 3) := by kernel_rfl
@[go_sem] theorem Try.sz9 : sizeT Try.prog 9 = some 1 := by kernel_rfl
@[go_sem] theorem Try.ag9 : aggT Try.prog 9 = some false := by kernel_rfl
@[go_sem] theorem Try.sz10 : sizeT Try.prog 10 = some 1 := by kernel_rfl
@[go_sem] theorem Try.ag10 : aggT Try.prog 10 = some false := by kernel_rfl
@[go_sem] theorem Try.sz11 : sizeT Try.prog 11 = some 1 := by kernel_rfl
@[go_sem] theorem Try.ag11 : aggT Try.prog 11 = some false := by kernel_rfl
@[go_sem] theorem Try.sz12 : sizeT Try.prog 12 = some 1 := by kernel_rfl
@[go_sem] theorem Try.ag12 : aggT Try.prog 12 = some false := by kernel_rfl
@[go_sem] theorem Try.ze12 : zeroT Try.prog 12 = some [.int .u64 0] := by kernel_rfl
@[go_sem] theorem Try.sz13 : sizeT Try.prog 13 = some 2 := by kernel_rfl
@[go_sem] theorem Try.ag13 : aggT Try.prog 13 = some true := by kernel_rfl
@[go_sem] theorem Try.fd13_0 : fieldO Try.prog 13 0 = some (9, 0) := by kernel_rfl
@[go_sem] theorem Try.fd13_1 : fieldO Try.prog 13 1 = some (12, 1) := by kernel_rfl
@[go_sem] theorem Try.sz14 : sizeT Try.prog 14 = some 2 := by kernel_rfl
@[go_sem] theorem Try.ag14 : aggT Try.prog 14 = some true := by kernel_rfl
@[go_sem] theorem Try.fd14_0 : fieldO Try.prog 14 0 = some (9, 0) := by kernel_rfl
@[go_sem] theorem Try.fd14_1 : fieldO Try.prog 14 1 = some (12, 1) := by kernel_rfl
@[go_sem] theorem Try.sz15 : sizeT Try.prog 15 = some 1 := by kernel_rfl
@[go_sem] theorem Try.ag15 : aggT Try.prog 15 = some false := by kernel_rfl
@[go_sem] theorem Try.ze15 : zeroT Try.prog 15 = some [.nilp] := by kernel_rfl
@[go_sem] theorem Try.sz16 : sizeT Try.prog 16 = some 1 := by kernel_rfl
@[go_sem] theorem Try.ag16 : aggT Try.prog 16 = some false := by kernel_rfl
@[go_sem] theorem Try.ze16 : zeroT Try.prog 16 = some [.nilp] := by kernel_rfl
@[go_sem] theorem Try.sz17 : sizeT Try.prog 17 = some 1 := by kernel_rfl
@[go_sem] theorem Try.ag17 : aggT Try.prog 17 = some false := by kernel_rfl
@[go_sem] theorem Try.ze17 : zeroT Try.prog 17 = some [.nilp] := by kernel_rfl
@[go_sem] theorem Try.sz18 : sizeT Try.prog 18 = some 1 := by kernel_rfl
@[go_sem] theorem Try.ag18 : aggT Try.prog 18 = some true := by kernel_rfl
@[go_sem] theorem Try.ze18 : zeroT Try.prog 18 = some [.nilp] := by kernel_rfl
@[go_sem] theorem Try.fd18_0 : fieldO Try.prog 18 0 = some (17, 0) := by kernel_rfl
@[go_sem] theorem Try.sz19 : sizeT Try.prog 19 = some 1 := by kernel_rfl
@[go_sem] theorem Try.ag19 : aggT Try.prog 19 = some true := by kernel_rfl
@[go_sem] theorem Try.ze19 : zeroT Try.prog 19 = some [.nilp] := by kernel_rfl
@[go_sem] theorem Try.fd19_0 : fieldO Try.prog 19 0 = some (17, 0) := by kernel_rfl
@[go_sem] theorem Try.sz20 : sizeT Try.prog 20 = some 1 := by kernel_rfl
@[go_sem] theorem Try.ag20 : aggT Try.prog 20 = some false := by kernel_rfl
@[go_sem] theorem Try.sz21 : sizeT Try.prog 21 = some 1 := by kernel_rfl
@[go_sem] theorem Try.ag21 : aggT Try.prog 21 = some false := by kernel_rfl
@[go_sem] theorem Try.ze21 : zeroT Try.prog 21 = some [.int .i32 0] := by kernel_rfl
@[go_sem] theorem Try.sz22 : sizeT Try.prog 22 = some 6 := by kernel_rfl
@[go_sem] theorem Try.ag22 : aggT Try.prog 22 = some true := by kernel_rfl
@[go_sem] theorem Try.ze22 : zeroT Try.prog 22 = some [.int .u8 0, .int .u8 0, .int .u8 0, .int .u8 0, .int .u8 0, .int .u8 0] := by kernel_rfl
@[go_sem] theorem Try.sz23 : sizeT Try.prog 23 = some 1 := by kernel_rfl
@[go_sem] theorem Try.ag23 : aggT Try.prog 23 = some false := by kernel_rfl
@[go_sem] theorem Try.ze23 : zeroT Try.prog 23 = some [.sl true true 0 []] := by kernel_rfl
@[go_sem] theorem Try.sz24 : sizeT Try.prog 24 = some 3 := by kernel_rfl
@[go_sem] theorem Try.ag24 : aggT Try.prog 24 = some true := by kernel_rfl
@[go_sem] theorem Try.ze24 : zeroT Try.prog 24 = some [.int .u8 0, .int .u8 0, .int .u8 0] := by kernel_rfl
@[go_sem] theorem Try.sz25 : sizeT Try.prog 25 = some 10 := by kernel_rfl
@[go_sem] theorem Try.ag25 : aggT Try.prog 25 = some true := by kernel_rfl
@[go_sem] theorem Try.ze25 : zeroT Try.prog 25 = some [.int .u8 0, .int .u8 0, .int .u8 0, .int .u8 0, .int .u8 0, .int .u8 0, .sl true true 0 [], .int .u8 0, .int .u8 0, .int .u8 0] := by kernel_rfl
@[go_sem] theorem Try.fd25_0 : fieldO Try.prog 25 0 = some (22, 0) := by kernel_rfl
@[go_sem] theorem Try.fd25_1 : fieldO Try.prog 25 1 = some (23, 6) := by kernel_rfl
@[go_sem] theorem Try.fd25_2 : fieldO Try.prog 25 2 = some (24, 7) := by kernel_rfl
@[go_sem] theorem Try.sz26 : sizeT Try.prog 26 = some 10 := by kernel_rfl
@[go_sem] theorem Try.ag26 : aggT Try.prog 26 = some true := by kernel_rfl
@[go_sem] theorem Try.ze26 : zeroT Try.prog 26 = some [.int .u8 0, .int .u8 0, .int .u8 0, .int .u8 0, .int .u8 0, .int .u8 0, .sl true true 0 [], .int .u8 0, .int .u8 0, .int .u8 0] := by kernel_rfl
@[go_sem] theorem Try.fd26_0 : fieldO Try.prog 26 0 = some (22, 0) := by kernel_rfl
@[go_sem] theorem Try.fd26_1 : fieldO Try.prog 26 1 = some (23, 6) := by kernel_rfl
@[go_sem] theorem Try.fd26_2 : fieldO Try.prog 26 2 = some (24, 7) := by kernel_rfl
@[go_sem] theorem Try.sz27 : sizeT Try.prog 27 = some 1 := by kernel_rfl
@[go_sem] theorem Try.ag27 : aggT Try.prog 27 = some false := by kernel_rfl
@[go_sem] theorem Try.ze27 : zeroT Try.prog 27 = some [.sl true true 0 []] := by kernel_rfl
@[go_sem] theorem Try.sz28 : sizeT Try.prog 28 = some 1 := by kernel_rfl
@[go_sem] theorem Try.ag28 : aggT Try.prog 28 = some false := by kernel_rfl
@[go_sem] theorem Try.ze28 : zeroT Try.prog 28 = some [.sl true true 0 []] := by kernel_rfl
@[go_sem] theorem Try.sz29 : sizeT Try.prog 29 = some 1 := by kernel_rfl
@[go_sem] theorem Try.ag29 : aggT Try.prog 29 = some false := by kernel_rfl
@[go_sem] theorem Try.ze29 : zeroT Try.prog 29 = some [.sl true true 0 []] := by kernel_rfl
@[go_sem] theorem Try.sz30 : sizeT Try.prog 30 = some 5 := by kernel_rfl
@[go_sem] theorem Try.ag30 : aggT Try.prog 30 = some true := by kernel_rfl
@[go_sem] theorem Try.ze30 : zeroT Try.prog 30 = some [.sl true true 0 [], .sl true true 0 [], .int .i64 0, .int .i64 0, .int .i64 0] := by kernel_rfl
@[go_sem] theorem Try.fd30_0 : fieldO Try.prog 30 0 = some (28, 0) := by kernel_rfl
@[go_sem] theorem Try.fd30_1 : fieldO Try.prog 30 1 = some (29, 1) := by kernel_rfl
@[go_sem] theorem Try.fd30_2 : fieldO Try.prog 30 2 = some (3, 2) := by kernel_rfl
@[go_sem] theorem Try.fd30_3 : fieldO Try.prog 30 3 = some (3, 3) := by kernel_rfl
@[go_sem] theorem Try.fd30_4 : fieldO Try.prog 30 4 = some (3, 4) := by kernel_rfl
@[go_sem] theorem Try.sz31 : sizeT Try.prog 31 = some 5 := by kernel_rfl
@[go_sem] theorem Try.ag31 : aggT Try.prog 31 = some true := by kernel_rfl
@[go_sem] theorem Try.ze31 : zeroT Try.prog 31 = some [.sl true true 0 [], .sl true true 0 [], .int .i64 0, .int .i64 0, .int .i64 0] := by kernel_rfl
@[go_sem] theorem Try.fd31_0 : fieldO Try.prog 31 0 = some (28, 0) := by kernel_rfl
@[go_sem] theorem Try.fd31_1 : fieldO Try.prog 31 1 = some (29, 1) := by kernel_rfl
@[go_sem] theorem Try.fd31_2 : fieldO Try.prog 31 2 = some (3, 2) := by kernel_rfl
@[go_sem] theorem Try.fd31_3 : fieldO Try.prog 31 3 = some (3, 3) := by kernel_rfl
@[go_sem] theorem Try.fd31_4 : fieldO Try.prog 31 4 = some (3, 4) := by kernel_rfl
@[go_sem] theorem Try.sz32 : sizeT Try.prog 32 = some 1 := by kernel_rfl
@[go_sem] theorem Try.ag32 : aggT Try.prog 32 = some false := by kernel_rfl
@[go_sem] theorem Try.sz33 : sizeT Try.prog 33 = some 1 := by kernel_rfl
@[go_sem] theorem Try.ag33 : aggT Try.prog 33 = some false := by kernel_rfl
@[go_sem] theorem Try.sz34 : sizeT Try.prog 34 = some 1 := by kernel_rfl
@[go_sem] theorem Try.ag34 : aggT Try.prog 34 = some false := by kernel_rfl
@[go_sem] theorem Try.sz35 : sizeT Try.prog 35 = some 2 := by kernel_rfl
@[go_sem] theorem Try.ag35 : aggT Try.prog 35 = some true := by kernel_rfl
@[go_sem] theorem Try.ze35 : zeroT Try.prog 35 = some [.int .i64 0, .int .i64 0] := by kernel_rfl
@[go_sem] theorem Try.fd35_0 : fieldO Try.prog 35 0 = some (3, 0) := by kernel_rfl
@[go_sem] theorem Try.fd35_1 : fieldO Try.prog 35 1 = some (3, 1) := by kernel_rfl
@[go_sem] theorem Try.sz36 : sizeT Try.prog 36 = some 2 := by kernel_rfl
@[go_sem] theorem Try.ag36 : aggT Try.prog 36 = some true := by kernel_rfl
@[go_sem] theorem Try.ze36 : zeroT Try.prog 36 = some [.int .i64 0, .int .i64 0] := by kernel_rfl
@[go_sem] theorem Try.fd36_0 : fieldO Try.prog 36 0 = some (3, 0) := by kernel_rfl
@[go_sem] theorem Try.fd36_1 : fieldO Try.prog 36 1 = some (3, 1) := by kernel_rfl
@[go_sem] theorem Try.sz37 : sizeT Try.prog 37 = some 1 := by kernel_rfl
@[go_sem] theorem Try.ag37 : aggT Try.prog 37 = some false := by kernel_rfl
@[go_sem] theorem Try.sz38 : sizeT Try.prog 38 = some 1 := by kernel_rfl
@[go_sem] theorem Try.ag38 : aggT Try.prog 38 = some false := by kernel_rfl
@[go_sem] theorem Try.sz39 : sizeT Try.prog 39 = some 1 := by kernel_rfl
@[go_sem] theorem Try.ag39 : aggT Try.prog 39 = some false := by kernel_rfl
@[go_sem] theorem Try.ze39 : zeroT Try.prog 39 = some [.sl true true 0 []] := by kernel_rfl
@[go_sem] theorem Try.sz40 : sizeT Try.prog 40 = some 1 := by kernel_rfl
@[go_sem] theorem Try.ag40 : aggT Try.prog 40 = some false := by kernel_rfl
@[go_sem] theorem Try.ze40 : zeroT Try.prog 40 = some [.int .i64 0] := by kernel_rfl
@[go_sem] theorem Try.sz41 : sizeT Try.prog 41 = some 1 := by kernel_rfl
@[go_sem] theorem Try.ag41 : aggT Try.prog 41 = some false := by kernel_rfl
@[go_sem] theorem Try.sz42 : sizeT Try.prog 42 = some 1 := by kernel_rfl
@[go_sem] theorem Try.ag42 : aggT Try.prog 42 = some false := by kernel_rfl
@[go_sem] theorem Try.sz43 : sizeT Try.prog 43 = some 1 := by kernel_rfl
@[go_sem] theorem Try.ag43 : aggT Try.prog 43 = some false := by kernel_rfl
@[go_sem] theorem Try.sz44 : sizeT Try.prog 44 = some 1 := by kernel_rfl
@[go_sem] theorem Try.ag44 : aggT Try.prog 44 = some false := by kernel_rfl
@[go_sem] theorem Try.sz45 : sizeT Try.prog 45 = some 1 := by kernel_rfl
@[go_sem] theorem Try.ag45 : aggT Try.prog 45 = some false := by kernel_rfl
@[go_sem] theorem Try.sz46 : sizeT Try.prog 46 = some 2 := by kernel_rfl
@[go_sem] theorem Try.ag46 : aggT Try.prog 46 = some true := by kernel_rfl
@[go_sem] theorem Try.ze46 : zeroT Try.prog 46 = some [.int .u8 0, .int .u8 0] := by kernel_rfl
@[go_sem] theorem Try.sz47 : sizeT Try.prog 47 = some 3 := by kernel_rfl
@[go_sem] theorem Try.ag47 : aggT Try.prog 47 = some true := by kernel_rfl
@[go_sem] theorem Try.ze47 : zeroT Try.prog 47 = some [.int .i64 0, .int .i64 0, .int .i64 0] := by kernel_rfl
@[go_sem] theorem Try.fd47_0 : fieldO Try.prog 47 0 = some (3, 0) := by kernel_rfl
@[go_sem] theorem Try.fd47_1 : fieldO Try.prog 47 1 = some (3, 1) := by kernel_rfl
@[go_sem] theorem Try.fd47_2 : fieldO Try.prog 47 2 = some (3, 2) := by kernel_rfl
@[go_sem] theorem Try.sz48 : sizeT Try.prog 48 = some 3 := by kernel_rfl
@[go_sem] theorem Try.ag48 : aggT Try.prog 48 = some true := by kernel_rfl
@[go_sem] theorem Try.ze48 : zeroT Try.prog 48 = some [.int .i64 0, .int .i64 0, .int .i64 0] := by kernel_rfl
@[go_sem] theorem Try.fd48_0 : fieldO Try.prog 48 0 = some (3, 0) := by kernel_rfl
@[go_sem] theorem Try.fd48_1 : fieldO Try.prog 48 1 = some (3, 1) := by kernel_rfl
@[go_sem] theorem Try.fd48_2 : fieldO Try.prog 48 2 = some (3, 2) := by kernel_rfl
@[go_sem] theorem Try.sz49 : sizeT Try.prog 49 = some 1 := by kernel_rfl
@[go_sem] theorem Try.ag49 : aggT Try.prog 49 = some false := by kernel_rfl
@[go_sem] theorem Try.sz50 : sizeT Try.prog 50 = some 1 := by kernel_rfl
@[go_sem] theorem Try.ag50 : aggT Try.prog 50 = some false := by kernel_rfl
@[go_sem] theorem Try.sz51 : sizeT Try.prog 51 = some 1 := by kernel_rfl
@[go_sem] theorem Try.ag51 : aggT Try.prog 51 = some false := by kernel_rfl
@[go_sem] theorem Try.sz52 : sizeT Try.prog 52 = some 1 := by kernel_rfl
@[go_sem] theorem Try.ag52 : aggT Try.prog 52 = some false := by kernel_rfl
@[go_sem] theorem Try.sz53 : sizeT Try.prog 53 = some 1 := by kernel_rfl
@[go_sem] theorem Try.ag53 : aggT Try.prog 53 = some false := by kernel_rfl
@[go_sem] theorem Try.sz54 : sizeT Try.prog 54 = some 1 := by kernel_rfl
@[go_sem] theorem Try.ag54 : aggT Try.prog 54 = some false := by kernel_rfl
@[go_sem] theorem Try.sz55 : sizeT Try.prog 55 = some 1 := by kernel_rfl
@[go_sem] theorem Try.ag55 : aggT Try.prog 55 = some false := by kernel_rfl
@[go_sem] theorem Try.sz56 : sizeT Try.prog 56 = some 1 := by kernel_rfl
@[go_sem] theorem Try.ag56 : aggT Try.prog 56 = some false := by kernel_rfl
@[go_sem] theorem Try.sz57 : sizeT Try.prog 57 = some 1 := by kernel_rfl
@[go_sem] theorem Try.ag57 : aggT Try.prog 57 = some false := by kernel_rfl
@[go_sem] theorem Try.sz58 : sizeT Try.prog 58 = some 1 := by kernel_rfl
@[go_sem] theorem Try.ag58 : aggT Try.prog 58 = some false := by kernel_rfl
@[go_sem] theorem Try.sz59 : sizeT Try.prog 59 = some 1 := by kernel_rfl
@[go_sem] theorem Try.ag59 : aggT Try.prog 59 = some false := by kernel_rfl
@[go_sem] theorem Try.sz60 : sizeT Try.prog 60 = some 1 := by kernel_rfl
@[go_sem] theorem Try.ag60 : aggT Try.prog 60 = some false := by kernel_rfl
@[go_sem] theorem Try.sz61 : sizeT Try.prog 61 = some 1 := by kernel_rfl
@[go_sem] theorem Try.ag61 : aggT Try.prog 61 = some false := by kernel_rfl
@[go_sem] theorem Try.sz62 : sizeT Try.prog 62 = some 1 := by kernel_rfl
@[go_sem] theorem Try.ag62 : aggT Try.prog 62 = some false := by kernel_rfl
@[go_sem] theorem Try.sz63 : sizeT Try.prog 63 = some 1 := by kernel_rfl
@[go_sem] theorem Try.ag63 : aggT Try.prog 63 = some false := by kernel_rfl
@[go_sem] theorem Try.ze63 : zeroT Try.prog 63 = some [.nilm] := by kernel_rfl
@[go_sem] theorem Try.sz64 : sizeT Try.prog 64 = some 6 := by kernel_rfl
@[go_sem] theorem Try.ag64 : aggT Try.prog 64 = some true := by kernel_rfl
@[go_sem] theorem Try.ze64 : zeroT Try.prog 64 = some [.sl true true 0 [], .sl true true 0 [], .int .i64 0, .int .i64 0, .int .i64 0, .nilm] := by kernel_rfl
@[go_sem] theorem Try.fd64_0 : fieldO Try.prog 64 0 = some (31, 0) := by kernel_rfl
@[go_sem] theorem Try.fd64_1 : fieldO Try.prog 64 1 = some (63, 5) := by kernel_rfl
@[go_sem] theorem Try.sz65 : sizeT Try.prog 65 = some 6 := by kernel_rfl
@[go_sem] theorem Try.ag65 : aggT Try.prog 65 = some true := by kernel_rfl
@[go_sem] theorem Try.ze65 : zeroT Try.prog 65 = some [.sl true true 0 [], .sl true true 0 [], .int .i64 0, .int .i64 0, .int .i64 0, .nilm] := by kernel_rfl
@[go_sem] theorem Try.fd65_0 : fieldO Try.prog 65 0 = some (31, 0) := by kernel_rfl
@[go_sem] theorem Try.fd65_1 : fieldO Try.prog 65 1 = some (63, 5) := by kernel_rfl
@[go_sem] theorem Try.sz66 : sizeT Try.prog 66 = some 1 := by kernel_rfl
@[go_sem] theorem Try.ag66 : aggT Try.prog 66 = some false := by kernel_rfl
@[go_sem] theorem Try.sz67 : sizeT Try.prog 67 = some 9 := by kernel_rfl
@[go_sem] theorem Try.ag67 : aggT Try.prog 67 = some true := by kernel_rfl
@[go_sem] theorem Try.ze67 : zeroT Try.prog 67 = some [.sl true true 0 [], .sl true true 0 [], .int .i64 0, .int .i64 0, .int .i64 0, .nilm, .sl true true 0 [], .int .i64 0, .int .i64 0] := by kernel_rfl
@[go_sem] theorem Try.fd67_0 : fieldO Try.prog 67 0 = some (65, 0) := by kernel_rfl
@[go_sem] theorem Try.fd67_1 : fieldO Try.prog 67 1 = some (28, 6) := by kernel_rfl
@[go_sem] theorem Try.fd67_2 : fieldO Try.prog 67 2 = some (36, 7) := by kernel_rfl
@[go_sem] theorem Try.sz68 : sizeT Try.prog 68 = some 9 := by kernel_rfl
@[go_sem] theorem Try.ag68 : aggT Try.prog 68 = some true := by kernel_rfl
@[go_sem] theorem Try.ze68 : zeroT Try.prog 68 = some [.sl true true 0 [], .sl true true 0 [], .int .i64 0, .int .i64 0, .int .i64 0, .nilm, .sl true true 0 [], .int .i64 0, .int .i64 0] := by kernel_rfl
@[go_sem] theorem Try.fd68_0 : fieldO Try.prog 68 0 = some (65, 0) := by kernel_rfl
@[go_sem] theorem Try.fd68_1 : fieldO Try.prog 68 1 = some (28, 6) := by kernel_rfl
@[go_sem] theorem Try.fd68_2 : fieldO Try.prog 68 2 = some (36, 7) := by kernel_rfl
@[go_sem] theorem Try.sz69 : sizeT Try.prog 69 = some 1 := by kernel_rfl
@[go_sem] theorem Try.ag69 : aggT Try.prog 69 = some false := by kernel_rfl
@[go_sem] theorem Try.sz70 : sizeT Try.prog 70 = some 1 := by kernel_rfl
@[go_sem] theorem Try.ag70 : aggT Try.prog 70 = some false := by kernel_rfl
@[go_sem] theorem Try.sz71 : sizeT Try.prog 71 = some 1 := by kernel_rfl
@[go_sem] theorem Try.ag71 : aggT Try.prog 71 = some false := by kernel_rfl
@[go_sem] theorem Try.sz72 : sizeT Try.prog 72 = some 1 := by kernel_rfl
@[go_sem] theorem Try.ag72 : aggT Try.prog 72 = some false := by kernel_rfl
@[go_sem] theorem Try.sz73 : sizeT Try.prog 73 = some 1 := by kernel_rfl
@[go_sem] theorem Try.ag73 : aggT Try.prog 73 = some false := by kernel_rfl
@[go_sem] theorem Try.sz74 : sizeT Try.prog 74 = some 1 := by kernel_rfl
@[go_sem] theorem Try.ag74 : aggT Try.prog 74 = some false := by kernel_rfl
@[go_sem] theorem Try.sz75 : sizeT Try.prog 75 = some 1 := by kernel_rfl
@[go_sem] theorem Try.ag75 : aggT Try.prog 75 = some false := by kernel_rfl
@[go_sem] theorem Try.sz76 : sizeT Try.prog 76 = some 1 := by kernel_rfl
@[go_sem] theorem Try.ag76 : aggT Try.prog 76 = some false := by kernel_rfl
@[go_sem] theorem Try.sz77 : sizeT Try.prog 77 = some 1 := by kernel_rfl
@[go_sem] theorem Try.ag77 : aggT Try.prog 77 = some false := by kernel_rfl
@[go_sem] theorem Try.sz78 : sizeT Try.prog 78 = some 1 := by kernel_rfl
@[go_sem] theorem Try.ag78 : aggT Try.prog 78 = some false := by kernel_rfl
@[go_sem] theorem Try.sz79 : sizeT Try.prog 79 = some 1 := by kernel_rfl
@[go_sem] theorem Try.ag79 : aggT Try.prog 79 = some false := by kernel_rfl
@[go_sem] theorem Try.sz80 : sizeT Try.prog 80 = some 1 := by kernel_rfl
@[go_sem] theorem Try.ag80 : aggT Try.prog 80 = some false := by kernel_rfl
@[go_sem] theorem Try.sz81 : sizeT Try.prog 81 = some 1 := by kernel_rfl
@[go_sem] theorem Try.ag81 : aggT Try.prog 81 = some false := by kernel_rfl
@[go_sem] theorem Try.sz82 : sizeT Try.prog 82 = some 1 := by kernel_rfl
@[go_sem] theorem Try.ag82 : aggT Try.prog 82 = some false := by kernel_rfl
@[go_sem] theorem Try.sz83 : sizeT Try.prog 83 = some 1 := by kernel_rfl
@[go_sem] theorem Try.ag83 : aggT Try.prog 83 = some false := by kernel_rfl
@[go_sem] theorem Try.sz84 : sizeT Try.prog 84 = some 1 := by kernel_rfl
@[go_sem] theorem Try.ag84 : aggT Try.prog 84 = some false := by kernel_rfl
@[go_sem] theorem Try.sz85 : sizeT Try.prog 85 = some 1 := by kernel_rfl
@[go_sem] theorem Try.ag85 : aggT Try.prog 85 = some false := by kernel_rfl
@[go_sem] theorem Try.sz86 : sizeT Try.prog 86 = some 1 := by kernel_rfl
@[go_sem] theorem Try.ag86 : aggT Try.prog 86 = some false := by kernel_rfl
@[go_sem] theorem Try.sz87 : sizeT Try.prog 87 = some 1 := by kernel_rfl
@[go_sem] theorem Try.ag87 : aggT Try.prog 87 = some false := by kernel_rfl
@[go_sem] theorem Try.sz88 : sizeT Try.prog 88 = some 1 := by kernel_rfl
@[go_sem] theorem Try.ag88 : aggT Try.prog 88 = some false := by kernel_rfl
@[go_sem] theorem Try.sz89 : sizeT Try.prog 89 = some 1 := by kernel_rfl
@[go_sem] theorem Try.ag89 : aggT Try.prog 89 = some false := by kernel_rfl
@[go_sem] theorem Try.sz90 : sizeT Try.prog 90 = some 1 := by kernel_rfl
@[go_sem] theorem Try.ag90 : aggT Try.prog 90 = some false := by kernel_rfl
@[go_sem] theorem Try.sz91 : sizeT Try.prog 91 = some 1 := by kernel_rfl
@[go_sem] theorem Try.ag91 : aggT Try.prog 91 = some false := by kernel_rfl
@[go_sem] theorem Try.sz92 : sizeT Try.prog 92 = some 2 := by kernel_rfl
@[go_sem] theorem Try.ag92 : aggT Try.prog 92 = some true := by kernel_rfl
@[go_sem] theorem Try.ze92 : zeroT Try.prog 92 = some [.int .i64 0, .int .i64 0] := by kernel_rfl
@[go_sem] theorem Try.sz93 : sizeT Try.prog 93 = some 1 := by kernel_rfl
@[go_sem] theorem Try.ag93 : aggT Try.prog 93 = some false := by kernel_rfl
@[go_sem] theorem Try.sz94 : sizeT Try.prog 94 = some 1 := by kernel_rfl
@[go_sem] theorem Try.ag94 : aggT Try.prog 94 = some false := by kernel_rfl
@[go_sem] theorem Try.sz95 : sizeT Try.prog 95 = some 1 := by kernel_rfl
@[go_sem] theorem Try.ag95 : aggT Try.prog 95 = some false := by kernel_rfl
@[go_sem] theorem Try.sz96 : sizeT Try.prog 96 = some 1 := by kernel_rfl
@[go_sem] theorem Try.ag96 : aggT Try.prog 96 = some false := by kernel_rfl
@[go_sem] theorem Try.sz97 : sizeT Try.prog 97 = some 1 := by kernel_rfl
@[go_sem] theorem Try.ag97 : aggT Try.prog 97 = some false := by kernel_rfl
@[go_sem] theorem Try.sz98 : sizeT Try.prog 98 = some 1 := by kernel_rfl
@[go_sem] theorem Try.ag98 : aggT Try.prog 98 = some false := by kernel_rfl
@[go_sem] theorem Try.sz99 : sizeT Try.prog 99 = some 1 := by kernel_rfl
@[go_sem] theorem Try.ag99 : aggT Try.prog 99 = some false := by kernel_rfl
@[go_sem] theorem Try.sz100 : sizeT Try.prog 100 = some 1 := by kernel_rfl
@[go_sem] theorem Try.ag100 : aggT Try.prog 100 = some false := by kernel_rfl
@[go_sem] theorem Try.sz101 : sizeT Try.prog 101 = some 1 := by kernel_rfl
@[go_sem] theorem Try.ag101 : aggT Try.prog 101 = some false := by kernel_rfl
@[go_sem] theorem Try.sz102 : sizeT Try.prog 102 = some 1 := by kernel_rfl
@[go_sem] theorem Try.ag102 : aggT Try.prog 102 = some false := by kernel_rfl
@[go_sem] theorem Try.sz103 : sizeT Try.prog 103 = some 1 := by kernel_rfl
@[go_sem] theorem Try.ag103 : aggT Try.prog 103 = some false := by kernel_rfl
@[go_sem] theorem Try.sz104 : sizeT Try.prog 104 = some 1 := by kernel_rfl
@[go_sem] theorem Try.ag104 : aggT Try.prog 104 = some false := by kernel_rfl
@[go_sem] theorem Try.sz105 : sizeT Try.prog 105 = some 1 := by kernel_rfl
@[go_sem] theorem Try.ag105 : aggT Try.prog 105 = some false := by kernel_rfl
@[go_sem] theorem Try.sz106 : sizeT Try.prog 106 = some 1 := by kernel_rfl
@[go_sem] theorem Try.ag106 : aggT Try.prog 106 = some false := by kernel_rfl
@[go_sem] theorem Try.sz107 : sizeT Try.prog 107 = some 1 := by kernel_rfl
@[go_sem] theorem Try.ag107 : aggT Try.prog 107 = some false := by kernel_rfl
@[go_sem] theorem Try.sz108 : sizeT Try.prog 108 = some 1 := by kernel_rfl
@[go_sem] theorem Try.ag108 : aggT Try.prog 108 = some false := by kernel_rfl
@[go_sem] theorem Try.sz109 : sizeT Try.prog 109 = some 1 := by kernel_rfl
@[go_sem] theorem Try.ag109 : aggT Try.prog 109 = some false := by kernel_rfl
@[go_sem] theorem Try.sz110 : sizeT Try.prog 110 = some 1 := by kernel_rfl
@[go_sem] theorem Try.ag110 : aggT Try.prog 110 = some false := by kernel_rfl
@[go_sem] theorem Try.sz111 : sizeT Try.prog 111 = some 1 := by kernel_rfl
@[go_sem] theorem Try.ag111 : aggT Try.prog 111 = some false := by kernel_rfl
@[go_sem] theorem Try.sz112 : sizeT Try.prog 112 = some 1 := by kernel_rfl
@[go_sem] theorem Try.ag112 : aggT Try.prog 112 = some false := by kernel_rfl
@[go_sem] theorem Try.sz113 : sizeT Try.prog 113 = some 1 := by kernel_rfl
@[go_sem] theorem Try.ag113 : aggT Try.prog 113 = some false := by kernel_rfl
@[go_sem] theorem Try.sz114 : sizeT Try.prog 114 = some 1 := by kernel_rfl
@[go_sem] theorem Try.ag114 : aggT Try.prog 114 = some false := by kernel_rfl
@[go_sem] theorem Try.sz115 : sizeT Try.prog 115 = some 1 := by kernel_rfl
@[go_sem] theorem Try.ag115 : aggT Try.prog 115 = some false := by kernel_rfl
@[go_sem] theorem Try.sz116 : sizeT Try.prog 116 = some 1 := by kernel_rfl
@[go_sem] theorem Try.ag116 : aggT Try.prog 116 = some false := by kernel_rfl
@[go_sem] theorem Try.sz117 : sizeT Try.prog 117 = some 1 := by kernel_rfl
@[go_sem] theorem Try.ag117 : aggT Try.prog 117 = some false := by kernel_rfl
@[go_sem] theorem Try.sz118 : sizeT Try.prog 118 = some 1 := by kernel_rfl
@[go_sem] theorem Try.ag118 : aggT Try.prog 118 = some false := by kernel_rfl
@[go_sem] theorem Try.sz119 : sizeT Try.prog 119 = some 1 := by kernel_rfl
@[go_sem] theorem Try.ag119 : aggT Try.prog 119 = some false := by kernel_rfl
@[go_sem] theorem Try.sz120 : sizeT Try.prog 120 = some 1 := by kernel_rfl
@[go_sem] theorem Try.ag120 : aggT Try.prog 120 = some false := by kernel_rfl
@[go_sem] theorem Try.sz121 : sizeT Try.prog 121 = some 1 := by kernel_rfl
@[go_sem] theorem Try.ag121 : aggT Try.prog 121 = some false := by kernel_rfl
@[go_sem] theorem Try.sz122 : sizeT Try.prog 122 = some 1 := by kernel_rfl
@[go_sem] theorem Try.ag122 : aggT Try.prog 122 = some false := by kernel_rfl
@[go_sem] theorem Try.sz123 : sizeT Try.prog 123 = some 1 := by kernel_rfl
@[go_sem] theorem Try.ag123 : aggT Try.prog 123 = some false := by kernel_rfl
@[go_sem] theorem Try.sz124 : sizeT Try.prog 124 = some 1 := by kernel_rfl
@[go_sem] theorem Try.ag124 : aggT Try.prog 124 = some false := by kernel_rfl
@[go_sem] theorem Try.sz125 : sizeT Try.prog 125 = some 1 := by kernel_rfl
@[go_sem] theorem Try.ag125 : aggT Try.prog 125 = some false := by kernel_rfl
@[go_sem] theorem Try.sz126 : sizeT Try.prog 126 = some 1 := by kernel_rfl
@[go_sem] theorem Try.ag126 : aggT Try.prog 126 = some false := by kernel_rfl
@[go_sem] theorem Try.sz127 : sizeT Try.prog 127 = some 1 := by kernel_rfl
@[go_sem] theorem Try.ag127 : aggT Try.prog 127 = some false := by kernel_rfl
@[go_sem] theorem Try.sz128 : sizeT Try.prog 128 = some 1 := by kernel_rfl
@[go_sem] theorem Try.ag128 : aggT Try.prog 128 = some false := by kernel_rfl
@[go_sem] theorem Try.sz129 : sizeT Try.prog 129 = some 1 := by kernel_rfl
@[go_sem] theorem Try.ag129 : aggT Try.prog 129 = some false := by kernel_rfl
@[go_sem] theorem Try.sz130 : sizeT Try.prog 130 = some 4 := by kernel_rfl
@[go_sem] theorem Try.ag130 : aggT Try.prog 130 = some true := by kernel_rfl
@[go_sem] theorem Try.fd130_0 : fieldO Try.prog 130 0 = some (17, 0) := by kernel_rfl
@[go_sem] theorem Try.fd130_1 : fieldO Try.prog 130 1 = some (17, 1) := by kernel_rfl
@[go_sem] theorem Try.fd130_2 : fieldO Try.prog 130 2 = some (17, 2) := by kernel_rfl
@[go_sem] theorem Try.fd130_3 : fieldO Try.prog 130 3 = some (9, 3) := by kernel_rfl
@[go_sem] theorem Try.sz131 : sizeT Try.prog 131 = some 4 := by kernel_rfl
@[go_sem] theorem Try.ag131 : aggT Try.prog 131 = some true := by kernel_rfl
@[go_sem] theorem Try.fd131_0 : fieldO Try.prog 131 0 = some (17, 0) := by kernel_rfl
@[go_sem] theorem Try.fd131_1 : fieldO Try.prog 131 1 = some (17, 1) := by kernel_rfl
@[go_sem] theorem Try.fd131_2 : fieldO Try.prog 131 2 = some (17, 2) := by kernel_rfl
@[go_sem] theorem Try.fd131_3 : fieldO Try.prog 131 3 = some (9, 3) := by kernel_rfl
@[go_sem] theorem Try.sz132 : sizeT Try.prog 132 = some 0 := by kernel_rfl
@[go_sem] theorem Try.ag132 : aggT Try.prog 132 = some true := by kernel_rfl
@[go_sem] theorem Try.ze132 : zeroT Try.prog 132 = some [] := by kernel_rfl
@[go_sem] theorem Try.sz133 : sizeT Try.prog 133 = some 0 := by kernel_rfl
@[go_sem] theorem Try.ag133 : aggT Try.prog 133 = some true := by kernel_rfl
@[go_sem] theorem Try.ze133 : zeroT Try.prog 133 = some [] := by kernel_rfl
@[go_sem] theorem Try.fd133_0 : fieldO Try.prog 133 0 = some (132, 0) := by kernel_rfl
@[go_sem] theorem Try.sz134 : sizeT Try.prog 134 = some 0 := by kernel_rfl
@[go_sem] theorem Try.ag134 : aggT Try.prog 134 = some true := by kernel_rfl
@[go_sem] theorem Try.ze134 : zeroT Try.prog 134 = some [] := by kernel_rfl
@[go_sem] theorem Try.fd134_0 : fieldO Try.prog 134 0 = some (132, 0) := by kernel_rfl
@[go_sem] theorem Try.sz135 : sizeT Try.prog 135 = some 1 := by kernel_rfl
@[go_sem] theorem Try.ag135 : aggT Try.prog 135 = some false := by kernel_rfl
@[go_sem] theorem Try.sz136 : sizeT Try.prog 136 = some 1 := by kernel_rfl
@[go_sem] theorem Try.ag136 : aggT Try.prog 136 = some false := by kernel_rfl
@[go_sem] theorem Try.ze136 : zeroT Try.prog 136 = some [.int .u32 0] := by kernel_rfl
@[go_sem] theorem Try.sz137 : sizeT Try.prog 137 = some 1 := by kernel_rfl
@[go_sem] theorem Try.ag137 : aggT Try.prog 137 = some false := by kernel_rfl
@[go_sem] theorem Try.ze137 : zeroT Try.prog 137 = some [.int .u8 0] := by kernel_rfl
@[go_sem] theorem Try.sz138 : sizeT Try.prog 138 = some 1 := by kernel_rfl
@[go_sem] theorem Try.ag138 : aggT Try.prog 138 = some false := by kernel_rfl
@[go_sem] theorem Try.ze138 : zeroT Try.prog 138 = some [.int .u8 0] := by kernel_rfl
@[go_sem] theorem Try.sz139 : sizeT Try.prog 139 = some 1 := by kernel_rfl
@[go_sem] theorem Try.ag139 : aggT Try.prog 139 = some false := by kernel_rfl
@[go_sem] theorem Try.sz140 : sizeT Try.prog 140 = some 1 := by kernel_rfl
@[go_sem] theorem Try.ag140 : aggT Try.prog 140 = some false := by kernel_rfl
@[go_sem] theorem Try.ze140 : zeroT Try.prog 140 = some [.nilp] := by kernel_rfl
@[go_sem] theorem Try.sz141 : sizeT Try.prog 141 = some 1 := by kernel_rfl
@[go_sem] theorem Try.ag141 : aggT Try.prog 141 = some false := by kernel_rfl
@[go_sem] theorem Try.ze141 : zeroT Try.prog 141 = some [.int .i32 0] := by kernel_rfl
@[go_sem] theorem Try.sz142 : sizeT Try.prog 142 = some 1 := by kernel_rfl
@[go_sem] theorem Try.ag142 : aggT Try.prog 142 = some false := by kernel_rfl
@[go_sem] theorem Try.ze142 : zeroT Try.prog 142 = some [.int .i32 0] := by kernel_rfl
@[go_sem] theorem Try.sz143 : sizeT Try.prog 143 = some 11 := by kernel_rfl
@[go_sem] theorem Try.ag143 : aggT Try.prog 143 = some true := by kernel_rfl
@[go_sem] theorem Try.ze143 : zeroT Try.prog 143 = some [.int .u64 0, .int .u64 0, .int .u32 0, .int .u8 0, .int .u8 0, .int .u8 0, .int .u8 0, .nilf, .nilp, .int .i32 0, .int .i32 0] := by kernel_rfl
@[go_sem] theorem Try.fd143_0 : fieldO Try.prog 143 0 = some (12, 0) := by kernel_rfl
@[go_sem] theorem Try.fd143_1 : fieldO Try.prog 143 1 = some (12, 1) := by kernel_rfl
@[go_sem] theorem Try.fd143_2 : fieldO Try.prog 143 2 = some (136, 2) := by kernel_rfl
@[go_sem] theorem Try.fd143_3 : fieldO Try.prog 143 3 = some (137, 3) := by kernel_rfl
@[go_sem] theorem Try.fd143_4 : fieldO Try.prog 143 4 = some (5, 4) := by kernel_rfl
@[go_sem] theorem Try.fd143_5 : fieldO Try.prog 143 5 = some (5, 5) := by kernel_rfl
@[go_sem] theorem Try.fd143_6 : fieldO Try.prog 143 6 = some (138, 6) := by kernel_rfl
@[go_sem] theorem Try.fd143_7 : fieldO Try.prog 143 7 = some (139, 7) := by kernel_rfl
@[go_sem] theorem Try.fd143_8 : fieldO Try.prog 143 8 = some (140, 8) := by kernel_rfl
@[go_sem] theorem Try.fd143_9 : fieldO Try.prog 143 9 = some (141, 9) := by kernel_rfl
@[go_sem] theorem Try.fd143_10 : fieldO Try.prog 143 10 = some (142, 10) := by kernel_rfl
@[go_sem] theorem Try.sz144 : sizeT Try.prog 144 = some 11 := by kernel_rfl
@[go_sem] theorem Try.ag144 : aggT Try.prog 144 = some true := by kernel_rfl
@[go_sem] theorem Try.ze144 : zeroT Try.prog 144 = some [.int .u64 0, .int .u64 0, .int .u32 0, .int .u8 0, .int .u8 0, .int .u8 0, .int .u8 0, .nilf, .nilp, .int .i32 0, .int .i32 0] := by kernel_rfl
@[go_sem] theorem Try.fd144_0 : fieldO Try.prog 144 0 = some (12, 0) := by kernel_rfl
@[go_sem] theorem Try.fd144_1 : fieldO Try.prog 144 1 = some (12, 1) := by kernel_rfl
@[go_sem] theorem Try.fd144_2 : fieldO Try.prog 144 2 = some (136, 2) := by kernel_rfl
@[go_sem] theorem Try.fd144_3 : fieldO Try.prog 144 3 = some (137, 3) := by kernel_rfl
@[go_sem] theorem Try.fd144_4 : fieldO Try.prog 144 4 = some (5, 4) := by kernel_rfl
@[go_sem] theorem Try.fd144_5 : fieldO Try.prog 144 5 = some (5, 5) := by kernel_rfl
@[go_sem] theorem Try.fd144_6 : fieldO Try.prog 144 6 = some (138, 6) := by kernel_rfl
@[go_sem] theorem Try.fd144_7 : fieldO Try.prog 144 7 = some (139, 7) := by kernel_rfl
@[go_sem] theorem Try.fd144_8 : fieldO Try.prog 144 8 = some (140, 8) := by kernel_rfl
@[go_sem] theorem Try.fd144_9 : fieldO Try.prog 144 9 = some (141, 9) := by kernel_rfl
@[go_sem] theorem Try.fd144_10 : fieldO Try.prog 144 10 = some (142, 10) := by kernel_rfl
@[go_sem] theorem Try.sz145 : sizeT Try.prog 145 = some 1 := by kernel_rfl
@[go_sem] theorem Try.ag145 : aggT Try.prog 145 = some false := by kernel_rfl
@[go_sem] theorem Try.ze145 : zeroT Try.prog 145 = some [.nilp] := by kernel_rfl
theorem Try.el23 {n : Nat} (h : n * 2 ≤ 140737488355328) : Elem Try.prog 23 46 2 n := Elem.of Try.underlying23 (z := .agg #[.int .u8 0, .int .u8 0]) (bytes := 2) (by kernel_rfl) rfl h (by omega)
theorem Try.el27 {n : Nat} (h : n * 1 ≤ 140737488355328) : Elem Try.prog 27 5 1 n := Elem.of Try.underlying27 (z := .int .u8 0) (bytes := 1) (by kernel_rfl) rfl h (by omega)
theorem Try.el28 {n : Nat} (h : n * 8 ≤ 140737488355328) : Elem Try.prog 28 3 1 n := Elem.of Try.underlying28 (z := .int .i64 0) (bytes := 8) (by kernel_rfl) rfl h (by omega)
theorem Try.el29 {n : Nat} (h : n * 24 ≤ 140737488355328) : Elem Try.prog 29 48 3 n := Elem.of Try.underlying29 (z := .agg #[.int .i64 0, .int .i64 0, .int .i64 0]) (bytes := 24) (by kernel_rfl) rfl h (by omega)
theorem Try.el39 {n : Nat} (h : n * 24 ≤ 140737488355328) : Elem Try.prog 39 28 1 n := Elem.of Try.underlying39 (z := .slice none 0 0) (bytes := 24) (by kernel_rfl) rfl h (by omega)
attribute [go_sem] Try.underlying0 Try.underlying1 Try.underlying2 Try.underlying3 Try.underlying4 Try.underlying5 Try.underlying6 Try.underlying7 Try.underlying8 Try.underlying9 Try.underlying10 Try.underlying11 Try.underlying12 Try.underlying13 Try.underlying14 Try.underlying15 Try.underlying16 Try.underlying17 Try.underlying18 Try.underlying19 Try.underlying20 Try.underlying21 Try.underlying22 Try.underlying23 Try.underlying24 Try.underlying25 Try.underlying26 Try.underlying27 Try.underlying28 Try.underlying29 Try.underlying30 Try.underlying31 Try.underlying32 Try.underlying33 Try.underlying34 Try.underlying35 Try.underlying36 Try.underlying37 Try.underlying38 Try.underlying39 Try.underlying40 Try.underlying41 Try.underlying42 Try.underlying43 Try.underlying44 Try.underlying45 Try.underlying46 Try.underlying47 Try.underlying48 Try.underlying49 Try.underlying50 Try.underlying51 Try.underlying52 Try.underlying53 Try.underlying54 Try.underlying55 Try.underlying56 Try.underlying57 Try.underlying58 Try.underlying59 Try.underlying60 Try.underlying61 Try.underlying62 Try.underlying63 Try.underlying64 Try.underlying65 Try.underlying66 Try.underlying67 Try.underlying68 Try.underlying69 Try.underlying70 Try.underlying71 Try.underlying72 Try.underlying73 Try.underlying74 Try.underlying75 Try.underlying76 Try.underlying77 Try.underlying78 Try.underlying79 Try.underlying80 Try.underlying81 Try.underlying82 Try.underlying83 Try.underlying84 Try.underlying85 Try.underlying86 Try.underlying87 Try.underlying88 Try.underlying89 Try.underlying90 Try.underlying91 Try.underlying92 Try.underlying93 Try.underlying94 Try.underlying95 Try.underlying96 Try.underlying97 Try.underlying98 Try.underlying99 Try.underlying100 Try.underlying101 Try.underlying102 Try.underlying103 Try.underlying104 Try.underlying105 Try.underlying106 Try.underlying107 Try.underlying108 Try.underlying109 Try.underlying110 Try.underlying111 Try.underlying112 Try.underlying113 Try.underlying114 Try.underlying115 Try.underlying116 Try.underlying117 Try.underlying118 Try.underlying119 Try.underlying120 Try.underlying121 Try.underlying122 Try.underlying123 Try.underlying124 Try.underlying125 Try.underlying126 Try.underlying127 Try.underlying128 Try.underlying129 Try.underlying130 Try.underlying131 Try.underlying132 Try.underlying133 Try.underlying134 Try.underlying135 Try.underlying136 Try.underlying137 Try.underlying138 Try.underlying139 Try.underlying140 Try.underlying141 Try.underlying142 Try.underlying143 Try.underlying144 Try.underlying145
attribute [go_sem] if_true if_false beq_self_eq_true Nat.zero_add Nat.add_zero and_self and_true true_and Bool.and_true Bool.true_and Bool.and_self Bool.and_false Bool.false_and Bool.not_true Bool.not_false decide_true decide_false Nat.le_refl Nat.sub_self Nat.sub_zero Nat.mul_one Nat.zero_le Nat.zero_mul List.drop_zero
theorem Try.mixed : Try.prog.follows .mixedOrders = true := by kernel_rfl
end Go.Proofs.Ytaekibilldjnmaa
namespace Go.Proofs.Ytaekibilldjnmaa
open Go.Proofs

abbrev vint (n : Int) : AV := .int .i64 n
abbrev vints (nl clip : Bool) (xs : List Int) : AV := .sl nl clip xs.length (xs.map vint)
theorem all_one_ints (xs : List Int) : (xs.map vint).all AV.one = true := by simp [AV.one]
theorem ints_get (xs : List Int) {k : Nat} (hk : k < xs.length) : (xs.map vint)[k]? = some (vint xs[k]) := by simp [hk]

/-- The first number below n with a property, or -1. -/
def firstN (q : Nat → Bool) : Nat → Nat → Int
  | _, 0 => -1
  | k, m + 1 => if q k then (k : Int) else firstN q (k + 1) m
theorem firstN_hit (q : Nat → Bool) : ∀ (m s k : Nat), s ≤ k → k < s + m → (∀ j, s ≤ j → j < k → q j = false) → q k = true → firstN q s m = k
  | 0, s, k, h1, h2, _, _ => by omega
  | m + 1, s, k, h1, h2, h3, h4 => by
    unfold firstN
    by_cases e : s = k
    · subst e; rw [if_pos h4]
    · rw [if_neg (by rw [h3 s (Nat.le_refl _) (by omega)]; simp)]
      exact firstN_hit q m (s + 1) k (by omega) (by omega) (fun j hj => h3 j (by omega)) h4
theorem firstN_none (q : Nat → Bool) : ∀ (m s : Nat), (∀ j, s ≤ j → j < s + m → q j = false) → firstN q s m = -1
  | 0, s, _ => rfl
  | m + 1, s, h => by
    unfold firstN
    rw [if_neg (by rw [h s (Nat.le_refl _) (by omega)]; simp)]
    exact firstN_none q m (s + 1) (fun j h1 h2 => h j (by omega) (by omega))
theorem firstN_ge (q : Nat → Bool) (n : Nat) : decide (firstN q 0 n ≥ 0) = !decide (∀ i, i < n → q i = false) := by
  by_cases h : ∀ i, i < n → q i = false
  · rw [firstN_none q n 0 (fun j _ hj => h j (by omega)), decide_eq_true h]; rfl
  · rw [decide_eq_false h]
    have : ∃ k, k < n ∧ q k = true ∧ ∀ j, j < k → q j = false := by
      simp only [Classical.not_forall] at h
      obtain ⟨i, hi, hq⟩ := h
      have hex : ∃ i, i < n ∧ q i = true := ⟨i, hi, by simpa using hq⟩
      clear hi hq
      obtain ⟨i, hi⟩ := hex
      induction i using Nat.strongRecOn with
      | _ i ih =>
        by_cases e : ∃ j, j < i ∧ q j = true
        · obtain ⟨j, hj, hq⟩ := e; exact ih j hj ⟨by omega, hq⟩
        · exact ⟨i, hi.1, hi.2, fun j hj => by cases hqj : q j with
            | false => rfl
            | true => exact absurd ⟨j, hj, hqj⟩ e⟩
    obtain ⟨k, hk, hq, hj⟩ := this
    rw [firstN_hit q n 0 k (Nat.zero_le _) (by omega) (fun j _ h => hj j h) hq]
    simp

/-- 'slices.IndexFunc', 'slices.ContainsFunc', 'every': of a condition that turns nothing. -/
theorem idx_int (H : Hp) (nl clip : Bool) (n : Nat) (cells : List AV) (els : Nat → AV) (g : FuncId) (fs cs : List AV) (q : Nat → Bool) (hn : n < 1000000) (hl : cells.length = n) (hr : ∀ k, k < n → cells[k]? = some (els k)) (eg : EntersF Try.prog g)
    (hq : ∀ k, k < n → CallV Try.prog g (fs ++ [els k] ++ cs) H (fun r H' => r = .bool (q k) ∧ H' = H)) : CallV Try.prog 93 [.sl nl clip n cells, .fn (.func g) fs cs] H (fun r H' => r = vint (firstN q 0 n) ∧ H' = H) := by
  refine CallV.body Try.func93 rfl Try.ntmps93 (by rfl) ?_
  refine WpV.seq (WpV.regionE (by simp only [go_sem, reduceCtorEq, Nat.reduceAdd, Nat.reduceMul, Nat.reduceSub, Nat.reduceLT, Nat.reduceLeDiff, Nat.reduceEqDiff, Nat.reduceBEq, Nat.reducePow]; rfl) (Marks.nil _) ?_)
  simp only [Vthen, VinBlock, if_true, if_false, Nat.reduceEqDiff, reduceCtorEq]
  refine WpV.seq (WpV.seq (WpV.regionE (by simp only [go_sem, reduceCtorEq, Nat.reduceAdd, Nat.reduceMul, Nat.reduceSub, Nat.reduceLT, Nat.reduceLeDiff, Nat.reduceEqDiff, Nat.reduceBEq, Nat.reducePow]; rfl) (Marks.nil _) ?_))
  simp only [Vthen, VinBlock, if_true, if_false, Nat.reduceEqDiff, reduceCtorEq]
  refine WpV.block (WpV.loopP n (fun k => ∀ j, j < k → q j = false) (fun k => [(0, .sl nl clip n cells), (1, .fn (.func g) fs cs), (7, vint n), (8, vint k)]) (fun _ => H) (fun j hj => absurd hj (Nat.not_lt_zero _)) ?_ rfl ?_)
  · exact .cons rfl rfl (.cons rfl rfl (.cons rfl rfl (.cons rfl rfl (.nil _))))
  · intro k hk hp
    refine WpV.seq (WpV.regionE (by simp only [go_sem, reduceCtorEq, Nat.reduceAdd, Nat.reduceMul, Nat.reduceSub, Nat.reduceLT, Nat.reduceLeDiff, Nat.reduceEqDiff, Nat.reduceBEq, Nat.reducePow]; rfl) (Marks.nil _) ?_)
    simp only [Vthen, VinBlock, if_true, if_false, Nat.reduceEqDiff, reduceCtorEq]
    refine WpV.seq (WpV.cond rfl (fun hb => WpV.skip ?_) (fun hb => WpV.exit ?_))
    · have hlt : (k : Int) < (n : Int) := of_decide_eq_true hb
      have hlt' : k < n := by omega
      simp only [Vthen, VinBlock, if_true, if_false, Nat.reduceEqDiff, reduceCtorEq]
      refine WpV.seq (WpV.block (WpV.seq (WpV.regionE (by simp only [go_sem, reduceCtorEq, Nat.reduceAdd, Nat.reduceMul, Nat.reduceSub, Nat.reduceLT, Nat.reduceLeDiff, Nat.reduceEqDiff, Nat.reduceBEq, Nat.reducePow]; rfl) (Marks.nil _) ?_)))
      simp only [Vthen, VinBlock, if_true, if_false, Nat.reduceEqDiff, reduceCtorEq]
      refine WpV.seq (WpV.region ?_)
      refine WpOps.take 5 (by simp only [go_sem, reduceCtorEq, Nat.reduceAdd, Nat.reduceMul, Nat.reduceSub, Nat.reduceLT, Nat.reduceLeDiff, Nat.reduceEqDiff, Nat.reduceBEq, Nat.reducePow, hlt, hr k hlt']; rfl) ?_
      refine WpOps.step (by rfl) (by rfl) (OpW.callY rfl (by rfl) (by rfl) (by rfl) eg ((hq k hlt').mono ?_))
      rintro _ _ ⟨rfl, rfl⟩
      refine WpOps.nil ⟨Marks.nil _, ?_⟩
      simp only [Vthen, VinBlock, if_true, if_false, Nat.reduceEqDiff, reduceCtorEq]
      refine WpV.cond rfl (fun hqk => ?_) (fun hqk => WpV.skip ?_)
      · refine WpV.seq (WpV.regionE (by simp only [go_sem, reduceCtorEq, Nat.reduceAdd, Nat.reduceMul, Nat.reduceSub, Nat.reduceLT, Nat.reduceLeDiff, Nat.reduceEqDiff, Nat.reduceBEq, Nat.reducePow]; rfl) (Marks.nil _) ?_)
        simp only [Vthen, VinBlock, if_true, if_false, Nat.reduceEqDiff, reduceCtorEq]
        refine WpV.ret ⟨Marks.nil _, List.nodup_nil, _, by simp only [Try.results93]; simp only [go_sem, reduceCtorEq, Nat.reduceAdd, Nat.reduceMul, Nat.reduceSub, Nat.reduceLT, Nat.reduceLeDiff, Nat.reduceEqDiff, Nat.reduceBEq, Nat.reducePow]; rfl, ?_⟩
        exact ⟨by rw [firstN_hit q n 0 k (Nat.zero_le _) (by omega) (fun j _ hj => hp j hj) hqk], rfl⟩
      · simp only [Vthen, VinBlock, if_true, if_false, Nat.reduceEqDiff, reduceCtorEq]
        refine WpV.regionE (by simp only [go_sem, reduceCtorEq, Nat.reduceAdd, Nat.reduceMul, Nat.reduceSub, Nat.reduceLT, Nat.reduceLeDiff, Nat.reduceEqDiff, Nat.reduceBEq, Nat.reducePow]; rfl) (Marks.nil _) ?_
        simp only [Vthen, VinBlock, if_true, if_false, Nat.reduceEqDiff, reduceCtorEq]
        refine ⟨by first | rfl | trivial, hlt', fun j hj => ?_, .cons rfl rfl (.cons rfl rfl (.cons rfl rfl (.cons rfl ?_ (.nil _)))), by first | rfl | trivial⟩
        · by_cases e : j = k
          · subst e; exact hqk
          · exact hp j (by omega)
        · rw [wrap64 (by omega)]; rfl
    · have hge : k = n := by have := of_decide_eq_false hb; omega
      subst hge
      simp only [Vthen, VinBlock, if_true, if_false, Nat.reduceEqDiff, reduceCtorEq]
      refine WpV.seq (WpV.regionE (by simp only [go_sem, reduceCtorEq, Nat.reduceAdd, Nat.reduceMul, Nat.reduceSub, Nat.reduceLT, Nat.reduceLeDiff, Nat.reduceEqDiff, Nat.reduceBEq, Nat.reducePow]; rfl) (Marks.nil _) ?_)
      simp only [Vthen, VinBlock, if_true, if_false, Nat.reduceEqDiff, reduceCtorEq]
      refine WpV.ret ⟨Marks.nil _, List.nodup_nil, _, by simp only [Try.results93]; simp only [go_sem, reduceCtorEq, Nat.reduceAdd, Nat.reduceMul, Nat.reduceSub, Nat.reduceLT, Nat.reduceLeDiff, Nat.reduceEqDiff, Nat.reduceBEq, Nat.reducePow]; rfl, ?_⟩
      exact ⟨by rw [firstN_none q k 0 (fun j _ hj => hp j (by omega))], rfl⟩

theorem cont_int (H : Hp) (nl clip : Bool) (n : Nat) (cells : List AV) (els : Nat → AV) (g : FuncId) (fs cs : List AV) (q : Nat → Bool) (hn : n < 1000000) (hl : cells.length = n) (hr : ∀ k, k < n → cells[k]? = some (els k)) (eg : EntersF Try.prog g)
    (hq : ∀ k, k < n → CallV Try.prog g (fs ++ [els k] ++ cs) H (fun r H' => r = .bool (q k) ∧ H' = H)) : CallV Try.prog 79 [.sl nl clip n cells, .fn (.func g) fs cs] H (fun r H' => r = .bool (!decide (∀ i, i < n → q i = false)) ∧ H' = H) := by
  refine CallV.body Try.func79 rfl Try.ntmps79 (by rfl) ?_
  refine WpV.seq (WpV.regionE (by simp only [go_sem, reduceCtorEq, Nat.reduceAdd, Nat.reduceMul, Nat.reduceSub, Nat.reduceLT, Nat.reduceLeDiff, Nat.reduceEqDiff, Nat.reduceBEq, Nat.reducePow]; rfl) (Marks.nil _) ?_)
  simp only [Vthen, VinBlock, if_true, if_false, Nat.reduceEqDiff, reduceCtorEq]
  refine WpV.seq (WpV.region ?_)
  refine WpOps.take 2 (by simp only [go_sem, reduceCtorEq, Nat.reduceAdd, Nat.reduceMul, Nat.reduceSub, Nat.reduceLT, Nat.reduceLeDiff, Nat.reduceEqDiff, Nat.reduceBEq, Nat.reducePow]; rfl) ?_
  refine WpOps.step (by rfl) (by rfl) (OpW.callY rfl (by rfl) (by rfl) (by rfl) (enters_of Try.func93 (by kernel_rfl) rfl) ((idx_int H nl clip n cells els g fs cs q hn hl hr eg hq).mono ?_))
  rintro _ _ ⟨rfl, hH⟩
  replace hH := hH.symm
  subst hH
  refine WpOps.take 2 (by simp only [go_sem, reduceCtorEq, Nat.reduceAdd, Nat.reduceMul, Nat.reduceSub, Nat.reduceLT, Nat.reduceLeDiff, Nat.reduceEqDiff, Nat.reduceBEq, Nat.reducePow]; rfl) (WpOps.nil ⟨Marks.nil _, ?_⟩)
  simp only [Vthen, VinBlock, if_true, if_false, Nat.reduceEqDiff, reduceCtorEq]
  refine WpV.ret ⟨Marks.nil _, List.nodup_nil, _, by simp only [Try.results79]; simp only [go_sem, reduceCtorEq, Nat.reduceAdd, Nat.reduceMul, Nat.reduceSub, Nat.reduceLT, Nat.reduceLeDiff, Nat.reduceEqDiff, Nat.reduceBEq, Nat.reducePow]; rfl, ?_⟩
  exact ⟨by rw [← firstN_ge], rfl⟩

theorem every1_int (H : Hp) (x : AV) (g : FuncId) (fs cs : List AV) (q : Bool) (eg : EntersF Try.prog g) (hq : CallV Try.prog g (fs ++ [x] ++ cs) H (fun r H' => r = .bool q ∧ H' = H)) :
    CallV Try.prog 80 [x, .cp [.fn (.func g) fs cs] 0] H (fun r H' => r = .bool (!q) ∧ H' = H) := by
  refine CallV.body Try.func80 rfl Try.ntmps80 (by rfl) ?_
  refine WpV.seq (WpV.regionE (by simp only [go_sem, reduceCtorEq, Nat.reduceAdd, Nat.reduceMul, Nat.reduceSub, Nat.reduceLT, Nat.reduceLeDiff, Nat.reduceEqDiff, Nat.reduceBEq, Nat.reducePow]; rfl) (Marks.nil _) ?_)
  simp only [Vthen, VinBlock, if_true, if_false, Nat.reduceEqDiff, reduceCtorEq]
  refine WpV.seq (WpV.region ?_)
  refine WpOps.take 2 (by simp only [go_sem, reduceCtorEq, Nat.reduceAdd, Nat.reduceMul, Nat.reduceSub, Nat.reduceLT, Nat.reduceLeDiff, Nat.reduceEqDiff, Nat.reduceBEq, Nat.reducePow]; rfl) ?_
  refine WpOps.step (by rfl) (by rfl) (OpW.callY rfl (by rfl) (by rfl) (by rfl) eg (hq.mono ?_))
  rintro _ _ ⟨rfl, rfl⟩
  refine WpOps.take 2 (by simp only [go_sem, reduceCtorEq, Nat.reduceAdd, Nat.reduceMul, Nat.reduceSub, Nat.reduceLT, Nat.reduceLeDiff, Nat.reduceEqDiff, Nat.reduceBEq, Nat.reducePow]; rfl) (WpOps.nil ⟨Marks.nil _, ?_⟩)
  simp only [Vthen, VinBlock, if_true, if_false, Nat.reduceEqDiff, reduceCtorEq]
  refine WpV.ret ⟨Marks.nil _, List.nodup_nil, _, by simp only [Try.results80]; simp only [go_sem, reduceCtorEq, Nat.reduceAdd, Nat.reduceMul, Nat.reduceSub, Nat.reduceLT, Nat.reduceLeDiff, Nat.reduceEqDiff, Nat.reduceBEq, Nat.reducePow]; rfl, ?_⟩
  exact ⟨by first | rfl | trivial, rfl⟩

theorem every_int (H : Hp) (nl clip : Bool) (n : Nat) (cells : List AV) (els : Nat → AV) (g : FuncId) (fs cs : List AV) (q : Nat → Bool) (hn : n < 1000000) (hl : cells.length = n) (hr : ∀ k, k < n → cells[k]? = some (els k)) (eg : EntersF Try.prog g)
    (hq : ∀ k, k < n → CallV Try.prog g (fs ++ [els k] ++ cs) H (fun r H' => r = .bool (q k) ∧ H' = H)) : CallV Try.prog 60 [.sl nl clip n cells, .fn (.func g) fs cs] H (fun r H' => r = .bool (decide (∀ i, i < n → q i = true)) ∧ H' = H) := by
  refine CallV.body Try.func60 rfl Try.ntmps60 (by rfl) ?_
  refine WpV.seq (WpV.regionE (by simp only [go_sem, reduceCtorEq, Nat.reduceAdd, Nat.reduceMul, Nat.reduceSub, Nat.reduceLT, Nat.reduceLeDiff, Nat.reduceEqDiff, Nat.reduceBEq, Nat.reducePow]; rfl) (Marks.nil _) ?_)
  simp only [Vthen, VinBlock, if_true, if_false, Nat.reduceEqDiff, reduceCtorEq]
  refine WpV.seq (WpV.region ?_)
  refine WpOps.take 2 (by simp only [go_sem, reduceCtorEq, Nat.reduceAdd, Nat.reduceMul, Nat.reduceSub, Nat.reduceLT, Nat.reduceLeDiff, Nat.reduceEqDiff, Nat.reduceBEq, Nat.reducePow]; rfl) ?_
  refine WpOps.step (by rfl) (by rfl) (OpW.callY rfl (by rfl) (by rfl) (by rfl) (enters_of Try.func79 (by kernel_rfl) rfl) ((cont_int H nl clip n cells els 80 [] [.cp [.fn (.func g) fs cs] 0] (fun k => !q k) hn hl hr (enters_of Try.func80 (by kernel_rfl) rfl) (fun k hk => every1_int H _ g fs cs (q k) eg (hq k hk))).mono ?_))
  rintro _ _ ⟨rfl, hH⟩
  replace hH := hH.symm
  subst hH
  refine WpOps.take 2 (by simp only [go_sem, reduceCtorEq, Nat.reduceAdd, Nat.reduceMul, Nat.reduceSub, Nat.reduceLT, Nat.reduceLeDiff, Nat.reduceEqDiff, Nat.reduceBEq, Nat.reducePow]; rfl) (WpOps.nil ⟨Marks.nil _, ?_⟩)
  simp only [Vthen, VinBlock, if_true, if_false, Nat.reduceEqDiff, reduceCtorEq]
  refine WpV.ret ⟨Marks.nil _, List.nodup_nil, _, by simp only [Try.results60]; simp only [go_sem, reduceCtorEq, Nat.reduceAdd, Nat.reduceMul, Nat.reduceSub, Nat.reduceLT, Nat.reduceLeDiff, Nat.reduceEqDiff, Nat.reduceBEq, Nat.reducePow]; rfl, ?_⟩
  exact ⟨by congr 1; simp, rfl⟩

/-- 'slices.IndexFunc', 'slices.ContainsFunc', 'every': of a condition that turns nothing. -/
theorem idx_row (H : Hp) (nl clip : Bool) (n : Nat) (cells : List AV) (els : Nat → AV) (g : FuncId) (fs cs : List AV) (q : Nat → Bool) (hn : n < 1000000) (hl : cells.length = n) (hr : ∀ k, k < n → cells[k]? = some (els k)) (eg : EntersF Try.prog g)
    (hq : ∀ k, k < n → CallV Try.prog g (fs ++ [els k] ++ cs) H (fun r H' => r = .bool (q k) ∧ H' = H)) : CallV Try.prog 101 [.sl nl clip n cells, .fn (.func g) fs cs] H (fun r H' => r = vint (firstN q 0 n) ∧ H' = H) := by
  refine CallV.body Try.func101 rfl Try.ntmps101 (by rfl) ?_
  refine WpV.seq (WpV.regionE (by simp only [go_sem, reduceCtorEq, Nat.reduceAdd, Nat.reduceMul, Nat.reduceSub, Nat.reduceLT, Nat.reduceLeDiff, Nat.reduceEqDiff, Nat.reduceBEq, Nat.reducePow]; rfl) (Marks.nil _) ?_)
  simp only [Vthen, VinBlock, if_true, if_false, Nat.reduceEqDiff, reduceCtorEq]
  refine WpV.seq (WpV.seq (WpV.regionE (by simp only [go_sem, reduceCtorEq, Nat.reduceAdd, Nat.reduceMul, Nat.reduceSub, Nat.reduceLT, Nat.reduceLeDiff, Nat.reduceEqDiff, Nat.reduceBEq, Nat.reducePow]; rfl) (Marks.nil _) ?_))
  simp only [Vthen, VinBlock, if_true, if_false, Nat.reduceEqDiff, reduceCtorEq]
  refine WpV.block (WpV.loopP n (fun k => ∀ j, j < k → q j = false) (fun k => [(0, .sl nl clip n cells), (1, .fn (.func g) fs cs), (7, vint n), (8, vint k)]) (fun _ => H) (fun j hj => absurd hj (Nat.not_lt_zero _)) ?_ rfl ?_)
  · exact .cons rfl rfl (.cons rfl rfl (.cons rfl rfl (.cons rfl rfl (.nil _))))
  · intro k hk hp
    refine WpV.seq (WpV.regionE (by simp only [go_sem, reduceCtorEq, Nat.reduceAdd, Nat.reduceMul, Nat.reduceSub, Nat.reduceLT, Nat.reduceLeDiff, Nat.reduceEqDiff, Nat.reduceBEq, Nat.reducePow]; rfl) (Marks.nil _) ?_)
    simp only [Vthen, VinBlock, if_true, if_false, Nat.reduceEqDiff, reduceCtorEq]
    refine WpV.seq (WpV.cond rfl (fun hb => WpV.skip ?_) (fun hb => WpV.exit ?_))
    · have hlt : (k : Int) < (n : Int) := of_decide_eq_true hb
      have hlt' : k < n := by omega
      simp only [Vthen, VinBlock, if_true, if_false, Nat.reduceEqDiff, reduceCtorEq]
      refine WpV.seq (WpV.block (WpV.seq (WpV.regionE (by simp only [go_sem, reduceCtorEq, Nat.reduceAdd, Nat.reduceMul, Nat.reduceSub, Nat.reduceLT, Nat.reduceLeDiff, Nat.reduceEqDiff, Nat.reduceBEq, Nat.reducePow]; rfl) (Marks.nil _) ?_)))
      simp only [Vthen, VinBlock, if_true, if_false, Nat.reduceEqDiff, reduceCtorEq]
      refine WpV.seq (WpV.region ?_)
      refine WpOps.take 5 (by simp only [go_sem, reduceCtorEq, Nat.reduceAdd, Nat.reduceMul, Nat.reduceSub, Nat.reduceLT, Nat.reduceLeDiff, Nat.reduceEqDiff, Nat.reduceBEq, Nat.reducePow, hlt, hr k hlt']; rfl) ?_
      refine WpOps.step (by rfl) (by rfl) (OpW.callY rfl (by rfl) (by rfl) (by rfl) eg ((hq k hlt').mono ?_))
      rintro _ _ ⟨rfl, rfl⟩
      refine WpOps.nil ⟨Marks.nil _, ?_⟩
      simp only [Vthen, VinBlock, if_true, if_false, Nat.reduceEqDiff, reduceCtorEq]
      refine WpV.cond rfl (fun hqk => ?_) (fun hqk => WpV.skip ?_)
      · refine WpV.seq (WpV.regionE (by simp only [go_sem, reduceCtorEq, Nat.reduceAdd, Nat.reduceMul, Nat.reduceSub, Nat.reduceLT, Nat.reduceLeDiff, Nat.reduceEqDiff, Nat.reduceBEq, Nat.reducePow]; rfl) (Marks.nil _) ?_)
        simp only [Vthen, VinBlock, if_true, if_false, Nat.reduceEqDiff, reduceCtorEq]
        refine WpV.ret ⟨Marks.nil _, List.nodup_nil, _, by simp only [Try.results101]; simp only [go_sem, reduceCtorEq, Nat.reduceAdd, Nat.reduceMul, Nat.reduceSub, Nat.reduceLT, Nat.reduceLeDiff, Nat.reduceEqDiff, Nat.reduceBEq, Nat.reducePow]; rfl, ?_⟩
        exact ⟨by rw [firstN_hit q n 0 k (Nat.zero_le _) (by omega) (fun j _ hj => hp j hj) hqk], rfl⟩
      · simp only [Vthen, VinBlock, if_true, if_false, Nat.reduceEqDiff, reduceCtorEq]
        refine WpV.regionE (by simp only [go_sem, reduceCtorEq, Nat.reduceAdd, Nat.reduceMul, Nat.reduceSub, Nat.reduceLT, Nat.reduceLeDiff, Nat.reduceEqDiff, Nat.reduceBEq, Nat.reducePow]; rfl) (Marks.nil _) ?_
        simp only [Vthen, VinBlock, if_true, if_false, Nat.reduceEqDiff, reduceCtorEq]
        refine ⟨by first | rfl | trivial, hlt', fun j hj => ?_, .cons rfl rfl (.cons rfl rfl (.cons rfl rfl (.cons rfl ?_ (.nil _)))), by first | rfl | trivial⟩
        · by_cases e : j = k
          · subst e; exact hqk
          · exact hp j (by omega)
        · rw [wrap64 (by omega)]; rfl
    · have hge : k = n := by have := of_decide_eq_false hb; omega
      subst hge
      simp only [Vthen, VinBlock, if_true, if_false, Nat.reduceEqDiff, reduceCtorEq]
      refine WpV.seq (WpV.regionE (by simp only [go_sem, reduceCtorEq, Nat.reduceAdd, Nat.reduceMul, Nat.reduceSub, Nat.reduceLT, Nat.reduceLeDiff, Nat.reduceEqDiff, Nat.reduceBEq, Nat.reducePow]; rfl) (Marks.nil _) ?_)
      simp only [Vthen, VinBlock, if_true, if_false, Nat.reduceEqDiff, reduceCtorEq]
      refine WpV.ret ⟨Marks.nil _, List.nodup_nil, _, by simp only [Try.results101]; simp only [go_sem, reduceCtorEq, Nat.reduceAdd, Nat.reduceMul, Nat.reduceSub, Nat.reduceLT, Nat.reduceLeDiff, Nat.reduceEqDiff, Nat.reduceBEq, Nat.reducePow]; rfl, ?_⟩
      exact ⟨by rw [firstN_none q k 0 (fun j _ hj => hp j (by omega))], rfl⟩

theorem cont_row (H : Hp) (nl clip : Bool) (n : Nat) (cells : List AV) (els : Nat → AV) (g : FuncId) (fs cs : List AV) (q : Nat → Bool) (hn : n < 1000000) (hl : cells.length = n) (hr : ∀ k, k < n → cells[k]? = some (els k)) (eg : EntersF Try.prog g)
    (hq : ∀ k, k < n → CallV Try.prog g (fs ++ [els k] ++ cs) H (fun r H' => r = .bool (q k) ∧ H' = H)) : CallV Try.prog 94 [.sl nl clip n cells, .fn (.func g) fs cs] H (fun r H' => r = .bool (!decide (∀ i, i < n → q i = false)) ∧ H' = H) := by
  refine CallV.body Try.func94 rfl Try.ntmps94 (by rfl) ?_
  refine WpV.seq (WpV.regionE (by simp only [go_sem, reduceCtorEq, Nat.reduceAdd, Nat.reduceMul, Nat.reduceSub, Nat.reduceLT, Nat.reduceLeDiff, Nat.reduceEqDiff, Nat.reduceBEq, Nat.reducePow]; rfl) (Marks.nil _) ?_)
  simp only [Vthen, VinBlock, if_true, if_false, Nat.reduceEqDiff, reduceCtorEq]
  refine WpV.seq (WpV.region ?_)
  refine WpOps.take 2 (by simp only [go_sem, reduceCtorEq, Nat.reduceAdd, Nat.reduceMul, Nat.reduceSub, Nat.reduceLT, Nat.reduceLeDiff, Nat.reduceEqDiff, Nat.reduceBEq, Nat.reducePow]; rfl) ?_
  refine WpOps.step (by rfl) (by rfl) (OpW.callY rfl (by rfl) (by rfl) (by rfl) (enters_of Try.func101 (by kernel_rfl) rfl) ((idx_row H nl clip n cells els g fs cs q hn hl hr eg hq).mono ?_))
  rintro _ _ ⟨rfl, hH⟩
  replace hH := hH.symm
  subst hH
  refine WpOps.take 2 (by simp only [go_sem, reduceCtorEq, Nat.reduceAdd, Nat.reduceMul, Nat.reduceSub, Nat.reduceLT, Nat.reduceLeDiff, Nat.reduceEqDiff, Nat.reduceBEq, Nat.reducePow]; rfl) (WpOps.nil ⟨Marks.nil _, ?_⟩)
  simp only [Vthen, VinBlock, if_true, if_false, Nat.reduceEqDiff, reduceCtorEq]
  refine WpV.ret ⟨Marks.nil _, List.nodup_nil, _, by simp only [Try.results94]; simp only [go_sem, reduceCtorEq, Nat.reduceAdd, Nat.reduceMul, Nat.reduceSub, Nat.reduceLT, Nat.reduceLeDiff, Nat.reduceEqDiff, Nat.reduceBEq, Nat.reducePow]; rfl, ?_⟩
  exact ⟨by rw [← firstN_ge], rfl⟩

theorem every1_row (H : Hp) (x : AV) (g : FuncId) (fs cs : List AV) (q : Bool) (eg : EntersF Try.prog g) (hq : CallV Try.prog g (fs ++ [x] ++ cs) H (fun r H' => r = .bool q ∧ H' = H)) :
    CallV Try.prog 95 [x, .cp [.fn (.func g) fs cs] 0] H (fun r H' => r = .bool (!q) ∧ H' = H) := by
  refine CallV.body Try.func95 rfl Try.ntmps95 (by rfl) ?_
  refine WpV.seq (WpV.regionE (by simp only [go_sem, reduceCtorEq, Nat.reduceAdd, Nat.reduceMul, Nat.reduceSub, Nat.reduceLT, Nat.reduceLeDiff, Nat.reduceEqDiff, Nat.reduceBEq, Nat.reducePow]; rfl) (Marks.nil _) ?_)
  simp only [Vthen, VinBlock, if_true, if_false, Nat.reduceEqDiff, reduceCtorEq]
  refine WpV.seq (WpV.region ?_)
  refine WpOps.take 2 (by simp only [go_sem, reduceCtorEq, Nat.reduceAdd, Nat.reduceMul, Nat.reduceSub, Nat.reduceLT, Nat.reduceLeDiff, Nat.reduceEqDiff, Nat.reduceBEq, Nat.reducePow]; rfl) ?_
  refine WpOps.step (by rfl) (by rfl) (OpW.callY rfl (by rfl) (by rfl) (by rfl) eg (hq.mono ?_))
  rintro _ _ ⟨rfl, rfl⟩
  refine WpOps.take 2 (by simp only [go_sem, reduceCtorEq, Nat.reduceAdd, Nat.reduceMul, Nat.reduceSub, Nat.reduceLT, Nat.reduceLeDiff, Nat.reduceEqDiff, Nat.reduceBEq, Nat.reducePow]; rfl) (WpOps.nil ⟨Marks.nil _, ?_⟩)
  simp only [Vthen, VinBlock, if_true, if_false, Nat.reduceEqDiff, reduceCtorEq]
  refine WpV.ret ⟨Marks.nil _, List.nodup_nil, _, by simp only [Try.results95]; simp only [go_sem, reduceCtorEq, Nat.reduceAdd, Nat.reduceMul, Nat.reduceSub, Nat.reduceLT, Nat.reduceLeDiff, Nat.reduceEqDiff, Nat.reduceBEq, Nat.reducePow]; rfl, ?_⟩
  exact ⟨by first | rfl | trivial, rfl⟩

theorem every_row (H : Hp) (nl clip : Bool) (n : Nat) (cells : List AV) (els : Nat → AV) (g : FuncId) (fs cs : List AV) (q : Nat → Bool) (hn : n < 1000000) (hl : cells.length = n) (hr : ∀ k, k < n → cells[k]? = some (els k)) (eg : EntersF Try.prog g)
    (hq : ∀ k, k < n → CallV Try.prog g (fs ++ [els k] ++ cs) H (fun r H' => r = .bool (q k) ∧ H' = H)) : CallV Try.prog 81 [.sl nl clip n cells, .fn (.func g) fs cs] H (fun r H' => r = .bool (decide (∀ i, i < n → q i = true)) ∧ H' = H) := by
  refine CallV.body Try.func81 rfl Try.ntmps81 (by rfl) ?_
  refine WpV.seq (WpV.regionE (by simp only [go_sem, reduceCtorEq, Nat.reduceAdd, Nat.reduceMul, Nat.reduceSub, Nat.reduceLT, Nat.reduceLeDiff, Nat.reduceEqDiff, Nat.reduceBEq, Nat.reducePow]; rfl) (Marks.nil _) ?_)
  simp only [Vthen, VinBlock, if_true, if_false, Nat.reduceEqDiff, reduceCtorEq]
  refine WpV.seq (WpV.region ?_)
  refine WpOps.take 2 (by simp only [go_sem, reduceCtorEq, Nat.reduceAdd, Nat.reduceMul, Nat.reduceSub, Nat.reduceLT, Nat.reduceLeDiff, Nat.reduceEqDiff, Nat.reduceBEq, Nat.reducePow]; rfl) ?_
  refine WpOps.step (by rfl) (by rfl) (OpW.callY rfl (by rfl) (by rfl) (by rfl) (enters_of Try.func94 (by kernel_rfl) rfl) ((cont_row H nl clip n cells els 95 [] [.cp [.fn (.func g) fs cs] 0] (fun k => !q k) hn hl hr (enters_of Try.func95 (by kernel_rfl) rfl) (fun k hk => every1_row H _ g fs cs (q k) eg (hq k hk))).mono ?_))
  rintro _ _ ⟨rfl, hH⟩
  replace hH := hH.symm
  subst hH
  refine WpOps.take 2 (by simp only [go_sem, reduceCtorEq, Nat.reduceAdd, Nat.reduceMul, Nat.reduceSub, Nat.reduceLT, Nat.reduceLeDiff, Nat.reduceEqDiff, Nat.reduceBEq, Nat.reducePow]; rfl) (WpOps.nil ⟨Marks.nil _, ?_⟩)
  simp only [Vthen, VinBlock, if_true, if_false, Nat.reduceEqDiff, reduceCtorEq]
  refine WpV.ret ⟨Marks.nil _, List.nodup_nil, _, by simp only [Try.results81]; simp only [go_sem, reduceCtorEq, Nat.reduceAdd, Nat.reduceMul, Nat.reduceSub, Nat.reduceLT, Nat.reduceLeDiff, Nat.reduceEqDiff, Nat.reduceBEq, Nat.reducePow]; rfl, ?_⟩
  exact ⟨by congr 1; simp, rfl⟩

/-- 'slices.IndexFunc', 'slices.ContainsFunc', 'every': of a condition that turns nothing. -/
theorem idx_pair (H : Hp) (nl clip : Bool) (n : Nat) (cells : List AV) (els : Nat → AV) (g : FuncId) (fs cs : List AV) (q : Nat → Bool) (hn : n < 1000000) (hl : cells.length = n * 3) (hr : ∀ k, k < n → .agg ((cells.drop (k * 3)).take 3) = els k) (eg : EntersF Try.prog g)
    (hq : ∀ k, k < n → CallV Try.prog g (fs ++ [els k] ++ cs) H (fun r H' => r = .bool (q k) ∧ H' = H)) : CallV Try.prog 102 [.sl nl clip n cells, .fn (.func g) fs cs] H (fun r H' => r = vint (firstN q 0 n) ∧ H' = H) := by
  refine CallV.body Try.func102 rfl Try.ntmps102 (by rfl) ?_
  refine WpV.seq (WpV.regionE (by simp only [go_sem, reduceCtorEq, Nat.reduceAdd, Nat.reduceMul, Nat.reduceSub, Nat.reduceLT, Nat.reduceLeDiff, Nat.reduceEqDiff, Nat.reduceBEq, Nat.reducePow]; rfl) (Marks.nil _) ?_)
  simp only [Vthen, VinBlock, if_true, if_false, Nat.reduceEqDiff, reduceCtorEq]
  refine WpV.seq (WpV.seq (WpV.regionE (by simp only [go_sem, reduceCtorEq, Nat.reduceAdd, Nat.reduceMul, Nat.reduceSub, Nat.reduceLT, Nat.reduceLeDiff, Nat.reduceEqDiff, Nat.reduceBEq, Nat.reducePow]; rfl) (Marks.nil _) ?_))
  simp only [Vthen, VinBlock, if_true, if_false, Nat.reduceEqDiff, reduceCtorEq]
  refine WpV.block (WpV.loopP n (fun k => ∀ j, j < k → q j = false) (fun k => [(0, .sl nl clip n cells), (1, .fn (.func g) fs cs), (7, vint n), (8, vint k)]) (fun _ => H) (fun j hj => absurd hj (Nat.not_lt_zero _)) ?_ rfl ?_)
  · exact .cons rfl rfl (.cons rfl rfl (.cons rfl rfl (.cons rfl rfl (.nil _))))
  · intro k hk hp
    refine WpV.seq (WpV.regionE (by simp only [go_sem, reduceCtorEq, Nat.reduceAdd, Nat.reduceMul, Nat.reduceSub, Nat.reduceLT, Nat.reduceLeDiff, Nat.reduceEqDiff, Nat.reduceBEq, Nat.reducePow]; rfl) (Marks.nil _) ?_)
    simp only [Vthen, VinBlock, if_true, if_false, Nat.reduceEqDiff, reduceCtorEq]
    refine WpV.seq (WpV.cond rfl (fun hb => WpV.skip ?_) (fun hb => WpV.exit ?_))
    · have hlt : (k : Int) < (n : Int) := of_decide_eq_true hb
      have hlt' : k < n := by omega
      have hle : k * 3 + 3 ≤ cells.length := by omega
      simp only [Vthen, VinBlock, if_true, if_false, Nat.reduceEqDiff, reduceCtorEq]
      refine WpV.seq (WpV.block (WpV.seq (WpV.regionE (by simp only [go_sem, reduceCtorEq, Nat.reduceAdd, Nat.reduceMul, Nat.reduceSub, Nat.reduceLT, Nat.reduceLeDiff, Nat.reduceEqDiff, Nat.reduceBEq, Nat.reducePow]; rfl) (Marks.nil _) ?_)))
      simp only [Vthen, VinBlock, if_true, if_false, Nat.reduceEqDiff, reduceCtorEq]
      refine WpV.seq (WpV.region ?_)
      refine WpOps.take 5 (by simp only [go_sem, reduceCtorEq, Nat.reduceAdd, Nat.reduceMul, Nat.reduceSub, Nat.reduceLT, Nat.reduceLeDiff, Nat.reduceEqDiff, Nat.reduceBEq, Nat.reducePow, hlt, hle]; rfl) ?_
      rw [hr k hlt']
      refine WpOps.step (by rfl) (by rfl) (OpW.callY rfl (by rfl) (by rfl) (by rfl) eg ((hq k hlt').mono ?_))
      rintro _ _ ⟨rfl, rfl⟩
      refine WpOps.nil ⟨Marks.nil _, ?_⟩
      simp only [Vthen, VinBlock, if_true, if_false, Nat.reduceEqDiff, reduceCtorEq]
      refine WpV.cond rfl (fun hqk => ?_) (fun hqk => WpV.skip ?_)
      · refine WpV.seq (WpV.regionE (by simp only [go_sem, reduceCtorEq, Nat.reduceAdd, Nat.reduceMul, Nat.reduceSub, Nat.reduceLT, Nat.reduceLeDiff, Nat.reduceEqDiff, Nat.reduceBEq, Nat.reducePow]; rfl) (Marks.nil _) ?_)
        simp only [Vthen, VinBlock, if_true, if_false, Nat.reduceEqDiff, reduceCtorEq]
        refine WpV.ret ⟨Marks.nil _, List.nodup_nil, _, by simp only [Try.results102]; simp only [go_sem, reduceCtorEq, Nat.reduceAdd, Nat.reduceMul, Nat.reduceSub, Nat.reduceLT, Nat.reduceLeDiff, Nat.reduceEqDiff, Nat.reduceBEq, Nat.reducePow]; rfl, ?_⟩
        exact ⟨by rw [firstN_hit q n 0 k (Nat.zero_le _) (by omega) (fun j _ hj => hp j hj) hqk], rfl⟩
      · simp only [Vthen, VinBlock, if_true, if_false, Nat.reduceEqDiff, reduceCtorEq]
        refine WpV.regionE (by simp only [go_sem, reduceCtorEq, Nat.reduceAdd, Nat.reduceMul, Nat.reduceSub, Nat.reduceLT, Nat.reduceLeDiff, Nat.reduceEqDiff, Nat.reduceBEq, Nat.reducePow]; rfl) (Marks.nil _) ?_
        simp only [Vthen, VinBlock, if_true, if_false, Nat.reduceEqDiff, reduceCtorEq]
        refine ⟨by first | rfl | trivial, hlt', fun j hj => ?_, .cons rfl rfl (.cons rfl rfl (.cons rfl rfl (.cons rfl ?_ (.nil _)))), by first | rfl | trivial⟩
        · by_cases e : j = k
          · subst e; exact hqk
          · exact hp j (by omega)
        · rw [wrap64 (by omega)]; rfl
    · have hge : k = n := by have := of_decide_eq_false hb; omega
      subst hge
      simp only [Vthen, VinBlock, if_true, if_false, Nat.reduceEqDiff, reduceCtorEq]
      refine WpV.seq (WpV.regionE (by simp only [go_sem, reduceCtorEq, Nat.reduceAdd, Nat.reduceMul, Nat.reduceSub, Nat.reduceLT, Nat.reduceLeDiff, Nat.reduceEqDiff, Nat.reduceBEq, Nat.reducePow]; rfl) (Marks.nil _) ?_)
      simp only [Vthen, VinBlock, if_true, if_false, Nat.reduceEqDiff, reduceCtorEq]
      refine WpV.ret ⟨Marks.nil _, List.nodup_nil, _, by simp only [Try.results102]; simp only [go_sem, reduceCtorEq, Nat.reduceAdd, Nat.reduceMul, Nat.reduceSub, Nat.reduceLT, Nat.reduceLeDiff, Nat.reduceEqDiff, Nat.reduceBEq, Nat.reducePow]; rfl, ?_⟩
      exact ⟨by rw [firstN_none q k 0 (fun j _ hj => hp j (by omega))], rfl⟩

theorem cont_pair (H : Hp) (nl clip : Bool) (n : Nat) (cells : List AV) (els : Nat → AV) (g : FuncId) (fs cs : List AV) (q : Nat → Bool) (hn : n < 1000000) (hl : cells.length = n * 3) (hr : ∀ k, k < n → .agg ((cells.drop (k * 3)).take 3) = els k) (eg : EntersF Try.prog g)
    (hq : ∀ k, k < n → CallV Try.prog g (fs ++ [els k] ++ cs) H (fun r H' => r = .bool (q k) ∧ H' = H)) : CallV Try.prog 97 [.sl nl clip n cells, .fn (.func g) fs cs] H (fun r H' => r = .bool (!decide (∀ i, i < n → q i = false)) ∧ H' = H) := by
  refine CallV.body Try.func97 rfl Try.ntmps97 (by rfl) ?_
  refine WpV.seq (WpV.regionE (by simp only [go_sem, reduceCtorEq, Nat.reduceAdd, Nat.reduceMul, Nat.reduceSub, Nat.reduceLT, Nat.reduceLeDiff, Nat.reduceEqDiff, Nat.reduceBEq, Nat.reducePow]; rfl) (Marks.nil _) ?_)
  simp only [Vthen, VinBlock, if_true, if_false, Nat.reduceEqDiff, reduceCtorEq]
  refine WpV.seq (WpV.region ?_)
  refine WpOps.take 2 (by simp only [go_sem, reduceCtorEq, Nat.reduceAdd, Nat.reduceMul, Nat.reduceSub, Nat.reduceLT, Nat.reduceLeDiff, Nat.reduceEqDiff, Nat.reduceBEq, Nat.reducePow]; rfl) ?_
  refine WpOps.step (by rfl) (by rfl) (OpW.callY rfl (by rfl) (by rfl) (by rfl) (enters_of Try.func102 (by kernel_rfl) rfl) ((idx_pair H nl clip n cells els g fs cs q hn hl hr eg hq).mono ?_))
  rintro _ _ ⟨rfl, hH⟩
  replace hH := hH.symm
  subst hH
  refine WpOps.take 2 (by simp only [go_sem, reduceCtorEq, Nat.reduceAdd, Nat.reduceMul, Nat.reduceSub, Nat.reduceLT, Nat.reduceLeDiff, Nat.reduceEqDiff, Nat.reduceBEq, Nat.reducePow]; rfl) (WpOps.nil ⟨Marks.nil _, ?_⟩)
  simp only [Vthen, VinBlock, if_true, if_false, Nat.reduceEqDiff, reduceCtorEq]
  refine WpV.ret ⟨Marks.nil _, List.nodup_nil, _, by simp only [Try.results97]; simp only [go_sem, reduceCtorEq, Nat.reduceAdd, Nat.reduceMul, Nat.reduceSub, Nat.reduceLT, Nat.reduceLeDiff, Nat.reduceEqDiff, Nat.reduceBEq, Nat.reducePow]; rfl, ?_⟩
  exact ⟨by rw [← firstN_ge], rfl⟩

theorem every1_pair (H : Hp) (x : AV) (a b c : Int) (hx : x = .agg [vint a, vint b, vint c]) (g : FuncId) (fs cs : List AV) (q : Bool) (eg : EntersF Try.prog g) (hq : CallV Try.prog g (fs ++ [x] ++ cs) H (fun r H' => r = .bool q ∧ H' = H)) :
    CallV Try.prog 98 [x, .cp [.fn (.func g) fs cs] 0] H (fun r H' => r = .bool (!q) ∧ H' = H) := by
  subst hx
  refine CallV.body Try.func98 rfl Try.ntmps98 (by rfl) ?_
  refine WpV.seq (WpV.regionE (by simp only [go_sem, reduceCtorEq, Nat.reduceAdd, Nat.reduceMul, Nat.reduceSub, Nat.reduceLT, Nat.reduceLeDiff, Nat.reduceEqDiff, Nat.reduceBEq, Nat.reducePow]; rfl) (Marks.nil _) ?_)
  simp only [Vthen, VinBlock, if_true, if_false, Nat.reduceEqDiff, reduceCtorEq]
  refine WpV.seq (WpV.region ?_)
  refine WpOps.take 2 (by simp only [go_sem, reduceCtorEq, Nat.reduceAdd, Nat.reduceMul, Nat.reduceSub, Nat.reduceLT, Nat.reduceLeDiff, Nat.reduceEqDiff, Nat.reduceBEq, Nat.reducePow]; rfl) ?_
  refine WpOps.step (by rfl) (by rfl) (OpW.callY rfl (by rfl) (by rfl) (by rfl) eg (hq.mono ?_))
  rintro _ _ ⟨rfl, rfl⟩
  refine WpOps.take 2 (by simp only [go_sem, reduceCtorEq, Nat.reduceAdd, Nat.reduceMul, Nat.reduceSub, Nat.reduceLT, Nat.reduceLeDiff, Nat.reduceEqDiff, Nat.reduceBEq, Nat.reducePow]; rfl) (WpOps.nil ⟨Marks.nil _, ?_⟩)
  simp only [Vthen, VinBlock, if_true, if_false, Nat.reduceEqDiff, reduceCtorEq]
  refine WpV.ret ⟨Marks.nil _, List.nodup_nil, _, by simp only [Try.results98]; simp only [go_sem, reduceCtorEq, Nat.reduceAdd, Nat.reduceMul, Nat.reduceSub, Nat.reduceLT, Nat.reduceLeDiff, Nat.reduceEqDiff, Nat.reduceBEq, Nat.reducePow]; rfl, ?_⟩
  exact ⟨by first | rfl | trivial, rfl⟩

theorem every_pair (H : Hp) (nl clip : Bool) (n : Nat) (cells : List AV) (els : Nat → AV) (g : FuncId) (fs cs : List AV) (q : Nat → Bool) (hn : n < 1000000) (hl : cells.length = n * 3) (hr : ∀ k, k < n → .agg ((cells.drop (k * 3)).take 3) = els k) (ha : ∀ k, k < n → ∃ a b c : Int, els k = .agg [vint a, vint b, vint c]) (eg : EntersF Try.prog g)
    (hq : ∀ k, k < n → CallV Try.prog g (fs ++ [els k] ++ cs) H (fun r H' => r = .bool (q k) ∧ H' = H)) : CallV Try.prog 87 [.sl nl clip n cells, .fn (.func g) fs cs] H (fun r H' => r = .bool (decide (∀ i, i < n → q i = true)) ∧ H' = H) := by
  refine CallV.body Try.func87 rfl Try.ntmps87 (by rfl) ?_
  refine WpV.seq (WpV.regionE (by simp only [go_sem, reduceCtorEq, Nat.reduceAdd, Nat.reduceMul, Nat.reduceSub, Nat.reduceLT, Nat.reduceLeDiff, Nat.reduceEqDiff, Nat.reduceBEq, Nat.reducePow]; rfl) (Marks.nil _) ?_)
  simp only [Vthen, VinBlock, if_true, if_false, Nat.reduceEqDiff, reduceCtorEq]
  refine WpV.seq (WpV.region ?_)
  refine WpOps.take 2 (by simp only [go_sem, reduceCtorEq, Nat.reduceAdd, Nat.reduceMul, Nat.reduceSub, Nat.reduceLT, Nat.reduceLeDiff, Nat.reduceEqDiff, Nat.reduceBEq, Nat.reducePow]; rfl) ?_
  refine WpOps.step (by rfl) (by rfl) (OpW.callY rfl (by rfl) (by rfl) (by rfl) (enters_of Try.func97 (by kernel_rfl) rfl) ((cont_pair H nl clip n cells els 98 [] [.cp [.fn (.func g) fs cs] 0] (fun k => !q k) hn hl hr (enters_of Try.func98 (by kernel_rfl) rfl) (fun k hk => by obtain ⟨a, b, c, e⟩ := ha k hk; exact every1_pair H _ a b c e g fs cs (q k) eg (hq k hk))).mono ?_))
  rintro _ _ ⟨rfl, hH⟩
  replace hH := hH.symm
  subst hH
  refine WpOps.take 2 (by simp only [go_sem, reduceCtorEq, Nat.reduceAdd, Nat.reduceMul, Nat.reduceSub, Nat.reduceLT, Nat.reduceLeDiff, Nat.reduceEqDiff, Nat.reduceBEq, Nat.reducePow]; rfl) (WpOps.nil ⟨Marks.nil _, ?_⟩)
  simp only [Vthen, VinBlock, if_true, if_false, Nat.reduceEqDiff, reduceCtorEq]
  refine WpV.ret ⟨Marks.nil _, List.nodup_nil, _, by simp only [Try.results87]; simp only [go_sem, reduceCtorEq, Nat.reduceAdd, Nat.reduceMul, Nat.reduceSub, Nat.reduceLT, Nat.reduceLeDiff, Nat.reduceEqDiff, Nat.reduceBEq, Nat.reducePow]; rfl, ?_⟩
  exact ⟨by congr 1; simp, rfl⟩

end Go.Proofs.Ytaekibilldjnmaa
