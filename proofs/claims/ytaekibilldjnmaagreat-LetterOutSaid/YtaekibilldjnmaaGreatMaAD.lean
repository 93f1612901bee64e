/- A range over a sequence: what holds between its rounds. A region in any order: its operations one by one. So many zeros more: a new object, of which only what was there is told. An object under a new name; what a function is lent that only reads. Arguments, as they are read out of memory. Closed facts on the types. Conditions for all elements of a list. -/
import Derived.Test.YtaekibilldjnmaaGreatMaAC
import Derived.Lib.AppendZerosOnto
import Derived.Deep.Slices
import Derived.OpenShut
import Derived.ProofKit
import Derived.ShutString
import Derived.ChangeOld
import Derived.Test.YtaekibilldjnmaaGreatRows
set_option linter.unusedVariables false
set_option linter.unusedSimpArgs false
set_option linter.unusedSectionVars false
namespace Go.Proofs.YtaekibilldjnmaaGreat
variable {P : Program} {H : Hp}

/-- A loop in whose rounds marks may be laid. -/
theorem WpV.loopD {r : Option Nat} {N : Nat} {c : Code} {Q : Exit → Fr → List Nat → Hp → Prop} {fr : Fr} {D : List Nat} {ι : Type} (I : ι → Fr) (J : ι → Hp) (M : ι → List Nat) (μ : ι → Nat) (i0 : ι)
    (h0 : ∀ t x, (I i0).get t = some x → fr.get t = some x) (hH : J i0 = H) (hM : M i0 = D)
    (round : ∀ i, WpV P r N c (Vthen (fun fr' D' H' => ∃ j, μ j < μ i ∧ (∀ t x, (I j).get t = some x → fr'.get t = some x) ∧ J j = H' ∧ M j = D') Q) (I i) (M i) (J i)) : WpV P r N (.loop c) Q fr D H := by
  intro r ρ W a hr hs hf hd
  refine wpIn_loop_g (fun i a' W' => ∃ ρ', Ext ρ W ρ' W' ∧ Sim N (I i) ρ' W' a' ∧ Defs ρ' (M i) a'.defers ∧ HD ρ' W' (J i)) μ i0
    ⟨ρ, hd.refl, ⟨hs.size, fun t x hx => hs.fr t x (h0 t x hx)⟩, by rw [hM]; exact hf, by rw [hH]; exact hd⟩ ?_
  rintro i a' W' ⟨ρ', q, hs', hf', hd'⟩
  refine wpIn_mono (round i r ρ' W' a' (hr.ext q) hs' hf' hd') fun e a'' W'' he => ?_
  obtain ⟨ρ'', fr'', D'', H'', q2, hs2, hf2, hd2, hq⟩ := he
  have q3 := q.trans hd.live q2
  cases e with
  | normal =>
    obtain ⟨j, hj, hw, rfl, rfl⟩ := hq
    exact ⟨j, hj, ρ'', q3, ⟨hs2.size, fun t x hx => hs2.fr t x (hw t x hx)⟩, hf2, hd2⟩
  | _ => exact ⟨ρ'', fr'', D'', H'', q3, hs2, hf2, hd2, hq⟩

/-- How a round over a sequence ends: on with the rest, or out. -/
def RoundS (id N : Nat) (fr : Fr) (ps : Array Tmp) (assign body : Code) (Inv : List (List AV) → Hp → Prop) (Rt : Code → Hp → Prop) (rest : List (List AV)) (L : List (Nat × Ob)) : Exit → Fr → List Nat → Hp → Prop
  | .normal, _, _, H => (∃ pend, H id = some (.loop N fr ps assign body .busy pend)) ∧ ∃ B, LayOn L B (H.set id none) ∧ Inv rest B
  | .ret, _, _, H => (∃ pend, H id = some (.loop N fr ps assign body .busy pend)) ∧ ∃ B, LayOn L B (H.set id none) ∧ Rt .ret B
  | .exit i, _, _, H => (∃ pend, H id = some (.loop N fr ps assign body .busy pend)) ∧ ∃ B, LayOn L B (H.set id none) ∧ Rt (.exit i) B
  | _, _, _, _ => False
/-- A round, from its assignments on. -/
def RoundI (P : Program) (id N : Nat) (fr : Fr) (ps : Array Tmp) (assign body : Code) (Inv : List (List AV) → Hp → Prop) (Rt : Code → Hp → Prop) : Prop :=
  ∀ L x rest B Hx, Hx id = some (.loop N fr ps assign body .ready none) → LayOn L B (Hx.set id none) → Inv (x :: rest) B → x.length = ps.size ∧
    WpV P (some id) N assign (Vthen (fun fr1 D1 H1 => ∃ pend1, H1 id = some (.loop N fr ps assign body .ready pend1) ∧ WpV P (some id) N body (RoundS id N fr ps assign body Inv Rt rest L) fr1 D1 (H1.set id (some (.loop N fr ps assign body .busy pend1)))) (fun _ _ _ _ => False)) (putPs ps.toList x fr) [] Hx

def JS (id N : Nat) (fr : Fr) (ps : Array Tmp) (assign body : Code) (Inv : List (List AV) → Hp → Prop) (l : List (List AV)) (Hx : Hp) : Prop := Hx id = some (.loop N fr ps assign body .ready none) ∧ Inv l (Hx.set id none)
def DS (id N : Nat) (fr : Fr) (ps : Array Tmp) (assign body : Code) (Rt : Code → Hp → Prop) (Hx : Hp) : Prop := ∃ c, Hx id = some (.loop N fr ps assign body .done (some c)) ∧ Rt c (Hx.set id none)

theorem eats_yl {id N : Nat} {fr : Fr} {ps : Array Tmp} {assign body : Code} {Inv : List (List AV) → Hp → Prop} {Rt : Code → Hp → Prop} (hps : (ps.toList.all (· < N)) = true) (hr : RoundI P id N fr ps assign body Inv Rt) :
    Eats P (.yl id) (JS id N fr ps assign body Inv) (DS id N fr ps assign body Rt) := by
  rintro L x rest Bx Hx hM ⟨hl, hi⟩ o ev c args ts ho hy hx
  have hl' := (hM.get hl)
  obtain ⟨hlen, hw⟩ := hr L x rest _ Hx hl' (hM.set none hl) hi
  have back : ∀ {H2 B2 : Hp} {pend : Option Code} (s : Ob), H2 id = some (.loop N fr ps assign body .busy pend) → LayOn L B2 (H2.set id none) → B2 id = none → LayOn L (B2.set id (some s)) (H2.set id (some s)) := by
    intro H2 B2 pend s h2 h3 hb
    have := LayOn.lay (o := s) h3 (k := id) hb (Hp.set_eq _ _ _)
    rwa [Hp.set_set] at this
  have none_of : ∀ {H2 B2 : Hp}, LayOn L B2 (H2.set id none) → B2 id = none := by
    intro H2 B2 h3
    cases e : B2 id with
    | none => rfl
    | some o => have := h3.get e; rw [Hp.set_eq] at this; cases this
  refine OpW.yield ho hy hx hl' hlen hps (hw.mono fun e fr1 D1 H1 h => ?_)
  cases e with
  | normal =>
    obtain ⟨pend1, h1, h2⟩ := h
    refine ⟨pend1, h1, h2.mono fun e2 fr2 D2 H2 h3 => ?_⟩
    cases e2 with
    | normal =>
      obtain ⟨⟨pend, h4⟩, B2, h5, h6⟩ := h3
      have hb := none_of h5
      exact ⟨pend, h4, _, back _ h4 h5 hb, .inl ⟨rfl, Hp.set_eq _ _ _, by rw [Hp.set_set, Hp.set_same _ _ _ hb]; exact h6⟩⟩
    | ret =>
      obtain ⟨⟨pend, h4⟩, B2, h5, h6⟩ := h3
      have hb := none_of h5
      exact ⟨pend, h4, _, back _ h4 h5 hb, .inr ⟨rfl, _, Hp.set_eq _ _ _, by rw [Hp.set_set, Hp.set_same _ _ _ hb]; exact h6⟩⟩
    | exit i =>
      obtain ⟨⟨pend, h4⟩, B2, h5, h6⟩ := h3
      have hb := none_of h5
      exact ⟨pend, h4, _, back _ h4 h5 hb, .inr ⟨rfl, _, Hp.set_eq _ _ _, by rw [Hp.set_set, Hp.set_same _ _ _ hb]; exact h6⟩⟩
    | _ => exact h3.elim
  | _ => exact h.elim

/-- A function that yields its items to whoever eats them. -/
def Seqs (P : Program) (f : FuncId) (fs cs : List AV) (items : List (List AV)) : Prop :=
  ∀ (y : AV) (J : List (List AV) → Hp → Prop) (Dn : Hp → Prop) (H : Hp), (∃ id, y = .yl id) → Eats P y J Dn → J items H → CallV P f (fs ++ [y] ++ cs) H (fun _ H' => J [] H' ∨ Dn H')

theorem WpV.rangeS {N : Nat} {Q : Exit → Fr → List Nat → Hp → Prop} {fr : Fr} {D : List Nat} {g : Operand} {ps : Array Tmp} {assign body : Code} {f : FuncId} {fs cs : List AV} {items : List (List AV)}
    (hg : fr.ev g = some (.fn (.func f) fs cs)) (eg : EntersF P f) (hmD : Marks D H) (hps : (ps.toList.all (· < N)) = true) (hseq : Seqs P f fs cs items)
    (h : ∀ idm idl, idm ≠ idl → H idm = none → H idl = none → ∃ (Inv : List (List AV) → Hp → Prop) (Rt : Code → Hp → Prop), Inv items (H.set idm (some .mark)) ∧ RoundI P idl N fr ps assign body Inv Rt ∧
      (∀ H', Inv [] H' → Marks (idm :: D) H' ∧ Q .normal fr (idm :: D) H') ∧ (∀ c H', Rt c H' → Marks (idm :: D) H' ∧ WpV P none N c Q fr (idm :: D) H')) :
    WpV P none N (.rangeFunc g ps assign body) Q fr D H := by
  refine WpV.rangeFunc hg eg hmD fun idm idl hne h1 h2 => ?_
  obtain ⟨Inv, Rt, hi, hr, hn, ht⟩ := h idm idl hne h1 h2
  refine (hseq (.yl idl) (JS idl N fr ps assign body Inv) (DS idl N fr ps assign body Rt) _ ⟨_, rfl⟩ (eats_yl hps hr) ⟨Hp.set_eq _ _ _, ?_⟩).mono ?_
  · rw [Hp.set_set, Hp.set_same _ _ _ (by rw [Hp.set_ne _ _ hne.symm]; exact h2)]; exact hi
  · rintro x H' (⟨h3, h4⟩ | ⟨c, h3, h4⟩)
    · obtain ⟨a, b⟩ := hn _ h4
      exact ⟨.ready, none, h3, by decide, a, b⟩
    · obtain ⟨a, b⟩ := ht _ _ h4
      exact ⟨.done, some c, h3, by decide, a, b⟩

theorem WpV.rangeSI {N idr : Nat} {Q : Exit → Fr → List Nat → Hp → Prop} {fr : Fr} {D : List Nat} {g : Operand} {ps : Array Tmp} {assign body : Code} {f : FuncId} {fs cs : List AV} {N0 : Nat} {fr0 : Fr} {ps0 : Array Tmp} {as0 bo0 : Code} {st0 : LoopState} {pe0 : Option Code} {items : List (List AV)}
    (hg : fr.ev g = some (.fn (.func f) fs cs)) (eg : EntersF P f) (hmD : Marks D H) (hidr : H idr = some (.loop N0 fr0 ps0 as0 bo0 st0 pe0)) (hps : (ps.toList.all (· < N)) = true) (hseq : Seqs P f fs cs items)
    (h : ∀ idl, H idl = none → ∃ (Inv : List (List AV) → Hp → Prop) (Rt : Code → Hp → Prop), Inv items H ∧ RoundI P idl N fr ps assign body Inv Rt ∧
      (∀ H', Inv [] H' → Marks D H' ∧ Q .normal fr D H') ∧ (∀ c H', Rt c H' → Marks D H' ∧ WpV P (some idr) N c Q fr D H')) :
    WpV P (some idr) N (.rangeFunc g ps assign body) Q fr D H := by
  refine WpV.rangeFuncI hg eg hmD hidr fun idl h2 => ?_
  obtain ⟨Inv, Rt, hi, hr, hn, ht⟩ := h idl h2
  refine (hseq (.yl idl) (JS idl N fr ps assign body Inv) (DS idl N fr ps assign body Rt) _ ⟨_, rfl⟩ (eats_yl hps hr) ⟨Hp.set_eq _ _ _, ?_⟩).mono ?_
  · rw [Hp.set_set, Hp.set_same _ _ _ h2]; exact hi
  · rintro x H' (⟨h3, h4⟩ | ⟨c, h3, h4⟩)
    · obtain ⟨a, b⟩ := hn _ h4
      exact ⟨.ready, none, h3, by decide, a, b⟩
    · obtain ⟨a, b⟩ := ht _ _ h4
      exact ⟨.done, some c, h3, by decide, a, b⟩

end Go.Proofs.YtaekibilldjnmaaGreat
namespace Go.Proofs.YtaekibilldjnmaaGreat
variable {P : Program} {H : Hp}
theorem LexB.pure {N i : Nat} {ops : Array Oper} {isn : Nat → Bool} {Hs : (Nat → Nat) → (Nat → Bool) → Hp} {Q : (Nat → Nat) → Fr → Prop} {o : Oper} {l : List Oper} {fr : (Nat → Nat) → Fr} {x : AV} (hN : (o.dst.all (· < N)) = true) (hc : Oper.calm o = true) (hg : ∀ ids, guardOf ops (fr ids) o = some true)
    (hs : ∀ ids b, Good ops H isn o i ids b → Hs ids (upd b i) = Hs ids b) (hop : ∀ ids b, Good ops H isn o i ids b → OpW P o (fr ids).ev (Hs ids b) (fun x' H' => x' = x ∧ H' = Hs ids b)) (h : LexB P N ops H isn Hs Q (i + 1) l (fun ids => (fr ids).put o.dst x)) : LexB P N ops H isn Hs Q i (o :: l) fr :=
  ⟨hN, hc, .inl ⟨hg, x, fun ids b g => by rw [hs ids b g]; exact hop ids b g, h⟩⟩
theorem LexB.eff {N i : Nat} {ops : Array Oper} {isn : Nat → Bool} {Hs : (Nat → Nat) → (Nat → Bool) → Hp} {Q : (Nat → Nat) → Fr → Prop} {o : Oper} {l : List Oper} {fr : (Nat → Nat) → Fr} {x : AV} (hN : (o.dst.all (· < N)) = true) (hc : Oper.calm o = true) (hg : ∀ ids, guardOf ops (fr ids) o = some true)
    (hop : ∀ ids b, Good ops H isn o i ids b → OpW P o (fr ids).ev (Hs ids b) (fun x' H' => x' = x ∧ H' = Hs ids (upd b i))) (h : LexB P N ops H isn Hs Q (i + 1) l (fun ids => (fr ids).put o.dst x)) : LexB P N ops H isn Hs Q i (o :: l) fr :=
  ⟨hN, hc, .inl ⟨hg, x, hop, h⟩⟩
theorem LexB.new {N i : Nat} {ops : Array Oper} {isn : Nat → Bool} {Hs : (Nat → Nat) → (Nat → Bool) → Hp} {Q : (Nat → Nat) → Fr → Prop} {o : Oper} {l : List Oper} {fr : (Nat → Nat) → Fr} (X : Nat → AV) (ob : Ob) (hin : isn i = true) (hN : (o.dst.all (· < N)) = true) (hc : Oper.calm o = true) (hg : ∀ ids, guardOf ops (fr ids) o = some true)
    (hop : ∀ ids b, Good ops H isn o i ids b → OpW P o (fr ids).ev (Hs ids b) (fun x' H' => ∃ id, (Hs ids b) id = none ∧ x' = X id ∧ H' = (Hs ids b).set id (some ob))) (hs : ∀ ids b, Good ops H isn o i ids b → (Hs ids b) (ids i) = none → Hs ids (upd b i) = (Hs ids b).set (ids i) (some ob))
    (h : LexB P N ops H isn Hs Q (i + 1) l (fun ids => (fr ids).put o.dst (X (ids i)))) : LexB P N ops H isn Hs Q i (o :: l) fr :=
  ⟨hN, hc, .inr (.inr ⟨hin, hg, X, ob, hop, hs, h⟩)⟩
theorem OpW.evX {o : Oper} {ev : Operand → Option AV} {x : AV} (h : evP P H ev o.op = some x) : OpW P o ev H (fun x' H' => x' = x ∧ H' = H) := OpW.ev h ⟨rfl, rfl⟩
end Go.Proofs.YtaekibilldjnmaaGreat
namespace Go.Proofs.YtaekibilldjnmaaGreat
variable {P : Program} {H : Hp}

theorem OpW.appendZ {o : Oper} {ev : Operand → Option AV} {t tn e : TypeId} {a y : Operand} {nl : Bool} {len m s : Nat} {cells : List AV} {kq kn : IntKind} {K : AV → Hp → Prop}
    (ho : o.op = .call { callee := .builtin .append, args := #[a, y], argTypes := #[t, tn] }) (ha : ev a = some (.sl nl true len cells)) (hy : ev y = some (.int kq (m : Int)))
    (hE : Elem P t e s (len + m)) (htn : P.underlying tn = some (.int kn)) (hl1 : cells.length = len * s) (hs : 0 < s) (hm : 0 < m)
    (hk : ∀ id, H id = none → K (.rs id 0 s 0 (len + m) false) (H.set id (some (.cells e 0 cells)))) : OpW P o ev H K := by
  refine ⟨by simp [Oper.calm, ho], fun ρ W σ hd hH => ?_⟩
  have hva := hd a (by simp [ho, Op.operands, Call.operands]) _ ha
  have hvy := hd y (by simp [ho, Op.operands, Call.operands]) _ hy
  rw [Den] at hvy
  obtain ⟨i, z, hi, his, hz, hzs, hb⟩ := hE.info
  rw [Den] at hva
  obtain ⟨base, cap, ea, g1, g2, g3, g4⟩ := hva
  obtain rfl := g2 rfl
  obtain ⟨olds, hold, hdo, hlo⟩ : ∃ olds : List Value, (Builtin.firstCells i.size cap (.slice base cap cap)).run P W.drew = .ok olds.toArray W.drew ∧ DenL ρ W cells (fun i => olds[i]?) ∧ olds.length = cells.length := by
    cases nl with
    | true =>
      obtain ⟨rfl, rfl, rfl⟩ := g3 rfl
      exact ⟨[], run_firstCells_none W.drew i.size 0 0 0, by rw [DenL]; trivial, rfl⟩
    | false =>
      obtain ⟨b, off, rfl, -, hdc⟩ := g4 rfl
      obtain ⟨vs, k1, k2, k3⟩ := hdc.list
      exact ⟨vs, run_firstCells_some W.drew i.size cap ⟨b, off, none⟩ cap cap vs (by rw [k1, hl1, his]) (fun j v hj => by rw [add_addr]; exact k2 j v hj), k3, k1⟩
  have hmb : m * i.bytes ≤ (cap + m) * i.bytes := Nat.mul_le_mul_right _ (by omega)
  have hrun := Go.Lib.run_append_grow_zeros (P := P) W t tn o.type e i z kq kn hE.slice htn hi hz base cap cap olds hold m hm (by omega) (by omega) (by have := hE.small; omega) (by omega) (growslice_fits (by omega) hb)
  generalize harr : (olds.toArray ++ Builtin.zeroCells z.cells m ++ Builtin.zeroCells z.cells (grownCap W (cap + m) cap e - (cap + m))) = arr at hrun
  have hsz : arr.size = olds.length + m * s + (grownCap W (cap + m) cap e - (cap + m)) * s := by
    rw [← harr]; simp [zeroCells_size, hzs, Nat.add_assoc]
  have hden : DenL ρ W cells (fun j => arr[j]?) := by
    refine DenL.of fun j x hj => ?_
    have hjl := (List.getElem?_eq_some_iff.1 hj).1
    obtain ⟨v, hv, hdv⟩ := hdo.at hj
    refine ⟨v, ?_, hdv⟩
    rw [← harr, Array.append_assoc, Array.getElem?_append_left (by simp; omega)]
    simpa using hv
  have hH1 := hH.drew
  obtain ⟨q, hd', hn, hbk⟩ := own_den hH1 (ty := e) (arr := arr) (by omega) (DenL.ext (Ext.drew hH) hH.live _ _ hden)
  have hle := grownCap_le W (cap + m) cap e
  have hdv : Den (ρ.add ρ.nx W.drew.heap.size) (W.drew.alloc (.cells arr e)) (.rs ρ.nx 0 s 0 (cap + m) false) (.slice (some ⟨W.heap.size, 0, none⟩) (cap + m) (grownCap W (cap + m) cap e)) := by
    rw [Den]
    refine ⟨q.live _ _ _ hbk, rfl, fun e' b' hb' => ?_⟩
    rw [hbk] at hb'; cases hb'
    refine ⟨Nat.le_refl _, fun _ => ⟨_, rfl, hle, nofun, _, e, (0, 0), World.alloc_heap_new _ _, ?_⟩⟩
    rw [hsz, hlo, hl1, Nat.zero_add, ← Nat.add_mul, ← Nat.add_mul]
    exact Nat.mul_le_mul_right _ (by omega)
  refine Runs.value (v := .slice (some ⟨W.heap.size, 0, none⟩) (cap + m) (grownCap W (cap + m) cap e)) (W' := W.drew.alloc (.cells arr e)) ?_
    ⟨_, _, _, (Ext.drew hH).trans hH.live q, hdv, hd', hk _ hn⟩
  simp only [execOp, ho, resolve, Sem.run_bind, Sem.run_pure, Result.andThen_ok, invoke, builtin]
  rw [show (#[a, y].map σ) = #[.slice base cap cap, .int kq (m : Int)] by simp [ea, hvy], hrun]
  rfl
end Go.Proofs.YtaekibilldjnmaaGreat
namespace Go.Proofs.YtaekibilldjnmaaGreat
variable {P : Program} {ρ : Own} {W : World} {H : Hp}

theorem Ext.rename (h : HD ρ W H) {id e b : Nat} (hb : ρ.obj id = some (e, b)) : Ext ρ W (ρ.rename id ρ.nx 0 b) W := by
  have hlt := h.live _ _ _ hb
  refine ⟨by simp only [Own.rename]; omega, Nat.le_refl _, fun k hk hn => ?_, fun k e1 b1 e2 b2 h1 h2 => ?_, fun c hc hf => ⟨fun k e' hk => ?_, rfl⟩, fun k e1 b1 hk => ?_, rfl, rfl, rfl⟩
  · simp only [Own.rename]; rw [if_neg (by omega)]; split <;> first | rfl | exact hn
  · have := h.live _ _ _ h1
    simp only [Own.rename] at h2
    rw [if_neg (by omega)] at h2
    split at h2
    · cases h2
    · rw [h1] at h2; cases h2; exact ⟨Nat.le_refl _, fun _ => ⟨rfl, fun cs ty fz hc => ⟨cs, hc, rfl⟩⟩⟩
  · simp only [Own.rename] at hk
    split at hk
    · cases hk; exact hf _ _ hb
    · split at hk
      · cases hk
      · exact hf _ _ hk
  · simp only [Own.rename] at hk ⊢
    split at hk
    · omega
    · split at hk
      · cases hk
      · have := h.live _ _ _ hk; omega
theorem HD.rename (h : HD ρ W H) {id e b : Nat} {ty : TypeId} {cs : List AV} (hb : ρ.obj id = some (e, b)) (ho : H id = some (.cells ty e cs)) : HD (ρ.rename id ρ.nx 0 b) W ((H.set id none).set ρ.nx (some (.cells ty 0 cs))) := by
  have hlt := h.live _ _ _ hb
  have q := Ext.rename h hb
  refine ⟨fun k o' hk => ?_, fun k hk => ?_, fun k e1 b1 hk => q.live k e1 b1 hk, fun k k' e1 e2 b1 h1 h2 => ?_⟩
  · simp only [Hp.set] at hk
    split at hk
    · rename_i hkn
      cases hk
      obtain ⟨e1, b1, h1, h2, h3⟩ := h.obs id _ ho
      rw [hb] at h1; cases h1
      have h3' := h.of_ext (id := id) q h3 rfl
      obtain ⟨-, arr, h4, h5, h6⟩ := h3'
      exact ⟨0, b, by simp [Own.rename, hkn], h2, rfl, arr, h4, h5, h6⟩
    · rename_i hkn
      split at hk
      · cases hk
      · rename_i hne
        obtain ⟨e1, b1, h1, h2, h3⟩ := h.obs k o' hk
        exact ⟨e1, b1, by simp only [Own.rename]; rw [if_neg hkn, if_neg hne]; exact h1, h2, h.of_ext (id := k) q h3 rfl⟩
  · simp only [Hp.set] at hk
    simp only [Own.rename]
    split at hk
    · cases hk
    · rename_i hkn
      rw [if_neg hkn]
      split
      · rfl
      · rename_i hne; rw [if_neg hne] at hk; exact h.non k hk
  · simp only [Own.rename] at h1 h2
    split at h1 <;> split at h2
    · omega
    · cases h1
      split at h2
      · cases h2
      · rename_i h3; exact absurd (h.inj _ _ _ _ _ h2 hb) h3
    · cases h2
      split at h1
      · cases h1
      · rename_i h3; exact absurd (h.inj _ _ _ _ _ h1 hb) h3
    · split at h1
      · cases h1
      · split at h2
        · cases h2
        · exact h.inj _ _ _ _ _ h1 h2

/-- What a call has laid, as an object that was written on by nobody. -/
theorem CallV.anew {f : FuncId} {args : List AV} {e : TypeId} {s m : Nat} {nl : Bool} {xs : List AV} (h : CallV P f args H (fun r H' => Bld H e s nl m xs r H')) (hm : 0 < m) :
    CallV P f args H (fun r H' => ∃ id, H id = none ∧ r = .rs id 0 s 0 m false ∧ H' = H.set id (some (.cells e 0 xs))) := by
  intro ρ W vs hl hd hH
  refine Calls.mono (h ρ W vs hl hd hH) ?_
  rintro e' W' ⟨v, ρ', x, H', rfl, q, hv, hH', hb⟩
  obtain ⟨hl, ⟨h0, -⟩ | ⟨hp, id, ver, hid, rfl, rfl⟩⟩ := hb
  · omega
  · obtain ⟨e1, b, h1, h2, h3⟩ := hH'.obs id _ (Hp.set_eq _ _ _)
    have he : e1 = ver := h3.1
    subst he
    have hH2 := hH'.rename h1 (Hp.set_eq _ _ _)
    rw [Hp.set_set, Hp.set_same _ _ _ hid] at hH2
    have q2 := Ext.rename hH' h1
    have hfresh : H ρ'.nx = none := by
      cases hn : H ρ'.nx with
      | none => rfl
      | some o =>
        have hne : ρ'.nx ≠ id := fun e => by rw [e, hid] at hn; cases hn
        obtain ⟨e2, b2, h4, -⟩ := hH'.obs ρ'.nx o (by rw [Hp.set_ne _ _ hne]; exact hn)
        exact absurd (hH'.live _ _ _ h4) (Nat.lt_irrefl _)
    refine ⟨v, ρ'.rename id ρ'.nx 0 b, .rs ρ'.nx 0 s 0 m false, _, rfl, q.trans hH.live q2, ?_, hH2, _, hfresh, rfl, rfl⟩
    rw [Den] at hv ⊢
    obtain ⟨-, k2, k3⟩ := hv
    refine ⟨by simp only [Own.rename]; omega, k2, fun e b' hb' => ?_⟩
    simp only [Own.rename, if_true, Option.some.injEq, Prod.mk.injEq] at hb'
    obtain ⟨rfl, rfl⟩ := hb'
    exact ⟨Nat.le_refl _, fun _ => (k3 _ _ h1).2 rfl⟩

/-! ### Lending -/
def Own.none (ρ : Own) : Own := { ρ with obj := fun _ => Option.none }
theorem Ext.none (ρ : Own) (W : World) : Ext ρ W ρ.none W :=
  ⟨Nat.le_refl _, Nat.le_refl _, fun _ _ _ => rfl, fun _ _ _ _ _ _ h => (by simp [Own.none] at h), fun _ _ _ => ⟨fun _ _ h => (by simp [Own.none] at h), rfl⟩, fun _ _ _ h => (by simp [Own.none] at h), rfl, rfl, rfl⟩
theorem HD.none (ρ : Own) (W : World) : HD ρ.none W (fun _ => Option.none) := ⟨fun _ _ h => (by cases h), fun _ _ => rfl, fun _ _ _ h => (by simp [Own.none] at h), fun _ _ _ _ _ h => (by simp [Own.none] at h)⟩
/-- What a value looks like to those who only read. -/
def Seen (H : Hp) (x y : AV) : Prop := ∀ ρ W v, HD ρ W H → Den ρ W x v → Den ρ.none W y v
theorem Seen.same (H : Hp) (x : AV) : Seen H x x := fun ρ W v hH h => Den.ext (Ext.none ρ W) hH.live _ _ h
theorem Seen.rs {id ver sz off len : Nat} {clip : Bool} {ty : TypeId} {cs : List AV} (ho : H id = some (.cells ty ver cs)) : Seen H (.rs id ver sz off len clip) (.sl false clip len ((cs.drop off).take (len * sz))) := fun ρ W v hH h => by
  have h2 := den_freeze hH h ho
  have h3 := Den.ext (Ext.none (ρ.drop id) W) (Ext.drop hH id).live _ _ h2
  exact h3
inductive SeenL (H : Hp) : List AV → List AV → Prop
  | nil : SeenL H [] []
  | cons {x y : AV} {xs ys : List AV} : Seen H x y → SeenL H xs ys → SeenL H (x :: xs) (y :: ys)
theorem SeenL.len {xs ys : List AV} (h : SeenL H xs ys) : xs.length = ys.length := by induction h <;> simp_all
theorem SeenL.den {xs ys : List AV} (h : SeenL H xs ys) (hH : HD ρ W H) : ∀ {f : Nat → Option Value}, DenL ρ W xs f → DenL ρ.none W ys f := by
  induction h with
  | nil => intro f _; rw [DenL]; trivial
  | cons h1 _ ih =>
    intro f hd
    rw [DenL] at hd ⊢
    obtain ⟨⟨v, hv, hx⟩, hr⟩ := hd
    exact ⟨⟨v, hv, h1 _ _ _ hH hx⟩, ih hr⟩
def Plain (x : AV) : Prop := ∀ (ρ ρ' : Own) (W W' : World) v, Den ρ W x v → Den ρ' W' x v
theorem Plain.int (k : IntKind) (n : Int) : Plain (.int k n) := fun _ _ _ _ v h => by rw [Den] at h ⊢; exact h
theorem Plain.bool (b : Bool) : Plain (.bool b) := fun _ _ _ _ v h => by rw [Den] at h ⊢; exact h
theorem CallV.lend {f : FuncId} {xs ys : List AV} {x : AV} (h : CallV P f ys (fun _ => Option.none) (fun r H' => r = x ∧ H' = fun _ => Option.none)) (hs : SeenL H xs ys) (hx : Plain x) : CallV P f xs H (fun r H' => r = x ∧ H' = H) := by
  intro ρ W vs hl hd hH
  refine Calls.mono (h ρ.none W vs (by rw [hl, hs.len]) (hs.den hH hd) (HD.none ρ W)) ?_
  rintro e' W' ⟨v, ρ', x', H', rfl, q, hv, hH', rfl, rfl⟩
  have hfr : ∀ b, b < W.heap.size → W'.heap[b]? = W.heap[b]? := fun b hb => (q.free b hb (fun _ _ h => by simp [Own.none] at h)).2
  have hnx : ρ.nx ≤ ρ'.nx := q.nx
  have q2 : Ext ρ W { obj := ρ.obj, nx := ρ'.nx } W' := by
    refine ⟨hnx, q.size, fun _ _ h => h, fun k e b e' b' h1 h2 => ?_, fun b hb hf => ⟨hf, hfr b hb⟩, fun k e b hk => Nat.lt_of_lt_of_le (hH.live _ _ _ hk) hnx, q.io⟩
    simp only at h2
    rw [h1] at h2; cases h2
    exact ⟨Nat.le_refl _, fun _ => ⟨rfl, fun cs ty fz hc => ⟨cs, by rw [hfr _ (hH.lt h1)]; exact hc, rfl⟩⟩⟩
  refine ⟨v, { obj := ρ.obj, nx := ρ'.nx }, _, H, rfl, q2, hx _ _ _ _ _ hv, ⟨fun k o hk => ?_, fun k hk => hH.non k hk, q2.live, fun k k' e e' b h1 h2 => hH.inj _ _ _ _ _ h1 h2⟩, rfl, rfl⟩
  obtain ⟨e1, b1, h1, h2, h3⟩ := hH.obs k o hk
  exact ⟨e1, b1, h1, Nat.lt_of_lt_of_le h2 q2.size, hH.of_ext (id := k) q2 h3 (hfr _ h2)⟩

/-- What an operation has laid is written no more. -/
theorem OpW.frzS {o : Oper} {ev : Operand → Option AV} {e : TypeId} {s m : Nat} {clip : Bool} {xs : List AV} (h : OpW P o ev H (fun r H' => ∃ id ver, H id = none ∧ r = .rs id ver s 0 m clip ∧ H' = H.set id (some (.cells e ver xs)))) (hl : xs.length = m * s) :
    OpW P o ev H (fun r H' => r = .sl false clip m xs ∧ H' = H) := by
  refine ⟨h.calm, fun ρ W σ hd hH => ?_⟩
  have hr := h.runs ρ W σ hd hH
  have go : ∀ v W', (∃ ρ' x H', Ext ρ W ρ' W' ∧ Den ρ' W' x v ∧ HD ρ' W' H' ∧ ∃ id ver, H id = none ∧ x = .rs id ver s 0 m clip ∧ H' = H.set id (some (.cells e ver xs))) → ∃ ρ' x H', Ext ρ W ρ' W' ∧ Den ρ' W' x v ∧ HD ρ' W' H' ∧ (x = .sl false clip m xs ∧ H' = H) := by
    rintro v W' ⟨ρ', x, H', q, hv, hH', id, ver, hid, rfl, rfl⟩
    have h2 := den_freeze hH' hv (Hp.set_eq _ _ _)
    rw [List.drop_zero, List.take_of_length_le (by omega)] at h2
    have h3 := hH'.drop id
    rw [Hp.set_set, Hp.set_same _ _ _ hid] at h3
    exact ⟨ρ'.drop id, _, _, q.trans hH.live (Ext.drop hH' id), h2, h3, rfl, rfl⟩
  unfold Runs at hr ⊢
  generalize (execOp σ o).run P W = q at hr
  cases q with
  | halt x w => cases hr
  | ok x w =>
    cases x <;> first
      | exact go _ _ hr
      | (refine Calls.mono hr ?_; rintro e w' ⟨v, rfl, hv⟩; exact ⟨v, rfl, go _ _ hv⟩)
      | (refine RoundIn.mono hr ?_; rintro e w' ⟨v, rfl, hv⟩; exact ⟨v, rfl, go _ _ hv⟩)
      | cases hr
end Go.Proofs.YtaekibilldjnmaaGreat
namespace Go.Proofs.YtaekibilldjnmaaGreat
open Go.ChangeShapes Go.WideShapes Go.ChangeAt Go.RowKit Go.Deep
variable {P : Program} {Hh : Type} {enc : TypeId × Value → Hh} {w : World} {base : Nat} {spare : Nat → Bool} {held : Bool}

def ρ0 : Own := { obj := fun _ => none, nx := 0 }
theorem ρ0_free (b : Nat) : ρ0.free b := fun _ _ h => by cases h
theorem ρ0_hd (w : World) : HD ρ0 w (fun _ => none) := ⟨fun _ _ h => (by cases h), fun _ _ => rfl, fun _ _ _ h => (by cases h), fun _ _ _ _ _ h => (by cases h)⟩
/-- These cells are denoted by those values. -/
def CellsD (w : World) (cells : List AV) (cs : List Value) : Prop := cs.length = cells.length ∧ DenL ρ0 w cells (fun i => cs[i]?)
theorem CellsD.one {x : AV} {v : Value} (h : Den ρ0 w x v) : CellsD w [x] [v] := ⟨rfl, by rw [DenL]; exact ⟨⟨v, rfl, h⟩, by rw [DenL]; trivial⟩⟩
theorem CellsD.append {a b : List AV} {cs : List Value} (ha : CellsD w a (cs.take a.length)) (hb : CellsD w b (cs.drop a.length)) : CellsD w (a ++ b) cs := by
  obtain ⟨h1, h2⟩ := ha
  obtain ⟨h3, h4⟩ := hb
  rw [List.length_take] at h1
  rw [List.length_drop] at h3
  refine ⟨by rw [List.length_append]; omega, DenL.of fun i x hx => ?_⟩
  by_cases hi : i < a.length
  · rw [List.getElem?_append_left hi] at hx
    obtain ⟨v, hv, hd⟩ := h2.at hx
    rw [List.getElem?_take, if_pos hi] at hv
    exact ⟨v, hv, hd⟩
  · rw [List.getElem?_append_right (by omega)] at hx
    obtain ⟨v, hv, hd⟩ := h4.at hx
    rw [List.getElem?_drop, show a.length + (i - a.length) = i by omega] at hv
    exact ⟨v, hv, hd⟩
theorem CellsD.agg {cells : List AV} {cs : Array Value} (h : CellsD w cells cs.toList) : Den ρ0 w (.agg cells) (.agg cs) := by
  rw [Den]
  exact ⟨cs, rfl, by simpa using h.1, h.2.congr fun i _ => by simp⟩

/-- What cells of a type read as. -/
def Rd (P : Program) (Hh : Type) (enc : TypeId × Value → Hh) (w : World) (base : Nat) (spare : Nat → Bool) (held : Bool) {A : Type} (t : TypeId) (C : A → List AV) (Okk : A → Prop) : Prop :=
  ∀ (fuel : Nat) (cs : List Value) (x : DataW Hh × List MemPlace), DataW.trod enc P w base spare held fuel t cs = some x → ∃ a : A, Okk a ∧ CellsD w (C a) cs

theorem rd_int {t : TypeId} {k : IntKind} (ht : P.underlying t = some (.int k)) : Rd P Hh enc w base spare held t (fun n : Int => [.int k n]) (fun n => Lit.wf (.int k n) = true) := by
  intro fuel cs x h
  obtain ⟨z, e1, _, hw⟩ := DataW.trod_int ht h
  subst e1
  exact ⟨z, hw, CellsD.one (by rw [Den])⟩
theorem flat_len {A : Type} {C : A → List AV} {s : Nat} (hC : ∀ a, (C a).length = s) : ∀ ls : List A, (ls.flatMap C).length = ls.length * s
  | [] => by simp
  | a :: ls => by rw [List.flatMap_cons, List.length_append, flat_len hC ls, hC]; simp [Nat.add_mul]; omega
theorem flat_at {A : Type} {C : A → List AV} {s : Nat} (hC : ∀ a, (C a).length = s) (hs : 0 < s) : ∀ (ls : List A) (i : Nat) (x : AV), (ls.flatMap C)[i]? = some x → ∃ a, ls[i / s]? = some a ∧ (C a)[i % s]? = some x
  | [], i, x, h => by simp at h
  | a :: ls, i, x, h => by
    rw [List.flatMap_cons] at h
    by_cases hi : i < s
    · rw [List.getElem?_append_left (by rw [hC]; exact hi)] at h
      exact ⟨a, by rw [Nat.div_eq_of_lt hi]; rfl, by rw [Nat.mod_eq_of_lt hi]; exact h⟩
    · rw [List.getElem?_append_right (by rw [hC]; omega), hC] at h
      obtain ⟨b, h1, h2⟩ := flat_at hC hs ls (i - s) x h
      refine ⟨b, ?_, ?_⟩
      · rw [show i / s = (i - s) / s + 1 by rw [← Nat.add_div_right _ hs]; congr 1; omega, List.getElem?_cons_succ]; exact h1
      · rw [show i % s = (i - s) % s by rw [← Nat.add_mod_right (i - s) s]; congr 1; omega]; exact h2
theorem choose_list {A : Type} {p : Nat → A → Prop} : ∀ (n : Nat), (∀ i, i < n → ∃ a, p i a) → ∃ ls : List A, ls.length = n ∧ ∀ i a, ls[i]? = some a → p i a
  | 0, _ => ⟨[], rfl, fun i a h => by simp at h⟩
  | n + 1, h => by
    obtain ⟨ls, h1, h2⟩ := choose_list n (fun i hi => h i (by omega))
    obtain ⟨a, ha⟩ := h n (by omega)
    refine ⟨ls ++ [a], by simp [h1], fun i b hb => ?_⟩
    by_cases hi : i < n
    · rw [List.getElem?_append_left (by omega)] at hb; exact h2 i b hb
    · rw [List.getElem?_append_right (by omega)] at hb
      have hl := (List.getElem?_eq_some_iff.1 hb).1
      simp only [List.length_singleton] at hl
      have e : i = n := by omega
      subst e
      rw [h1, Nat.sub_self] at hb
      simp only [List.getElem?_cons_zero, Option.some.injEq] at hb
      subst hb; exact ha

theorem rd_array {A : Type} {t e : TypeId} {n s : Nat} {C : A → List AV} {Okk : A → Prop} (ht : P.underlying t = some (.array n e)) (hct : P.cellsOf t = n * s) (hce : P.cellsOf e = s) (hs : 0 < s) (hC : ∀ a, (C a).length = s) (hr : Rd P Hh enc w base spare held e C Okk) :
    Rd P Hh enc w base spare held t (fun ls : List A => ls.flatMap C) (fun ls => ls.length = n ∧ ∀ a ∈ ls, Okk a) := by
  intro fuel cs x h
  obtain ⟨xs, m, _, _, hl, hx, hel⟩ := DataW.trod_array ht h
  rw [hct] at hl
  obtain ⟨ls, h1, h2⟩ := choose_list (p := fun i a => Okk a ∧ CellsD w (C a) ((cs.drop (i * s)).take s)) n fun i hi => by
    have hE := hel i hi
    rw [hce, List.getElem?_eq_getElem (by omega)] at hE
    exact hr _ _ _ hE
  refine ⟨ls, ⟨h1, fun a ha => ?_⟩, by rw [flat_len hC, h1, hl], DenL.of fun i x hx => ?_⟩
  · obtain ⟨i, hi, rfl⟩ := List.getElem_of_mem ha
    exact (h2 i _ (List.getElem?_eq_getElem hi)).1
  · obtain ⟨a, e1, e2⟩ := flat_at hC hs ls i x hx
    obtain ⟨v, hv, hd⟩ := (h2 _ _ e1).2.2.at e2
    refine ⟨v, ?_, hd⟩
    rw [List.getElem?_take, if_pos (Nat.mod_lt _ hs), List.getElem?_drop, Nat.mul_comm, Nat.div_add_mod] at hv
    exact hv

theorem rd_slice {A : Type} {t e : TypeId} {s : Nat} {C : A → List AV} {Okk : A → Prop} (ht : P.underlying t = some (.slice e)) (hce : P.cellsOf e = s) (hs : 0 < s) (hC : ∀ a, (C a).length = s) (hr : Rd P Hh enc w base spare held e C Okk)
    {fuel : Nat} {cs : List Value} {x : DataW Hh × List MemPlace} (hsp : ∀ a len cap, cs = [.slice (some a) len cap] → a.spot = none) (h : DataW.trod enc P w base spare held fuel t cs = some x) :
    ∃ (nl : Bool) (ls : List A), (∀ a ∈ ls, Okk a) ∧ ls.length ≤ maxLen ∧ CellsD w [.sl nl false ls.length (ls.flatMap C)] cs := by
  rcases open_slice ht h with ⟨rfl, -⟩ | ⟨a, len, cap, m, n, D, Pl, rfl, _, hl, hcm, hmm, _, hi⟩
  · refine ⟨true, [], by simp, Nat.zero_le _, CellsD.one ?_⟩
    rw [Den]
    exact ⟨none, 0, rfl, Nat.le_refl _, nofun, fun _ => ⟨rfl, rfl, rfl⟩, nofun⟩
  · have hlm : len ≤ m := by rw [hmm]; split <;> omega
    have hspot := hsp _ _ _ rfl
    obtain ⟨b, off, spot⟩ := a
    simp only at hspot
    subst hspot
    obtain ⟨ls, h1, h2⟩ := choose_list (p := fun i (a : A) => Okk a ∧ ∃ cs', w.cells? base ((⟨b, off, none⟩ : Addr).add (i * s)) s = some cs' ∧ CellsD w (C a) cs') len fun i hil => by
      obtain ⟨cs', hc, ht'⟩ := hi i (by omega)
      rw [hce] at hc
      obtain ⟨a, ha, hd⟩ := hr _ _ _ ht'
      exact ⟨a, ha, cs', hc, hd⟩
    subst h1
    have hcell : ∀ i x, (ls.flatMap C)[i]? = some x → ∃ v, w.cell? ⟨b, off + i, none⟩ = some v ∧ Den ρ0 w x v := fun i x hx => by
      obtain ⟨a, e1, e2⟩ := flat_at hC hs ls i x hx
      obtain ⟨-, cs', hc, hd⟩ := h2 _ _ e1
      obtain ⟨v, hv, hden⟩ := hd.2.at e2
      obtain ⟨-, -, hat⟩ := World.cells?_some hc
      have := hat (i % s) (Nat.mod_lt _ hs)
      rw [add_addr, add_addr] at this
      refine ⟨v, ?_, hden⟩
      rw [show off + i / s * s + i % s = off + i by rw [Nat.add_assoc, Nat.mul_comm, Nat.div_add_mod]] at this
      rw [this]; exact hv
    refine ⟨false, ls, fun a ha => ?_, by omega, CellsD.one ?_⟩
    · obtain ⟨i, hi, rfl⟩ := List.getElem_of_mem ha
      exact (h2 i _ (List.getElem?_eq_getElem hi)).1
    · rw [Den]
      refine ⟨_, cap, rfl, hl, nofun, nofun, fun _ => ⟨b, off, rfl, fun hne => ⟨?_, ρ0_free b⟩, DenL.of hcell⟩⟩
      obtain ⟨y, hy⟩ := List.exists_mem_of_ne_nil _ hne
      obtain ⟨i, hi', rfl⟩ := List.getElem_of_mem hy
      obtain ⟨v, hv, -⟩ := hcell i _ (List.getElem?_eq_getElem hi')
      unfold World.cell? at hv
      cases hb : w.heap[b]? with
      | none => simp [hb] at hv
      | some o => exact (Array.getElem?_eq_some_iff.1 hb).1

/-- A slice that was handed in lies at cells of its own. -/
theorem slice_spot {r : Reach} {t e : TypeId} (ht : P.underlying t = some (.slice e)) {a : Addr} {len cap : Nat} (h : Cell.okWide P w r base t (.slice (some a) len cap)) : a.spot = none := by
  simp only [Cell.okWide, Cell.ok, ht] at h
  exact h.2.2.2.1
end Go.Proofs.YtaekibilldjnmaaGreat
namespace Go.Proofs.YtaekibilldjnmaaGreat
open Go.Proofs
@[go_sem] theorem Tryz.sz0 : sizeT Tryz.prog 0 = some 1 := by kernel_rfl
@[go_sem] theorem Tryz.ag0 : aggT Tryz.prog 0 = some false := by kernel_rfl
@[go_sem] theorem Tryz.sz1 : sizeT Tryz.prog 1 = some 1 := by kernel_rfl
@[go_sem] theorem Tryz.ag1 : aggT Tryz.prog 1 = some false := by kernel_rfl
@[go_sem] theorem Tryz.sz2 : sizeT Tryz.prog 2 = some 1 := by kernel_rfl
@[go_sem] theorem Tryz.ag2 : aggT Tryz.prog 2 = some false := by kernel_rfl
@[go_sem] theorem Tryz.ze2 : zeroT Tryz.prog 2 = some [.int .i64 0] := by kernel_rfl
@[go_sem] theorem Tryz.sz3 : sizeT Tryz.prog 3 = some 1 := by kernel_rfl
@[go_sem] theorem Tryz.ag3 : aggT Tryz.prog 3 = some false := by kernel_rfl
@[go_sem] theorem Tryz.ze3 : zeroT Tryz.prog 3 = some [.int .i64 0] := by kernel_rfl
@[go_sem] theorem Tryz.sz4 : sizeT Tryz.prog 4 = some 1 := by kernel_rfl
@[go_sem] theorem Tryz.ag4 : aggT Tryz.prog 4 = some false := by kernel_rfl
@[go_sem] theorem Tryz.ze4 : zeroT Tryz.prog 4 = some [.bool false] := by kernel_rfl
@[go_sem] theorem Tryz.sz5 : sizeT Tryz.prog 5 = some 1 := by kernel_rfl
@[go_sem] theorem Tryz.ag5 : aggT Tryz.prog 5 = some false := by kernel_rfl
@[go_sem] theorem Tryz.ze5 : zeroT Tryz.prog 5 = some [.int .u8 0] := by kernel_rfl
@[go_sem] theorem Tryz.sz6 : sizeT Tryz.prog 6 = some 1 := by kernel_rfl
@[go_sem] theorem Tryz.ag6 : aggT Tryz.prog 6 = some false := by kernel_rfl
@[go_sem] theorem Tryz.ze6 : zeroT Tryz.prog 6 = some [.int .u8 0] := by kernel_rfl
@[go_sem] theorem Tryz.sz7 : sizeT Tryz.prog 7 = some 4 := by kernel_rfl
@[go_sem] theorem Tryz.ag7 : aggT Tryz.prog 7 = some true := by kernel_rfl
@[go_sem] theorem Tryz.ze7 : zeroT Tryz.prog 7 = some [.int .i64 0, .int .i64 0, .bool false, .int .u8 0] := by kernel_rfl
@[go_sem] theorem Tryz.fd7_0 : fieldO Tryz.prog 7 0 = some (2, 0) := by kernel_rfl
@[go_sem] theorem Tryz.fd7_1 : fieldO Tryz.prog 7 1 = some (3, 1) := by kernel_rfl
@[go_sem] theorem Tryz.fd7_2 : fieldO Tryz.prog 7 2 = some (4, 2) := by kernel_rfl
@[go_sem] theorem Tryz.fd7_3 : fieldO Tryz.prog 7 3 = some (6, 3) := by kernel_rfl
@[go_sem] theorem Tryz.sz8 : sizeT Tryz.prog 8 = some 4 := by kernel_rfl
@[go_sem] theorem Tryz.ag8 : aggT Tryz.prog 8 = some true := by kernel_rfl
@[go_sem] theorem Tryz.ze8 : zeroT Tryz.prog 8 = some [.int .i64 0, .int .i64 0, .bool false, .int .u8 0] := by kernel_rfl
@[go_sem] theorem Tryz.fd8_0 : fieldO Tryz.prog 8 0 = some (2, 0) := by kernel_rfl
@[go_sem] theorem Tryz.fd8_1 : fieldO Tryz.prog 8 1 = some (3, 1) := by kernel_rfl
@[go_sem] theorem Tryz.fd8_2 : fieldO Tryz.prog 8 2 = some (4, 2) := by kernel_rfl
@[go_sem] theorem Tryz.fd8_3 : fieldO Tryz.prog 8 3 = some (6, 3) := by kernel_rfl
@[go_sem] theorem Tryz.sz9 : sizeT Tryz.prog 9 = some 1 := by kernel_rfl
@[go_sem] theorem Tryz.ag9 : aggT Tryz.prog 9 = some false := by kernel_rfl
@[go_sem] theorem Tryz.sz10 : sizeT Tryz.prog 10 = some 1 := by kernel_rfl
@[go_sem] theorem Tryz.ag10 : aggT Tryz.prog 10 = some false := by kernel_rfl
@[go_sem] theorem Tryz.sz11 : sizeT Tryz.prog 11 = some 1 := by kernel_rfl
@[go_sem] theorem Tryz.ag11 : aggT Tryz.prog 11 = some false := by kernel_rfl
@[go_sem] theorem Tryz.sz12 : sizeT Tryz.prog 12 = some 1 := by kernel_rfl
@[go_sem] theorem Tryz.ag12 : aggT Tryz.prog 12 = some false := by kernel_rfl
@[go_sem] theorem Tryz.ze12 : zeroT Tryz.prog 12 = some [.int .u64 0] := by kernel_rfl
@[go_sem] theorem Tryz.sz13 : sizeT Tryz.prog 13 = some 2 := by kernel_rfl
@[go_sem] theorem Tryz.ag13 : aggT Tryz.prog 13 = some true := by kernel_rfl
@[go_sem] theorem Tryz.fd13_0 : fieldO Tryz.prog 13 0 = some (9, 0) := by kernel_rfl
@[go_sem] theorem Tryz.fd13_1 : fieldO Tryz.prog 13 1 = some (12, 1) := by kernel_rfl
@[go_sem] theorem Tryz.sz14 : sizeT Tryz.prog 14 = some 2 := by kernel_rfl
@[go_sem] theorem Tryz.ag14 : aggT Tryz.prog 14 = some true := by kernel_rfl
@[go_sem] theorem Tryz.fd14_0 : fieldO Tryz.prog 14 0 = some (9, 0) := by kernel_rfl
@[go_sem] theorem Tryz.fd14_1 : fieldO Tryz.prog 14 1 = some (12, 1) := by kernel_rfl
@[go_sem] theorem Tryz.sz15 : sizeT Tryz.prog 15 = some 1 := by kernel_rfl
@[go_sem] theorem Tryz.ag15 : aggT Tryz.prog 15 = some false := by kernel_rfl
@[go_sem] theorem Tryz.ze15 : zeroT Tryz.prog 15 = some [.nilp] := by kernel_rfl
@[go_sem] theorem Tryz.sz16 : sizeT Tryz.prog 16 = some 1 := by kernel_rfl
@[go_sem] theorem Tryz.ag16 : aggT Tryz.prog 16 = some false := by kernel_rfl
@[go_sem] theorem Tryz.ze16 : zeroT Tryz.prog 16 = some [.nilp] := by kernel_rfl
@[go_sem] theorem Tryz.sz17 : sizeT Tryz.prog 17 = some 1 := by kernel_rfl
@[go_sem] theorem Tryz.ag17 : aggT Tryz.prog 17 = some false := by kernel_rfl
@[go_sem] theorem Tryz.ze17 : zeroT Tryz.prog 17 = some [.nilp] := by kernel_rfl
@[go_sem] theorem Tryz.sz18 : sizeT Tryz.prog 18 = some 1 := by kernel_rfl
@[go_sem] theorem Tryz.ag18 : aggT Tryz.prog 18 = some true := by kernel_rfl
@[go_sem] theorem Tryz.ze18 : zeroT Tryz.prog 18 = some [.nilp] := by kernel_rfl
@[go_sem] theorem Tryz.fd18_0 : fieldO Tryz.prog 18 0 = some (17, 0) := by kernel_rfl
@[go_sem] theorem Tryz.sz19 : sizeT Tryz.prog 19 = some 1 := by kernel_rfl
@[go_sem] theorem Tryz.ag19 : aggT Tryz.prog 19 = some true := by kernel_rfl
@[go_sem] theorem Tryz.ze19 : zeroT Tryz.prog 19 = some [.nilp] := by kernel_rfl
@[go_sem] theorem Tryz.fd19_0 : fieldO Tryz.prog 19 0 = some (17, 0) := by kernel_rfl
@[go_sem] theorem Tryz.sz20 : sizeT Tryz.prog 20 = some 1 := by kernel_rfl
@[go_sem] theorem Tryz.ag20 : aggT Tryz.prog 20 = some false := by kernel_rfl
@[go_sem] theorem Tryz.sz21 : sizeT Tryz.prog 21 = some 1 := by kernel_rfl
@[go_sem] theorem Tryz.ag21 : aggT Tryz.prog 21 = some false := by kernel_rfl
@[go_sem] theorem Tryz.ze21 : zeroT Tryz.prog 21 = some [.int .i32 0] := by kernel_rfl
@[go_sem] theorem Tryz.sz22 : sizeT Tryz.prog 22 = some 6 := by kernel_rfl
@[go_sem] theorem Tryz.ag22 : aggT Tryz.prog 22 = some true := by kernel_rfl
@[go_sem] theorem Tryz.ze22 : zeroT Tryz.prog 22 = some [.int .u8 0, .int .u8 0, .int .u8 0, .int .u8 0, .int .u8 0, .int .u8 0] := by kernel_rfl
@[go_sem] theorem Tryz.sz23 : sizeT Tryz.prog 23 = some 1 := by kernel_rfl
@[go_sem] theorem Tryz.ag23 : aggT Tryz.prog 23 = some false := by kernel_rfl
@[go_sem] theorem Tryz.ze23 : zeroT Tryz.prog 23 = some [.sl true true 0 []] := by kernel_rfl
@[go_sem] theorem Tryz.sz24 : sizeT Tryz.prog 24 = some 3 := by kernel_rfl
@[go_sem] theorem Tryz.ag24 : aggT Tryz.prog 24 = some true := by kernel_rfl
@[go_sem] theorem Tryz.ze24 : zeroT Tryz.prog 24 = some [.int .u8 0, .int .u8 0, .int .u8 0] := by kernel_rfl
@[go_sem] theorem Tryz.sz25 : sizeT Tryz.prog 25 = some 10 := by kernel_rfl
@[go_sem] theorem Tryz.ag25 : aggT Tryz.prog 25 = some true := by kernel_rfl
@[go_sem] theorem Tryz.ze25 : zeroT Tryz.prog 25 = some [.int .u8 0, .int .u8 0, .int .u8 0, .int .u8 0, .int .u8 0, .int .u8 0, .sl true true 0 [], .int .u8 0, .int .u8 0, .int .u8 0] := by kernel_rfl
@[go_sem] theorem Tryz.fd25_0 : fieldO Tryz.prog 25 0 = some (22, 0) := by kernel_rfl
@[go_sem] theorem Tryz.fd25_1 : fieldO Tryz.prog 25 1 = some (23, 6) := by kernel_rfl
@[go_sem] theorem Tryz.fd25_2 : fieldO Tryz.prog 25 2 = some (24, 7) := by kernel_rfl
@[go_sem] theorem Tryz.sz26 : sizeT Tryz.prog 26 = some 10 := by kernel_rfl
@[go_sem] theorem Tryz.ag26 : aggT Tryz.prog 26 = some true := by kernel_rfl
@[go_sem] theorem Tryz.ze26 : zeroT Tryz.prog 26 = some [.int .u8 0, .int .u8 0, .int .u8 0, .int .u8 0, .int .u8 0, .int .u8 0, .sl true true 0 [], .int .u8 0, .int .u8 0, .int .u8 0] := by kernel_rfl
@[go_sem] theorem Tryz.fd26_0 : fieldO Tryz.prog 26 0 = some (22, 0) := by kernel_rfl
@[go_sem] theorem Tryz.fd26_1 : fieldO Tryz.prog 26 1 = some (23, 6) := by kernel_rfl
@[go_sem] theorem Tryz.fd26_2 : fieldO Tryz.prog 26 2 = some (24, 7) := by kernel_rfl
@[go_sem] theorem Tryz.sz27 : sizeT Tryz.prog 27 = some 1 := by kernel_rfl
@[go_sem] theorem Tryz.ag27 : aggT Tryz.prog 27 = some false := by kernel_rfl
@[go_sem] theorem Tryz.ze27 : zeroT Tryz.prog 27 = some [.sl true true 0 []] := by kernel_rfl
@[go_sem] theorem Tryz.sz28 : sizeT Tryz.prog 28 = some 2 := by kernel_rfl
@[go_sem] theorem Tryz.ag28 : aggT Tryz.prog 28 = some true := by kernel_rfl
@[go_sem] theorem Tryz.ze28 : zeroT Tryz.prog 28 = some [.sl true true 0 [], .sl true true 0 []] := by kernel_rfl
@[go_sem] theorem Tryz.sz29 : sizeT Tryz.prog 29 = some 1 := by kernel_rfl
@[go_sem] theorem Tryz.ag29 : aggT Tryz.prog 29 = some false := by kernel_rfl
@[go_sem] theorem Tryz.ze29 : zeroT Tryz.prog 29 = some [.sl true true 0 []] := by kernel_rfl
@[go_sem] theorem Tryz.sz30 : sizeT Tryz.prog 30 = some 1 := by kernel_rfl
@[go_sem] theorem Tryz.ag30 : aggT Tryz.prog 30 = some false := by kernel_rfl
@[go_sem] theorem Tryz.ze30 : zeroT Tryz.prog 30 = some [.sl true true 0 []] := by kernel_rfl
@[go_sem] theorem Tryz.sz31 : sizeT Tryz.prog 31 = some 5 := by kernel_rfl
@[go_sem] theorem Tryz.ag31 : aggT Tryz.prog 31 = some true := by kernel_rfl
@[go_sem] theorem Tryz.ze31 : zeroT Tryz.prog 31 = some [.sl true true 0 [], .sl true true 0 [], .int .i64 0, .int .i64 0, .int .i64 0] := by kernel_rfl
@[go_sem] theorem Tryz.fd31_0 : fieldO Tryz.prog 31 0 = some (29, 0) := by kernel_rfl
@[go_sem] theorem Tryz.fd31_1 : fieldO Tryz.prog 31 1 = some (30, 1) := by kernel_rfl
@[go_sem] theorem Tryz.fd31_2 : fieldO Tryz.prog 31 2 = some (3, 2) := by kernel_rfl
@[go_sem] theorem Tryz.fd31_3 : fieldO Tryz.prog 31 3 = some (3, 3) := by kernel_rfl
@[go_sem] theorem Tryz.fd31_4 : fieldO Tryz.prog 31 4 = some (3, 4) := by kernel_rfl
@[go_sem] theorem Tryz.sz32 : sizeT Tryz.prog 32 = some 5 := by kernel_rfl
@[go_sem] theorem Tryz.ag32 : aggT Tryz.prog 32 = some true := by kernel_rfl
@[go_sem] theorem Tryz.ze32 : zeroT Tryz.prog 32 = some [.sl true true 0 [], .sl true true 0 [], .int .i64 0, .int .i64 0, .int .i64 0] := by kernel_rfl
@[go_sem] theorem Tryz.fd32_0 : fieldO Tryz.prog 32 0 = some (29, 0) := by kernel_rfl
@[go_sem] theorem Tryz.fd32_1 : fieldO Tryz.prog 32 1 = some (30, 1) := by kernel_rfl
@[go_sem] theorem Tryz.fd32_2 : fieldO Tryz.prog 32 2 = some (3, 2) := by kernel_rfl
@[go_sem] theorem Tryz.fd32_3 : fieldO Tryz.prog 32 3 = some (3, 3) := by kernel_rfl
@[go_sem] theorem Tryz.fd32_4 : fieldO Tryz.prog 32 4 = some (3, 4) := by kernel_rfl
@[go_sem] theorem Tryz.sz33 : sizeT Tryz.prog 33 = some 1 := by kernel_rfl
@[go_sem] theorem Tryz.ag33 : aggT Tryz.prog 33 = some false := by kernel_rfl
@[go_sem] theorem Tryz.sz34 : sizeT Tryz.prog 34 = some 1 := by kernel_rfl
@[go_sem] theorem Tryz.ag34 : aggT Tryz.prog 34 = some false := by kernel_rfl
@[go_sem] theorem Tryz.sz35 : sizeT Tryz.prog 35 = some 1 := by kernel_rfl
@[go_sem] theorem Tryz.ag35 : aggT Tryz.prog 35 = some false := by kernel_rfl
@[go_sem] theorem Tryz.ze35 : zeroT Tryz.prog 35 = some [.int .i64 0] := by kernel_rfl
@[go_sem] theorem Tryz.sz36 : sizeT Tryz.prog 36 = some 1 := by kernel_rfl
@[go_sem] theorem Tryz.ag36 : aggT Tryz.prog 36 = some false := by kernel_rfl
@[go_sem] theorem Tryz.sz37 : sizeT Tryz.prog 37 = some 1 := by kernel_rfl
@[go_sem] theorem Tryz.ag37 : aggT Tryz.prog 37 = some false := by kernel_rfl
@[go_sem] theorem Tryz.sz38 : sizeT Tryz.prog 38 = some 1 := by kernel_rfl
@[go_sem] theorem Tryz.ag38 : aggT Tryz.prog 38 = some false := by kernel_rfl
@[go_sem] theorem Tryz.sz39 : sizeT Tryz.prog 39 = some 1 := by kernel_rfl
@[go_sem] theorem Tryz.ag39 : aggT Tryz.prog 39 = some false := by kernel_rfl
@[go_sem] theorem Tryz.sz40 : sizeT Tryz.prog 40 = some 1 := by kernel_rfl
@[go_sem] theorem Tryz.ag40 : aggT Tryz.prog 40 = some false := by kernel_rfl
@[go_sem] theorem Tryz.sz41 : sizeT Tryz.prog 41 = some 1 := by kernel_rfl
@[go_sem] theorem Tryz.ag41 : aggT Tryz.prog 41 = some false := by kernel_rfl
@[go_sem] theorem Tryz.sz42 : sizeT Tryz.prog 42 = some 1 := by kernel_rfl
@[go_sem] theorem Tryz.ag42 : aggT Tryz.prog 42 = some false := by kernel_rfl
@[go_sem] theorem Tryz.sz43 : sizeT Tryz.prog 43 = some 1 := by kernel_rfl
@[go_sem] theorem Tryz.ag43 : aggT Tryz.prog 43 = some false := by kernel_rfl
@[go_sem] theorem Tryz.sz44 : sizeT Tryz.prog 44 = some 1 := by kernel_rfl
@[go_sem] theorem Tryz.ag44 : aggT Tryz.prog 44 = some false := by kernel_rfl
@[go_sem] theorem Tryz.sz45 : sizeT Tryz.prog 45 = some 1 := by kernel_rfl
@[go_sem] theorem Tryz.ag45 : aggT Tryz.prog 45 = some false := by kernel_rfl
@[go_sem] theorem Tryz.sz46 : sizeT Tryz.prog 46 = some 1 := by kernel_rfl
@[go_sem] theorem Tryz.ag46 : aggT Tryz.prog 46 = some false := by kernel_rfl
@[go_sem] theorem Tryz.sz47 : sizeT Tryz.prog 47 = some 1 := by kernel_rfl
@[go_sem] theorem Tryz.ag47 : aggT Tryz.prog 47 = some false := by kernel_rfl
@[go_sem] theorem Tryz.sz48 : sizeT Tryz.prog 48 = some 1 := by kernel_rfl
@[go_sem] theorem Tryz.ag48 : aggT Tryz.prog 48 = some false := by kernel_rfl
@[go_sem] theorem Tryz.sz49 : sizeT Tryz.prog 49 = some 1 := by kernel_rfl
@[go_sem] theorem Tryz.ag49 : aggT Tryz.prog 49 = some false := by kernel_rfl
@[go_sem] theorem Tryz.sz50 : sizeT Tryz.prog 50 = some 4 := by kernel_rfl
@[go_sem] theorem Tryz.ag50 : aggT Tryz.prog 50 = some true := by kernel_rfl
@[go_sem] theorem Tryz.ze50 : zeroT Tryz.prog 50 = some [.int .u8 0, .int .u8 0, .int .u8 0, .int .u8 0] := by kernel_rfl
@[go_sem] theorem Tryz.sz51 : sizeT Tryz.prog 51 = some 1 := by kernel_rfl
@[go_sem] theorem Tryz.ag51 : aggT Tryz.prog 51 = some false := by kernel_rfl
@[go_sem] theorem Tryz.sz52 : sizeT Tryz.prog 52 = some 1 := by kernel_rfl
@[go_sem] theorem Tryz.ag52 : aggT Tryz.prog 52 = some false := by kernel_rfl
@[go_sem] theorem Tryz.sz53 : sizeT Tryz.prog 53 = some 1 := by kernel_rfl
@[go_sem] theorem Tryz.ag53 : aggT Tryz.prog 53 = some false := by kernel_rfl
@[go_sem] theorem Tryz.sz54 : sizeT Tryz.prog 54 = some 1 := by kernel_rfl
@[go_sem] theorem Tryz.ag54 : aggT Tryz.prog 54 = some false := by kernel_rfl
@[go_sem] theorem Tryz.sz55 : sizeT Tryz.prog 55 = some 1 := by kernel_rfl
@[go_sem] theorem Tryz.ag55 : aggT Tryz.prog 55 = some false := by kernel_rfl
@[go_sem] theorem Tryz.sz56 : sizeT Tryz.prog 56 = some 1 := by kernel_rfl
@[go_sem] theorem Tryz.ag56 : aggT Tryz.prog 56 = some false := by kernel_rfl
@[go_sem] theorem Tryz.sz57 : sizeT Tryz.prog 57 = some 1 := by kernel_rfl
@[go_sem] theorem Tryz.ag57 : aggT Tryz.prog 57 = some false := by kernel_rfl
@[go_sem] theorem Tryz.sz58 : sizeT Tryz.prog 58 = some 1 := by kernel_rfl
@[go_sem] theorem Tryz.ag58 : aggT Tryz.prog 58 = some false := by kernel_rfl
@[go_sem] theorem Tryz.ze58 : zeroT Tryz.prog 58 = some [.sl true true 0 []] := by kernel_rfl
@[go_sem] theorem Tryz.sz59 : sizeT Tryz.prog 59 = some 2 := by kernel_rfl
@[go_sem] theorem Tryz.ag59 : aggT Tryz.prog 59 = some true := by kernel_rfl
@[go_sem] theorem Tryz.ze59 : zeroT Tryz.prog 59 = some [.int .u8 0, .int .u8 0] := by kernel_rfl
@[go_sem] theorem Tryz.sz60 : sizeT Tryz.prog 60 = some 1 := by kernel_rfl
@[go_sem] theorem Tryz.ag60 : aggT Tryz.prog 60 = some false := by kernel_rfl
@[go_sem] theorem Tryz.ze60 : zeroT Tryz.prog 60 = some [.sl true true 0 []] := by kernel_rfl
@[go_sem] theorem Tryz.sz61 : sizeT Tryz.prog 61 = some 1 := by kernel_rfl
@[go_sem] theorem Tryz.ag61 : aggT Tryz.prog 61 = some false := by kernel_rfl
@[go_sem] theorem Tryz.sz62 : sizeT Tryz.prog 62 = some 1 := by kernel_rfl
@[go_sem] theorem Tryz.ag62 : aggT Tryz.prog 62 = some false := by kernel_rfl
@[go_sem] theorem Tryz.sz63 : sizeT Tryz.prog 63 = some 1 := by kernel_rfl
@[go_sem] theorem Tryz.ag63 : aggT Tryz.prog 63 = some false := by kernel_rfl
@[go_sem] theorem Tryz.sz64 : sizeT Tryz.prog 64 = some 1 := by kernel_rfl
@[go_sem] theorem Tryz.ag64 : aggT Tryz.prog 64 = some false := by kernel_rfl
@[go_sem] theorem Tryz.sz65 : sizeT Tryz.prog 65 = some 1 := by kernel_rfl
@[go_sem] theorem Tryz.ag65 : aggT Tryz.prog 65 = some false := by kernel_rfl
@[go_sem] theorem Tryz.ze65 : zeroT Tryz.prog 65 = some [.int .u64 0] := by kernel_rfl
@[go_sem] theorem Tryz.sz66 : sizeT Tryz.prog 66 = some 1 := by kernel_rfl
@[go_sem] theorem Tryz.ag66 : aggT Tryz.prog 66 = some false := by kernel_rfl
@[go_sem] theorem Tryz.sz67 : sizeT Tryz.prog 67 = some 1 := by kernel_rfl
@[go_sem] theorem Tryz.ag67 : aggT Tryz.prog 67 = some false := by kernel_rfl
@[go_sem] theorem Tryz.sz68 : sizeT Tryz.prog 68 = some 6 := by kernel_rfl
@[go_sem] theorem Tryz.ag68 : aggT Tryz.prog 68 = some true := by kernel_rfl
@[go_sem] theorem Tryz.ze68 : zeroT Tryz.prog 68 = some [.bool false, .bool false, .bool false, .bool false, .bool false, .bool false] := by kernel_rfl
@[go_sem] theorem Tryz.sz69 : sizeT Tryz.prog 69 = some 1 := by kernel_rfl
@[go_sem] theorem Tryz.ag69 : aggT Tryz.prog 69 = some false := by kernel_rfl
@[go_sem] theorem Tryz.sz70 : sizeT Tryz.prog 70 = some 6 := by kernel_rfl
@[go_sem] theorem Tryz.ag70 : aggT Tryz.prog 70 = some true := by kernel_rfl
@[go_sem] theorem Tryz.ze70 : zeroT Tryz.prog 70 = some [.int .u8 0, .int .u8 0, .int .u8 0, .int .u8 0, .int .u8 0, .int .u8 0] := by kernel_rfl
@[go_sem] theorem Tryz.sz71 : sizeT Tryz.prog 71 = some 1 := by kernel_rfl
@[go_sem] theorem Tryz.ag71 : aggT Tryz.prog 71 = some false := by kernel_rfl
@[go_sem] theorem Tryz.sz72 : sizeT Tryz.prog 72 = some 1 := by kernel_rfl
@[go_sem] theorem Tryz.ag72 : aggT Tryz.prog 72 = some false := by kernel_rfl
@[go_sem] theorem Tryz.sz73 : sizeT Tryz.prog 73 = some 3 := by kernel_rfl
@[go_sem] theorem Tryz.ag73 : aggT Tryz.prog 73 = some true := by kernel_rfl
@[go_sem] theorem Tryz.ze73 : zeroT Tryz.prog 73 = some [.int .i64 0, .int .i64 0, .int .i64 0] := by kernel_rfl
@[go_sem] theorem Tryz.fd73_0 : fieldO Tryz.prog 73 0 = some (3, 0) := by kernel_rfl
@[go_sem] theorem Tryz.fd73_1 : fieldO Tryz.prog 73 1 = some (3, 1) := by kernel_rfl
@[go_sem] theorem Tryz.fd73_2 : fieldO Tryz.prog 73 2 = some (3, 2) := by kernel_rfl
@[go_sem] theorem Tryz.sz74 : sizeT Tryz.prog 74 = some 3 := by kernel_rfl
@[go_sem] theorem Tryz.ag74 : aggT Tryz.prog 74 = some true := by kernel_rfl
@[go_sem] theorem Tryz.ze74 : zeroT Tryz.prog 74 = some [.int .i64 0, .int .i64 0, .int .i64 0] := by kernel_rfl
@[go_sem] theorem Tryz.fd74_0 : fieldO Tryz.prog 74 0 = some (3, 0) := by kernel_rfl
@[go_sem] theorem Tryz.fd74_1 : fieldO Tryz.prog 74 1 = some (3, 1) := by kernel_rfl
@[go_sem] theorem Tryz.fd74_2 : fieldO Tryz.prog 74 2 = some (3, 2) := by kernel_rfl
@[go_sem] theorem Tryz.sz75 : sizeT Tryz.prog 75 = some 1 := by kernel_rfl
@[go_sem] theorem Tryz.ag75 : aggT Tryz.prog 75 = some false := by kernel_rfl
@[go_sem] theorem Tryz.sz76 : sizeT Tryz.prog 76 = some 1 := by kernel_rfl
@[go_sem] theorem Tryz.ag76 : aggT Tryz.prog 76 = some false := by kernel_rfl
@[go_sem] theorem Tryz.ze76 : zeroT Tryz.prog 76 = some [.nilm] := by kernel_rfl
@[go_sem] theorem Tryz.sz77 : sizeT Tryz.prog 77 = some 6 := by kernel_rfl
@[go_sem] theorem Tryz.ag77 : aggT Tryz.prog 77 = some true := by kernel_rfl
@[go_sem] theorem Tryz.ze77 : zeroT Tryz.prog 77 = some [.sl true true 0 [], .sl true true 0 [], .int .i64 0, .int .i64 0, .int .i64 0, .nilm] := by kernel_rfl
@[go_sem] theorem Tryz.fd77_0 : fieldO Tryz.prog 77 0 = some (32, 0) := by kernel_rfl
@[go_sem] theorem Tryz.fd77_1 : fieldO Tryz.prog 77 1 = some (76, 5) := by kernel_rfl
@[go_sem] theorem Tryz.sz78 : sizeT Tryz.prog 78 = some 6 := by kernel_rfl
@[go_sem] theorem Tryz.ag78 : aggT Tryz.prog 78 = some true := by kernel_rfl
@[go_sem] theorem Tryz.ze78 : zeroT Tryz.prog 78 = some [.sl true true 0 [], .sl true true 0 [], .int .i64 0, .int .i64 0, .int .i64 0, .nilm] := by kernel_rfl
@[go_sem] theorem Tryz.fd78_0 : fieldO Tryz.prog 78 0 = some (32, 0) := by kernel_rfl
@[go_sem] theorem Tryz.fd78_1 : fieldO Tryz.prog 78 1 = some (76, 5) := by kernel_rfl
@[go_sem] theorem Tryz.sz79 : sizeT Tryz.prog 79 = some 1 := by kernel_rfl
@[go_sem] theorem Tryz.ag79 : aggT Tryz.prog 79 = some false := by kernel_rfl
@[go_sem] theorem Tryz.sz80 : sizeT Tryz.prog 80 = some 1 := by kernel_rfl
@[go_sem] theorem Tryz.ag80 : aggT Tryz.prog 80 = some false := by kernel_rfl
@[go_sem] theorem Tryz.sz81 : sizeT Tryz.prog 81 = some 1 := by kernel_rfl
@[go_sem] theorem Tryz.ag81 : aggT Tryz.prog 81 = some false := by kernel_rfl
@[go_sem] theorem Tryz.sz82 : sizeT Tryz.prog 82 = some 1 := by kernel_rfl
@[go_sem] theorem Tryz.ag82 : aggT Tryz.prog 82 = some false := by kernel_rfl
@[go_sem] theorem Tryz.sz83 : sizeT Tryz.prog 83 = some 1 := by kernel_rfl
@[go_sem] theorem Tryz.ag83 : aggT Tryz.prog 83 = some false := by kernel_rfl
@[go_sem] theorem Tryz.sz84 : sizeT Tryz.prog 84 = some 1 := by kernel_rfl
@[go_sem] theorem Tryz.ag84 : aggT Tryz.prog 84 = some false := by kernel_rfl
@[go_sem] theorem Tryz.sz85 : sizeT Tryz.prog 85 = some 1 := by kernel_rfl
@[go_sem] theorem Tryz.ag85 : aggT Tryz.prog 85 = some false := by kernel_rfl
@[go_sem] theorem Tryz.sz86 : sizeT Tryz.prog 86 = some 2 := by kernel_rfl
@[go_sem] theorem Tryz.ag86 : aggT Tryz.prog 86 = some true := by kernel_rfl
@[go_sem] theorem Tryz.ze86 : zeroT Tryz.prog 86 = some [.int .i64 0, .int .i64 0] := by kernel_rfl
@[go_sem] theorem Tryz.fd86_0 : fieldO Tryz.prog 86 0 = some (3, 0) := by kernel_rfl
@[go_sem] theorem Tryz.fd86_1 : fieldO Tryz.prog 86 1 = some (3, 1) := by kernel_rfl
@[go_sem] theorem Tryz.sz87 : sizeT Tryz.prog 87 = some 2 := by kernel_rfl
@[go_sem] theorem Tryz.ag87 : aggT Tryz.prog 87 = some true := by kernel_rfl
@[go_sem] theorem Tryz.ze87 : zeroT Tryz.prog 87 = some [.int .i64 0, .int .i64 0] := by kernel_rfl
@[go_sem] theorem Tryz.fd87_0 : fieldO Tryz.prog 87 0 = some (3, 0) := by kernel_rfl
@[go_sem] theorem Tryz.fd87_1 : fieldO Tryz.prog 87 1 = some (3, 1) := by kernel_rfl
@[go_sem] theorem Tryz.sz88 : sizeT Tryz.prog 88 = some 1 := by kernel_rfl
@[go_sem] theorem Tryz.ag88 : aggT Tryz.prog 88 = some false := by kernel_rfl
@[go_sem] theorem Tryz.sz89 : sizeT Tryz.prog 89 = some 1 := by kernel_rfl
@[go_sem] theorem Tryz.ag89 : aggT Tryz.prog 89 = some false := by kernel_rfl
@[go_sem] theorem Tryz.sz90 : sizeT Tryz.prog 90 = some 1 := by kernel_rfl
@[go_sem] theorem Tryz.ag90 : aggT Tryz.prog 90 = some false := by kernel_rfl
@[go_sem] theorem Tryz.sz91 : sizeT Tryz.prog 91 = some 1 := by kernel_rfl
@[go_sem] theorem Tryz.ag91 : aggT Tryz.prog 91 = some false := by kernel_rfl
@[go_sem] theorem Tryz.sz92 : sizeT Tryz.prog 92 = some 1 := by kernel_rfl
@[go_sem] theorem Tryz.ag92 : aggT Tryz.prog 92 = some false := by kernel_rfl
@[go_sem] theorem Tryz.sz93 : sizeT Tryz.prog 93 = some 1 := by kernel_rfl
@[go_sem] theorem Tryz.ag93 : aggT Tryz.prog 93 = some false := by kernel_rfl
@[go_sem] theorem Tryz.sz94 : sizeT Tryz.prog 94 = some 1 := by kernel_rfl
@[go_sem] theorem Tryz.ag94 : aggT Tryz.prog 94 = some false := by kernel_rfl
@[go_sem] theorem Tryz.sz95 : sizeT Tryz.prog 95 = some 1 := by kernel_rfl
@[go_sem] theorem Tryz.ag95 : aggT Tryz.prog 95 = some false := by kernel_rfl
@[go_sem] theorem Tryz.sz96 : sizeT Tryz.prog 96 = some 1 := by kernel_rfl
@[go_sem] theorem Tryz.ag96 : aggT Tryz.prog 96 = some false := by kernel_rfl
@[go_sem] theorem Tryz.sz97 : sizeT Tryz.prog 97 = some 1 := by kernel_rfl
@[go_sem] theorem Tryz.ag97 : aggT Tryz.prog 97 = some false := by kernel_rfl
@[go_sem] theorem Tryz.sz98 : sizeT Tryz.prog 98 = some 1 := by kernel_rfl
@[go_sem] theorem Tryz.ag98 : aggT Tryz.prog 98 = some false := by kernel_rfl
@[go_sem] theorem Tryz.sz99 : sizeT Tryz.prog 99 = some 1 := by kernel_rfl
@[go_sem] theorem Tryz.ag99 : aggT Tryz.prog 99 = some false := by kernel_rfl
@[go_sem] theorem Tryz.sz100 : sizeT Tryz.prog 100 = some 1 := by kernel_rfl
@[go_sem] theorem Tryz.ag100 : aggT Tryz.prog 100 = some false := by kernel_rfl
@[go_sem] theorem Tryz.sz101 : sizeT Tryz.prog 101 = some 1 := by kernel_rfl
@[go_sem] theorem Tryz.ag101 : aggT Tryz.prog 101 = some false := by kernel_rfl
@[go_sem] theorem Tryz.sz102 : sizeT Tryz.prog 102 = some 1 := by kernel_rfl
@[go_sem] theorem Tryz.ag102 : aggT Tryz.prog 102 = some false := by kernel_rfl
@[go_sem] theorem Tryz.sz103 : sizeT Tryz.prog 103 = some 1 := by kernel_rfl
@[go_sem] theorem Tryz.ag103 : aggT Tryz.prog 103 = some false := by kernel_rfl
@[go_sem] theorem Tryz.sz104 : sizeT Tryz.prog 104 = some 1 := by kernel_rfl
@[go_sem] theorem Tryz.ag104 : aggT Tryz.prog 104 = some false := by kernel_rfl
@[go_sem] theorem Tryz.sz105 : sizeT Tryz.prog 105 = some 1 := by kernel_rfl
@[go_sem] theorem Tryz.ag105 : aggT Tryz.prog 105 = some false := by kernel_rfl
@[go_sem] theorem Tryz.sz106 : sizeT Tryz.prog 106 = some 2 := by kernel_rfl
@[go_sem] theorem Tryz.ag106 : aggT Tryz.prog 106 = some true := by kernel_rfl
@[go_sem] theorem Tryz.ze106 : zeroT Tryz.prog 106 = some [.int .i64 0, .int .i64 0] := by kernel_rfl
@[go_sem] theorem Tryz.sz107 : sizeT Tryz.prog 107 = some 1 := by kernel_rfl
@[go_sem] theorem Tryz.ag107 : aggT Tryz.prog 107 = some false := by kernel_rfl
@[go_sem] theorem Tryz.sz108 : sizeT Tryz.prog 108 = some 1 := by kernel_rfl
@[go_sem] theorem Tryz.ag108 : aggT Tryz.prog 108 = some false := by kernel_rfl
@[go_sem] theorem Tryz.sz109 : sizeT Tryz.prog 109 = some 1 := by kernel_rfl
@[go_sem] theorem Tryz.ag109 : aggT Tryz.prog 109 = some false := by kernel_rfl
@[go_sem] theorem Tryz.sz110 : sizeT Tryz.prog 110 = some 1 := by kernel_rfl
@[go_sem] theorem Tryz.ag110 : aggT Tryz.prog 110 = some false := by kernel_rfl
@[go_sem] theorem Tryz.sz111 : sizeT Tryz.prog 111 = some 9 := by kernel_rfl
@[go_sem] theorem Tryz.ag111 : aggT Tryz.prog 111 = some true := by kernel_rfl
@[go_sem] theorem Tryz.ze111 : zeroT Tryz.prog 111 = some [.sl true true 0 [], .sl true true 0 [], .int .i64 0, .int .i64 0, .int .i64 0, .nilm, .sl true true 0 [], .int .i64 0, .int .i64 0] := by kernel_rfl
@[go_sem] theorem Tryz.fd111_0 : fieldO Tryz.prog 111 0 = some (78, 0) := by kernel_rfl
@[go_sem] theorem Tryz.fd111_1 : fieldO Tryz.prog 111 1 = some (29, 6) := by kernel_rfl
@[go_sem] theorem Tryz.fd111_2 : fieldO Tryz.prog 111 2 = some (87, 7) := by kernel_rfl
@[go_sem] theorem Tryz.sz112 : sizeT Tryz.prog 112 = some 9 := by kernel_rfl
@[go_sem] theorem Tryz.ag112 : aggT Tryz.prog 112 = some true := by kernel_rfl
@[go_sem] theorem Tryz.ze112 : zeroT Tryz.prog 112 = some [.sl true true 0 [], .sl true true 0 [], .int .i64 0, .int .i64 0, .int .i64 0, .nilm, .sl true true 0 [], .int .i64 0, .int .i64 0] := by kernel_rfl
@[go_sem] theorem Tryz.fd112_0 : fieldO Tryz.prog 112 0 = some (78, 0) := by kernel_rfl
@[go_sem] theorem Tryz.fd112_1 : fieldO Tryz.prog 112 1 = some (29, 6) := by kernel_rfl
@[go_sem] theorem Tryz.fd112_2 : fieldO Tryz.prog 112 2 = some (87, 7) := by kernel_rfl
@[go_sem] theorem Tryz.sz113 : sizeT Tryz.prog 113 = some 1 := by kernel_rfl
@[go_sem] theorem Tryz.ag113 : aggT Tryz.prog 113 = some false := by kernel_rfl
@[go_sem] theorem Tryz.sz114 : sizeT Tryz.prog 114 = some 1 := by kernel_rfl
@[go_sem] theorem Tryz.ag114 : aggT Tryz.prog 114 = some false := by kernel_rfl
@[go_sem] theorem Tryz.sz115 : sizeT Tryz.prog 115 = some 1 := by kernel_rfl
@[go_sem] theorem Tryz.ag115 : aggT Tryz.prog 115 = some false := by kernel_rfl
@[go_sem] theorem Tryz.sz116 : sizeT Tryz.prog 116 = some 1 := by kernel_rfl
@[go_sem] theorem Tryz.ag116 : aggT Tryz.prog 116 = some false := by kernel_rfl
@[go_sem] theorem Tryz.sz117 : sizeT Tryz.prog 117 = some 1 := by kernel_rfl
@[go_sem] theorem Tryz.ag117 : aggT Tryz.prog 117 = some false := by kernel_rfl
@[go_sem] theorem Tryz.sz118 : sizeT Tryz.prog 118 = some 1 := by kernel_rfl
@[go_sem] theorem Tryz.ag118 : aggT Tryz.prog 118 = some false := by kernel_rfl
@[go_sem] theorem Tryz.sz119 : sizeT Tryz.prog 119 = some 1 := by kernel_rfl
@[go_sem] theorem Tryz.ag119 : aggT Tryz.prog 119 = some false := by kernel_rfl
@[go_sem] theorem Tryz.sz120 : sizeT Tryz.prog 120 = some 1 := by kernel_rfl
@[go_sem] theorem Tryz.ag120 : aggT Tryz.prog 120 = some false := by kernel_rfl
@[go_sem] theorem Tryz.sz121 : sizeT Tryz.prog 121 = some 1 := by kernel_rfl
@[go_sem] theorem Tryz.ag121 : aggT Tryz.prog 121 = some false := by kernel_rfl
@[go_sem] theorem Tryz.sz122 : sizeT Tryz.prog 122 = some 1 := by kernel_rfl
@[go_sem] theorem Tryz.ag122 : aggT Tryz.prog 122 = some false := by kernel_rfl
@[go_sem] theorem Tryz.sz123 : sizeT Tryz.prog 123 = some 1 := by kernel_rfl
@[go_sem] theorem Tryz.ag123 : aggT Tryz.prog 123 = some false := by kernel_rfl
@[go_sem] theorem Tryz.sz124 : sizeT Tryz.prog 124 = some 1 := by kernel_rfl
@[go_sem] theorem Tryz.ag124 : aggT Tryz.prog 124 = some false := by kernel_rfl
@[go_sem] theorem Tryz.sz125 : sizeT Tryz.prog 125 = some 1 := by kernel_rfl
@[go_sem] theorem Tryz.ag125 : aggT Tryz.prog 125 = some false := by kernel_rfl
@[go_sem] theorem Tryz.sz126 : sizeT Tryz.prog 126 = some 1 := by kernel_rfl
@[go_sem] theorem Tryz.ag126 : aggT Tryz.prog 126 = some false := by kernel_rfl
@[go_sem] theorem Tryz.sz127 : sizeT Tryz.prog 127 = some 1 := by kernel_rfl
@[go_sem] theorem Tryz.ag127 : aggT Tryz.prog 127 = some false := by kernel_rfl
@[go_sem] theorem Tryz.sz128 : sizeT Tryz.prog 128 = some 1 := by kernel_rfl
@[go_sem] theorem Tryz.ag128 : aggT Tryz.prog 128 = some false := by kernel_rfl
@[go_sem] theorem Tryz.sz129 : sizeT Tryz.prog 129 = some 1 := by kernel_rfl
@[go_sem] theorem Tryz.ag129 : aggT Tryz.prog 129 = some false := by kernel_rfl
@[go_sem] theorem Tryz.sz130 : sizeT Tryz.prog 130 = some 1 := by kernel_rfl
@[go_sem] theorem Tryz.ag130 : aggT Tryz.prog 130 = some false := by kernel_rfl
@[go_sem] theorem Tryz.sz131 : sizeT Tryz.prog 131 = some 1 := by kernel_rfl
@[go_sem] theorem Tryz.ag131 : aggT Tryz.prog 131 = some false := by kernel_rfl
@[go_sem] theorem Tryz.sz132 : sizeT Tryz.prog 132 = some 1 := by kernel_rfl
@[go_sem] theorem Tryz.ag132 : aggT Tryz.prog 132 = some false := by kernel_rfl
@[go_sem] theorem Tryz.sz133 : sizeT Tryz.prog 133 = some 1 := by kernel_rfl
@[go_sem] theorem Tryz.ag133 : aggT Tryz.prog 133 = some false := by kernel_rfl
@[go_sem] theorem Tryz.sz134 : sizeT Tryz.prog 134 = some 1 := by kernel_rfl
@[go_sem] theorem Tryz.ag134 : aggT Tryz.prog 134 = some false := by kernel_rfl
@[go_sem] theorem Tryz.sz135 : sizeT Tryz.prog 135 = some 1 := by kernel_rfl
@[go_sem] theorem Tryz.ag135 : aggT Tryz.prog 135 = some false := by kernel_rfl
@[go_sem] theorem Tryz.sz136 : sizeT Tryz.prog 136 = some 1 := by kernel_rfl
@[go_sem] theorem Tryz.ag136 : aggT Tryz.prog 136 = some false := by kernel_rfl
@[go_sem] theorem Tryz.sz137 : sizeT Tryz.prog 137 = some 1 := by kernel_rfl
@[go_sem] theorem Tryz.ag137 : aggT Tryz.prog 137 = some false := by kernel_rfl
@[go_sem] theorem Tryz.sz138 : sizeT Tryz.prog 138 = some 1 := by kernel_rfl
@[go_sem] theorem Tryz.ag138 : aggT Tryz.prog 138 = some false := by kernel_rfl
@[go_sem] theorem Tryz.sz139 : sizeT Tryz.prog 139 = some 1 := by kernel_rfl
@[go_sem] theorem Tryz.ag139 : aggT Tryz.prog 139 = some false := by kernel_rfl
@[go_sem] theorem Tryz.sz140 : sizeT Tryz.prog 140 = some 1 := by kernel_rfl
@[go_sem] theorem Tryz.ag140 : aggT Tryz.prog 140 = some false := by kernel_rfl
@[go_sem] theorem Tryz.sz141 : sizeT Tryz.prog 141 = some 1 := by kernel_rfl
@[go_sem] theorem Tryz.ag141 : aggT Tryz.prog 141 = some false := by kernel_rfl
@[go_sem] theorem Tryz.sz142 : sizeT Tryz.prog 142 = some 1 := by kernel_rfl
@[go_sem] theorem Tryz.ag142 : aggT Tryz.prog 142 = some false := by kernel_rfl
@[go_sem] theorem Tryz.sz143 : sizeT Tryz.prog 143 = some 1 := by kernel_rfl
@[go_sem] theorem Tryz.ag143 : aggT Tryz.prog 143 = some false := by kernel_rfl
@[go_sem] theorem Tryz.sz144 : sizeT Tryz.prog 144 = some 1 := by kernel_rfl
@[go_sem] theorem Tryz.ag144 : aggT Tryz.prog 144 = some false := by kernel_rfl
@[go_sem] theorem Tryz.sz145 : sizeT Tryz.prog 145 = some 1 := by kernel_rfl
@[go_sem] theorem Tryz.ag145 : aggT Tryz.prog 145 = some false := by kernel_rfl
@[go_sem] theorem Tryz.sz146 : sizeT Tryz.prog 146 = some 1 := by kernel_rfl
@[go_sem] theorem Tryz.ag146 : aggT Tryz.prog 146 = some false := by kernel_rfl
@[go_sem] theorem Tryz.sz147 : sizeT Tryz.prog 147 = some 1 := by kernel_rfl
@[go_sem] theorem Tryz.ag147 : aggT Tryz.prog 147 = some false := by kernel_rfl
@[go_sem] theorem Tryz.sz148 : sizeT Tryz.prog 148 = some 4 := by kernel_rfl
@[go_sem] theorem Tryz.ag148 : aggT Tryz.prog 148 = some true := by kernel_rfl
@[go_sem] theorem Tryz.fd148_0 : fieldO Tryz.prog 148 0 = some (17, 0) := by kernel_rfl
@[go_sem] theorem Tryz.fd148_1 : fieldO Tryz.prog 148 1 = some (17, 1) := by kernel_rfl
@[go_sem] theorem Tryz.fd148_2 : fieldO Tryz.prog 148 2 = some (17, 2) := by kernel_rfl
@[go_sem] theorem Tryz.fd148_3 : fieldO Tryz.prog 148 3 = some (9, 3) := by kernel_rfl
@[go_sem] theorem Tryz.sz149 : sizeT Tryz.prog 149 = some 4 := by kernel_rfl
@[go_sem] theorem Tryz.ag149 : aggT Tryz.prog 149 = some true := by kernel_rfl
@[go_sem] theorem Tryz.fd149_0 : fieldO Tryz.prog 149 0 = some (17, 0) := by kernel_rfl
@[go_sem] theorem Tryz.fd149_1 : fieldO Tryz.prog 149 1 = some (17, 1) := by kernel_rfl
@[go_sem] theorem Tryz.fd149_2 : fieldO Tryz.prog 149 2 = some (17, 2) := by kernel_rfl
@[go_sem] theorem Tryz.fd149_3 : fieldO Tryz.prog 149 3 = some (9, 3) := by kernel_rfl
@[go_sem] theorem Tryz.sz150 : sizeT Tryz.prog 150 = some 0 := by kernel_rfl
@[go_sem] theorem Tryz.ag150 : aggT Tryz.prog 150 = some true := by kernel_rfl
@[go_sem] theorem Tryz.ze150 : zeroT Tryz.prog 150 = some [] := by kernel_rfl
@[go_sem] theorem Tryz.sz151 : sizeT Tryz.prog 151 = some 0 := by kernel_rfl
@[go_sem] theorem Tryz.ag151 : aggT Tryz.prog 151 = some true := by kernel_rfl
@[go_sem] theorem Tryz.ze151 : zeroT Tryz.prog 151 = some [] := by kernel_rfl
@[go_sem] theorem Tryz.fd151_0 : fieldO Tryz.prog 151 0 = some (150, 0) := by kernel_rfl
@[go_sem] theorem Tryz.sz152 : sizeT Tryz.prog 152 = some 0 := by kernel_rfl
@[go_sem] theorem Tryz.ag152 : aggT Tryz.prog 152 = some true := by kernel_rfl
@[go_sem] theorem Tryz.ze152 : zeroT Tryz.prog 152 = some [] := by kernel_rfl
@[go_sem] theorem Tryz.fd152_0 : fieldO Tryz.prog 152 0 = some (150, 0) := by kernel_rfl
@[go_sem] theorem Tryz.sz153 : sizeT Tryz.prog 153 = some 1 := by kernel_rfl
@[go_sem] theorem Tryz.ag153 : aggT Tryz.prog 153 = some false := by kernel_rfl
@[go_sem] theorem Tryz.sz154 : sizeT Tryz.prog 154 = some 1 := by kernel_rfl
@[go_sem] theorem Tryz.ag154 : aggT Tryz.prog 154 = some false := by kernel_rfl
@[go_sem] theorem Tryz.ze154 : zeroT Tryz.prog 154 = some [.int .u32 0] := by kernel_rfl
@[go_sem] theorem Tryz.sz155 : sizeT Tryz.prog 155 = some 1 := by kernel_rfl
@[go_sem] theorem Tryz.ag155 : aggT Tryz.prog 155 = some false := by kernel_rfl
@[go_sem] theorem Tryz.ze155 : zeroT Tryz.prog 155 = some [.int .u8 0] := by kernel_rfl
@[go_sem] theorem Tryz.sz156 : sizeT Tryz.prog 156 = some 1 := by kernel_rfl
@[go_sem] theorem Tryz.ag156 : aggT Tryz.prog 156 = some false := by kernel_rfl
@[go_sem] theorem Tryz.ze156 : zeroT Tryz.prog 156 = some [.int .u8 0] := by kernel_rfl
@[go_sem] theorem Tryz.sz157 : sizeT Tryz.prog 157 = some 1 := by kernel_rfl
@[go_sem] theorem Tryz.ag157 : aggT Tryz.prog 157 = some false := by kernel_rfl
@[go_sem] theorem Tryz.sz158 : sizeT Tryz.prog 158 = some 1 := by kernel_rfl
@[go_sem] theorem Tryz.ag158 : aggT Tryz.prog 158 = some false := by kernel_rfl
@[go_sem] theorem Tryz.ze158 : zeroT Tryz.prog 158 = some [.nilp] := by kernel_rfl
@[go_sem] theorem Tryz.sz159 : sizeT Tryz.prog 159 = some 1 := by kernel_rfl
@[go_sem] theorem Tryz.ag159 : aggT Tryz.prog 159 = some false := by kernel_rfl
@[go_sem] theorem Tryz.ze159 : zeroT Tryz.prog 159 = some [.int .i32 0] := by kernel_rfl
@[go_sem] theorem Tryz.sz160 : sizeT Tryz.prog 160 = some 1 := by kernel_rfl
@[go_sem] theorem Tryz.ag160 : aggT Tryz.prog 160 = some false := by kernel_rfl
@[go_sem] theorem Tryz.ze160 : zeroT Tryz.prog 160 = some [.int .i32 0] := by kernel_rfl
@[go_sem] theorem Tryz.sz161 : sizeT Tryz.prog 161 = some 11 := by kernel_rfl
@[go_sem] theorem Tryz.ag161 : aggT Tryz.prog 161 = some true := by kernel_rfl
@[go_sem] theorem Tryz.ze161 : zeroT Tryz.prog 161 = some [.int .u64 0, .int .u64 0, .int .u32 0, .int .u8 0, .int .u8 0, .int .u8 0, .int .u8 0, .nilf, .nilp, .int .i32 0, .int .i32 0] := by kernel_rfl
@[go_sem] theorem Tryz.fd161_0 : fieldO Tryz.prog 161 0 = some (12, 0) := by kernel_rfl
@[go_sem] theorem Tryz.fd161_1 : fieldO Tryz.prog 161 1 = some (12, 1) := by kernel_rfl
@[go_sem] theorem Tryz.fd161_2 : fieldO Tryz.prog 161 2 = some (154, 2) := by kernel_rfl
@[go_sem] theorem Tryz.fd161_3 : fieldO Tryz.prog 161 3 = some (155, 3) := by kernel_rfl
@[go_sem] theorem Tryz.fd161_4 : fieldO Tryz.prog 161 4 = some (5, 4) := by kernel_rfl
@[go_sem] theorem Tryz.fd161_5 : fieldO Tryz.prog 161 5 = some (5, 5) := by kernel_rfl
@[go_sem] theorem Tryz.fd161_6 : fieldO Tryz.prog 161 6 = some (156, 6) := by kernel_rfl
@[go_sem] theorem Tryz.fd161_7 : fieldO Tryz.prog 161 7 = some (157, 7) := by kernel_rfl
@[go_sem] theorem Tryz.fd161_8 : fieldO Tryz.prog 161 8 = some (158, 8) := by kernel_rfl
@[go_sem] theorem Tryz.fd161_9 : fieldO Tryz.prog 161 9 = some (159, 9) := by kernel_rfl
@[go_sem] theorem Tryz.fd161_10 : fieldO Tryz.prog 161 10 = some (160, 10) := by kernel_rfl
@[go_sem] theorem Tryz.sz162 : sizeT Tryz.prog 162 = some 11 := by kernel_rfl
@[go_sem] theorem Tryz.ag162 : aggT Tryz.prog 162 = some true := by kernel_rfl
@[go_sem] theorem Tryz.ze162 : zeroT Tryz.prog 162 = some [.int .u64 0, .int .u64 0, .int .u32 0, .int .u8 0, .int .u8 0, .int .u8 0, .int .u8 0, .nilf, .nilp, .int .i32 0, .int .i32 0] := by kernel_rfl
@[go_sem] theorem Tryz.fd162_0 : fieldO Tryz.prog 162 0 = some (12, 0) := by kernel_rfl
@[go_sem] theorem Tryz.fd162_1 : fieldO Tryz.prog 162 1 = some (12, 1) := by kernel_rfl
@[go_sem] theorem Tryz.fd162_2 : fieldO Tryz.prog 162 2 = some (154, 2) := by kernel_rfl
@[go_sem] theorem Tryz.fd162_3 : fieldO Tryz.prog 162 3 = some (155, 3) := by kernel_rfl
@[go_sem] theorem Tryz.fd162_4 : fieldO Tryz.prog 162 4 = some (5, 4) := by kernel_rfl
@[go_sem] theorem Tryz.fd162_5 : fieldO Tryz.prog 162 5 = some (5, 5) := by kernel_rfl
@[go_sem] theorem Tryz.fd162_6 : fieldO Tryz.prog 162 6 = some (156, 6) := by kernel_rfl
@[go_sem] theorem Tryz.fd162_7 : fieldO Tryz.prog 162 7 = some (157, 7) := by kernel_rfl
@[go_sem] theorem Tryz.fd162_8 : fieldO Tryz.prog 162 8 = some (158, 8) := by kernel_rfl
@[go_sem] theorem Tryz.fd162_9 : fieldO Tryz.prog 162 9 = some (159, 9) := by kernel_rfl
@[go_sem] theorem Tryz.fd162_10 : fieldO Tryz.prog 162 10 = some (160, 10) := by kernel_rfl
@[go_sem] theorem Tryz.sz163 : sizeT Tryz.prog 163 = some 1 := by kernel_rfl
@[go_sem] theorem Tryz.ag163 : aggT Tryz.prog 163 = some false := by kernel_rfl
@[go_sem] theorem Tryz.ze163 : zeroT Tryz.prog 163 = some [.nilp] := by kernel_rfl
theorem Tryz.el23 {n : Nat} (h : n * 2 ≤ 140737488355328) : Elem Tryz.prog 23 59 2 n := Elem.of Tryz.underlying23 (z := .agg #[.int .u8 0, .int .u8 0]) (bytes := 2) (by kernel_rfl) rfl h (by omega)
theorem Tryz.el27 {n : Nat} (h : n * 1 ≤ 140737488355328) : Elem Tryz.prog 27 5 1 n := Elem.of Tryz.underlying27 (z := .int .u8 0) (bytes := 1) (by kernel_rfl) rfl h (by omega)
theorem Tryz.el29 {n : Nat} (h : n * 8 ≤ 140737488355328) : Elem Tryz.prog 29 3 1 n := Elem.of Tryz.underlying29 (z := .int .i64 0) (bytes := 8) (by kernel_rfl) rfl h (by omega)
theorem Tryz.el30 {n : Nat} (h : n * 24 ≤ 140737488355328) : Elem Tryz.prog 30 74 3 n := Elem.of Tryz.underlying30 (z := .agg #[.int .i64 0, .int .i64 0, .int .i64 0]) (bytes := 24) (by kernel_rfl) rfl h (by omega)
theorem Tryz.el58 {n : Nat} (h : n * 24 ≤ 140737488355328) : Elem Tryz.prog 58 27 1 n := Elem.of Tryz.underlying58 (z := .slice none 0 0) (bytes := 24) (by kernel_rfl) rfl h (by omega)
theorem Tryz.el60 {n : Nat} (h : n * 24 ≤ 140737488355328) : Elem Tryz.prog 60 29 1 n := Elem.of Tryz.underlying60 (z := .slice none 0 0) (bytes := 24) (by kernel_rfl) rfl h (by omega)
attribute [go_sem] Tryz.underlying0 Tryz.underlying1 Tryz.underlying2 Tryz.underlying3 Tryz.underlying4 Tryz.underlying5 Tryz.underlying6 Tryz.underlying7 Tryz.underlying8 Tryz.underlying9 Tryz.underlying10 Tryz.underlying11 Tryz.underlying12 Tryz.underlying13 Tryz.underlying14 Tryz.underlying15 Tryz.underlying16 Tryz.underlying17 Tryz.underlying18 Tryz.underlying19 Tryz.underlying20 Tryz.underlying21 Tryz.underlying22 Tryz.underlying23 Tryz.underlying24 Tryz.underlying25 Tryz.underlying26 Tryz.underlying27 Tryz.underlying28 Tryz.underlying29 Tryz.underlying30 Tryz.underlying31 Tryz.underlying32 Tryz.underlying33 Tryz.underlying34 Tryz.underlying35 Tryz.underlying36 Tryz.underlying37 Tryz.underlying38 Tryz.underlying39 Tryz.underlying40 Tryz.underlying41 Tryz.underlying42 Tryz.underlying43 Tryz.underlying44 Tryz.underlying45 Tryz.underlying46 Tryz.underlying47 Tryz.underlying48 Tryz.underlying49 Tryz.underlying50 Tryz.underlying51 Tryz.underlying52 Tryz.underlying53 Tryz.underlying54 Tryz.underlying55 Tryz.underlying56 Tryz.underlying57 Tryz.underlying58 Tryz.underlying59 Tryz.underlying60 Tryz.underlying61 Tryz.underlying62 Tryz.underlying63 Tryz.underlying64 Tryz.underlying65 Tryz.underlying66 Tryz.underlying67 Tryz.underlying68 Tryz.underlying69 Tryz.underlying70 Tryz.underlying71 Tryz.underlying72 Tryz.underlying73 Tryz.underlying74 Tryz.underlying75 Tryz.underlying76 Tryz.underlying77 Tryz.underlying78 Tryz.underlying79 Tryz.underlying80 Tryz.underlying81 Tryz.underlying82 Tryz.underlying83 Tryz.underlying84 Tryz.underlying85 Tryz.underlying86 Tryz.underlying87 Tryz.underlying88 Tryz.underlying89 Tryz.underlying90 Tryz.underlying91 Tryz.underlying92 Tryz.underlying93 Tryz.underlying94 Tryz.underlying95 Tryz.underlying96 Tryz.underlying97 Tryz.underlying98 Tryz.underlying99 Tryz.underlying100 Tryz.underlying101 Tryz.underlying102 Tryz.underlying103 Tryz.underlying104 Tryz.underlying105 Tryz.underlying106 Tryz.underlying107 Tryz.underlying108 Tryz.underlying109 Tryz.underlying110 Tryz.underlying111 Tryz.underlying112 Tryz.underlying113 Tryz.underlying114 Tryz.underlying115 Tryz.underlying116 Tryz.underlying117 Tryz.underlying118 Tryz.underlying119 Tryz.underlying120 Tryz.underlying121 Tryz.underlying122 Tryz.underlying123 Tryz.underlying124 Tryz.underlying125 Tryz.underlying126 Tryz.underlying127 Tryz.underlying128 Tryz.underlying129 Tryz.underlying130 Tryz.underlying131 Tryz.underlying132 Tryz.underlying133 Tryz.underlying134 Tryz.underlying135 Tryz.underlying136 Tryz.underlying137 Tryz.underlying138 Tryz.underlying139 Tryz.underlying140 Tryz.underlying141 Tryz.underlying142 Tryz.underlying143 Tryz.underlying144 Tryz.underlying145 Tryz.underlying146 Tryz.underlying147 Tryz.underlying148 Tryz.underlying149 Tryz.underlying150 Tryz.underlying151 Tryz.underlying152 Tryz.underlying153 Tryz.underlying154 Tryz.underlying155 Tryz.underlying156 Tryz.underlying157 Tryz.underlying158 Tryz.underlying159 Tryz.underlying160 Tryz.underlying161 Tryz.underlying162 Tryz.underlying163
attribute [go_sem] if_true if_false beq_self_eq_true Nat.zero_add Nat.add_zero and_self and_true true_and Bool.and_true Bool.true_and Bool.and_self Bool.and_false Bool.false_and Bool.not_true Bool.not_false decide_true decide_false Nat.le_refl Nat.sub_self Nat.sub_zero Nat.mul_one Nat.zero_le Nat.zero_mul List.drop_zero
theorem Tryz.mixed : Tryz.prog.follows .mixedOrders = true := by kernel_rfl
end Go.Proofs.YtaekibilldjnmaaGreat
namespace Go.Proofs.YtaekibilldjnmaaGreat
open Go.Proofs

abbrev vint (n : Int) : AV := .int .i64 n
abbrev vints (nl clip : Bool) (xs : List Int) : AV := .sl nl clip xs.length (xs.map vint)
theorem all_one_ints (xs : List Int) : (xs.map vint).all AV.one = true := by simp [AV.one]
theorem ints_get (xs : List Int) {k : Nat} (hk : k < xs.length) : (xs.map vint)[k]? = some (vint xs[k]) := by simp [hk]

/-- The first number below n with a property, or -1. -/
def firstN (q : Nat → Bool) : Nat → Nat → Int
  | _, 0 => -1
  | k, m + 1 => if q k then (k : Int) else firstN q (k + 1) m
theorem firstN_hit (q : Nat → Bool) : ∀ (m s k : Nat), s ≤ k → k < s + m → (∀ j, s ≤ j → j < k → q j = false) → q k = true → firstN q s m = k
  | 0, s, k, h1, h2, _, _ => by omega
  | m + 1, s, k, h1, h2, h3, h4 => by
    unfold firstN
    by_cases e : s = k
    · subst e; rw [if_pos h4]
    · rw [if_neg (by rw [h3 s (Nat.le_refl _) (by omega)]; simp)]
      exact firstN_hit q m (s + 1) k (by omega) (by omega) (fun j hj => h3 j (by omega)) h4
theorem firstN_none (q : Nat → Bool) : ∀ (m s : Nat), (∀ j, s ≤ j → j < s + m → q j = false) → firstN q s m = -1
  | 0, s, _ => rfl
  | m + 1, s, h => by
    unfold firstN
    rw [if_neg (by rw [h s (Nat.le_refl _) (by omega)]; simp)]
    exact firstN_none q m (s + 1) (fun j h1 h2 => h j (by omega) (by omega))
theorem firstN_ge (q : Nat → Bool) (n : Nat) : decide (firstN q 0 n ≥ 0) = !decide (∀ i, i < n → q i = false) := by
  by_cases h : ∀ i, i < n → q i = false
  · rw [firstN_none q n 0 (fun j _ hj => h j (by omega)), decide_eq_true h]; rfl
  · rw [decide_eq_false h]
    have : ∃ k, k < n ∧ q k = true ∧ ∀ j, j < k → q j = false := by
      simp only [Classical.not_forall] at h
      obtain ⟨i, hi, hq⟩ := h
      have hex : ∃ i, i < n ∧ q i = true := ⟨i, hi, by simpa using hq⟩
      clear hi hq
      obtain ⟨i, hi⟩ := hex
      induction i using Nat.strongRecOn with
      | _ i ih =>
        by_cases e : ∃ j, j < i ∧ q j = true
        · obtain ⟨j, hj, hq⟩ := e; exact ih j hj ⟨by omega, hq⟩
        · exact ⟨i, hi.1, hi.2, fun j hj => by cases hqj : q j with
            | false => rfl
            | true => exact absurd ⟨j, hj, hqj⟩ e⟩
    obtain ⟨k, hk, hq, hj⟩ := this
    rw [firstN_hit q n 0 k (Nat.zero_le _) (by omega) (fun j _ h => hj j h) hq]
    simp

/-- 'slices.IndexFunc', 'slices.ContainsFunc', 'every': of a condition that turns nothing. -/
theorem idx_int (H : Hp) (nl clip : Bool) (n : Nat) (cells : List AV) (els : Nat → AV) (g : FuncId) (fs cs : List AV) (q : Nat → Bool) (hn : n < 1000000) (hl : cells.length = n) (hr : ∀ k, k < n → cells[k]? = some (els k)) (eg : EntersF Tryz.prog g)
    (hq : ∀ k, k < n → CallV Tryz.prog g (fs ++ [els k] ++ cs) H (fun r H' => r = .bool (q k) ∧ H' = H)) : CallV Tryz.prog 109 [.sl nl clip n cells, .fn (.func g) fs cs] H (fun r H' => r = vint (firstN q 0 n) ∧ H' = H) := by
  refine CallV.body Tryz.func109 rfl Tryz.ntmps109 (by rfl) ?_
  refine WpV.seq (WpV.regionE (by simp only [go_sem, reduceCtorEq, Nat.reduceAdd, Nat.reduceMul, Nat.reduceSub, Nat.reduceLT, Nat.reduceLeDiff, Nat.reduceEqDiff, Nat.reduceBEq, Nat.reducePow]; rfl) (Marks.nil _) ?_)
  simp only [Vthen, VinBlock, if_true, if_false, Nat.reduceEqDiff, reduceCtorEq]
  refine WpV.seq (WpV.seq (WpV.regionE (by simp only [go_sem, reduceCtorEq, Nat.reduceAdd, Nat.reduceMul, Nat.reduceSub, Nat.reduceLT, Nat.reduceLeDiff, Nat.reduceEqDiff, Nat.reduceBEq, Nat.reducePow]; rfl) (Marks.nil _) ?_))
  simp only [Vthen, VinBlock, if_true, if_false, Nat.reduceEqDiff, reduceCtorEq]
  refine WpV.block (WpV.loopP n (fun k => ∀ j, j < k → q j = false) (fun k => [(0, .sl nl clip n cells), (1, .fn (.func g) fs cs), (7, vint n), (8, vint k)]) (fun _ => H) (fun j hj => absurd hj (Nat.not_lt_zero _)) ?_ rfl ?_)
  · exact .cons rfl rfl (.cons rfl rfl (.cons rfl rfl (.cons rfl rfl (.nil _))))
  · intro k hk hp
    refine WpV.seq (WpV.regionE (by simp only [go_sem, reduceCtorEq, Nat.reduceAdd, Nat.reduceMul, Nat.reduceSub, Nat.reduceLT, Nat.reduceLeDiff, Nat.reduceEqDiff, Nat.reduceBEq, Nat.reducePow]; rfl) (Marks.nil _) ?_)
    simp only [Vthen, VinBlock, if_true, if_false, Nat.reduceEqDiff, reduceCtorEq]
    refine WpV.seq (WpV.cond rfl (fun hb => WpV.skip ?_) (fun hb => WpV.exit ?_))
    · have hlt : (k : Int) < (n : Int) := of_decide_eq_true hb
      have hlt' : k < n := by omega
      simp only [Vthen, VinBlock, if_true, if_false, Nat.reduceEqDiff, reduceCtorEq]
      refine WpV.seq (WpV.block (WpV.seq (WpV.regionE (by simp only [go_sem, reduceCtorEq, Nat.reduceAdd, Nat.reduceMul, Nat.reduceSub, Nat.reduceLT, Nat.reduceLeDiff, Nat.reduceEqDiff, Nat.reduceBEq, Nat.reducePow]; rfl) (Marks.nil _) ?_)))
      simp only [Vthen, VinBlock, if_true, if_false, Nat.reduceEqDiff, reduceCtorEq]
      refine WpV.seq (WpV.region ?_)
      refine WpOps.take 5 (by simp only [go_sem, reduceCtorEq, Nat.reduceAdd, Nat.reduceMul, Nat.reduceSub, Nat.reduceLT, Nat.reduceLeDiff, Nat.reduceEqDiff, Nat.reduceBEq, Nat.reducePow, hlt, hr k hlt']; rfl) ?_
      refine WpOps.step (by rfl) (by rfl) (OpW.callY rfl (by rfl) (by rfl) (by rfl) eg ((hq k hlt').mono ?_))
      rintro _ _ ⟨rfl, rfl⟩
      refine WpOps.nil ⟨Marks.nil _, ?_⟩
      simp only [Vthen, VinBlock, if_true, if_false, Nat.reduceEqDiff, reduceCtorEq]
      refine WpV.cond rfl (fun hqk => ?_) (fun hqk => WpV.skip ?_)
      · refine WpV.seq (WpV.regionE (by simp only [go_sem, reduceCtorEq, Nat.reduceAdd, Nat.reduceMul, Nat.reduceSub, Nat.reduceLT, Nat.reduceLeDiff, Nat.reduceEqDiff, Nat.reduceBEq, Nat.reducePow]; rfl) (Marks.nil _) ?_)
        simp only [Vthen, VinBlock, if_true, if_false, Nat.reduceEqDiff, reduceCtorEq]
        refine WpV.ret ⟨Marks.nil _, List.nodup_nil, _, by simp only [Tryz.results109]; simp only [go_sem, reduceCtorEq, Nat.reduceAdd, Nat.reduceMul, Nat.reduceSub, Nat.reduceLT, Nat.reduceLeDiff, Nat.reduceEqDiff, Nat.reduceBEq, Nat.reducePow]; rfl, ?_⟩
        exact ⟨by rw [firstN_hit q n 0 k (Nat.zero_le _) (by omega) (fun j _ hj => hp j hj) hqk], rfl⟩
      · simp only [Vthen, VinBlock, if_true, if_false, Nat.reduceEqDiff, reduceCtorEq]
        refine WpV.regionE (by simp only [go_sem, reduceCtorEq, Nat.reduceAdd, Nat.reduceMul, Nat.reduceSub, Nat.reduceLT, Nat.reduceLeDiff, Nat.reduceEqDiff, Nat.reduceBEq, Nat.reducePow]; rfl) (Marks.nil _) ?_
        simp only [Vthen, VinBlock, if_true, if_false, Nat.reduceEqDiff, reduceCtorEq]
        refine ⟨by first | rfl | trivial, hlt', fun j hj => ?_, .cons rfl rfl (.cons rfl rfl (.cons rfl rfl (.cons rfl ?_ (.nil _)))), by first | rfl | trivial⟩
        · by_cases e : j = k
          · subst e; exact hqk
          · exact hp j (by omega)
        · rw [wrap64 (by omega)]; rfl
    · have hge : k = n := by have := of_decide_eq_false hb; omega
      subst hge
      simp only [Vthen, VinBlock, if_true, if_false, Nat.reduceEqDiff, reduceCtorEq]
      refine WpV.seq (WpV.regionE (by simp only [go_sem, reduceCtorEq, Nat.reduceAdd, Nat.reduceMul, Nat.reduceSub, Nat.reduceLT, Nat.reduceLeDiff, Nat.reduceEqDiff, Nat.reduceBEq, Nat.reducePow]; rfl) (Marks.nil _) ?_)
      simp only [Vthen, VinBlock, if_true, if_false, Nat.reduceEqDiff, reduceCtorEq]
      refine WpV.ret ⟨Marks.nil _, List.nodup_nil, _, by simp only [Tryz.results109]; simp only [go_sem, reduceCtorEq, Nat.reduceAdd, Nat.reduceMul, Nat.reduceSub, Nat.reduceLT, Nat.reduceLeDiff, Nat.reduceEqDiff, Nat.reduceBEq, Nat.reducePow]; rfl, ?_⟩
      exact ⟨by rw [firstN_none q k 0 (fun j _ hj => hp j (by omega))], rfl⟩

theorem cont_int (H : Hp) (nl clip : Bool) (n : Nat) (cells : List AV) (els : Nat → AV) (g : FuncId) (fs cs : List AV) (q : Nat → Bool) (hn : n < 1000000) (hl : cells.length = n) (hr : ∀ k, k < n → cells[k]? = some (els k)) (eg : EntersF Tryz.prog g)
    (hq : ∀ k, k < n → CallV Tryz.prog g (fs ++ [els k] ++ cs) H (fun r H' => r = .bool (q k) ∧ H' = H)) : CallV Tryz.prog 93 [.sl nl clip n cells, .fn (.func g) fs cs] H (fun r H' => r = .bool (!decide (∀ i, i < n → q i = false)) ∧ H' = H) := by
  refine CallV.body Tryz.func93 rfl Tryz.ntmps93 (by rfl) ?_
  refine WpV.seq (WpV.regionE (by simp only [go_sem, reduceCtorEq, Nat.reduceAdd, Nat.reduceMul, Nat.reduceSub, Nat.reduceLT, Nat.reduceLeDiff, Nat.reduceEqDiff, Nat.reduceBEq, Nat.reducePow]; rfl) (Marks.nil _) ?_)
  simp only [Vthen, VinBlock, if_true, if_false, Nat.reduceEqDiff, reduceCtorEq]
  refine WpV.seq (WpV.region ?_)
  refine WpOps.take 2 (by simp only [go_sem, reduceCtorEq, Nat.reduceAdd, Nat.reduceMul, Nat.reduceSub, Nat.reduceLT, Nat.reduceLeDiff, Nat.reduceEqDiff, Nat.reduceBEq, Nat.reducePow]; rfl) ?_
  refine WpOps.step (by rfl) (by rfl) (OpW.callY rfl (by rfl) (by rfl) (by rfl) (enters_of Tryz.func109 (by kernel_rfl) rfl) ((idx_int H nl clip n cells els g fs cs q hn hl hr eg hq).mono ?_))
  rintro _ _ ⟨rfl, hH⟩
  replace hH := hH.symm
  subst hH
  refine WpOps.take 2 (by simp only [go_sem, reduceCtorEq, Nat.reduceAdd, Nat.reduceMul, Nat.reduceSub, Nat.reduceLT, Nat.reduceLeDiff, Nat.reduceEqDiff, Nat.reduceBEq, Nat.reducePow]; rfl) (WpOps.nil ⟨Marks.nil _, ?_⟩)
  simp only [Vthen, VinBlock, if_true, if_false, Nat.reduceEqDiff, reduceCtorEq]
  refine WpV.ret ⟨Marks.nil _, List.nodup_nil, _, by simp only [Tryz.results93]; simp only [go_sem, reduceCtorEq, Nat.reduceAdd, Nat.reduceMul, Nat.reduceSub, Nat.reduceLT, Nat.reduceLeDiff, Nat.reduceEqDiff, Nat.reduceBEq, Nat.reducePow]; rfl, ?_⟩
  exact ⟨by rw [← firstN_ge], rfl⟩

theorem every1_int (H : Hp) (x : AV) (g : FuncId) (fs cs : List AV) (q : Bool) (eg : EntersF Tryz.prog g) (hq : CallV Tryz.prog g (fs ++ [x] ++ cs) H (fun r H' => r = .bool q ∧ H' = H)) :
    CallV Tryz.prog 94 [x, .cp [.fn (.func g) fs cs] 0] H (fun r H' => r = .bool (!q) ∧ H' = H) := by
  refine CallV.body Tryz.func94 rfl Tryz.ntmps94 (by rfl) ?_
  refine WpV.seq (WpV.regionE (by simp only [go_sem, reduceCtorEq, Nat.reduceAdd, Nat.reduceMul, Nat.reduceSub, Nat.reduceLT, Nat.reduceLeDiff, Nat.reduceEqDiff, Nat.reduceBEq, Nat.reducePow]; rfl) (Marks.nil _) ?_)
  simp only [Vthen, VinBlock, if_true, if_false, Nat.reduceEqDiff, reduceCtorEq]
  refine WpV.seq (WpV.region ?_)
  refine WpOps.take 2 (by simp only [go_sem, reduceCtorEq, Nat.reduceAdd, Nat.reduceMul, Nat.reduceSub, Nat.reduceLT, Nat.reduceLeDiff, Nat.reduceEqDiff, Nat.reduceBEq, Nat.reducePow]; rfl) ?_
  refine WpOps.step (by rfl) (by rfl) (OpW.callY rfl (by rfl) (by rfl) (by rfl) eg (hq.mono ?_))
  rintro _ _ ⟨rfl, rfl⟩
  refine WpOps.take 2 (by simp only [go_sem, reduceCtorEq, Nat.reduceAdd, Nat.reduceMul, Nat.reduceSub, Nat.reduceLT, Nat.reduceLeDiff, Nat.reduceEqDiff, Nat.reduceBEq, Nat.reducePow]; rfl) (WpOps.nil ⟨Marks.nil _, ?_⟩)
  simp only [Vthen, VinBlock, if_true, if_false, Nat.reduceEqDiff, reduceCtorEq]
  refine WpV.ret ⟨Marks.nil _, List.nodup_nil, _, by simp only [Tryz.results94]; simp only [go_sem, reduceCtorEq, Nat.reduceAdd, Nat.reduceMul, Nat.reduceSub, Nat.reduceLT, Nat.reduceLeDiff, Nat.reduceEqDiff, Nat.reduceBEq, Nat.reducePow]; rfl, ?_⟩
  exact ⟨by first | rfl | trivial, rfl⟩

theorem every_int (H : Hp) (nl clip : Bool) (n : Nat) (cells : List AV) (els : Nat → AV) (g : FuncId) (fs cs : List AV) (q : Nat → Bool) (hn : n < 1000000) (hl : cells.length = n) (hr : ∀ k, k < n → cells[k]? = some (els k)) (eg : EntersF Tryz.prog g)
    (hq : ∀ k, k < n → CallV Tryz.prog g (fs ++ [els k] ++ cs) H (fun r H' => r = .bool (q k) ∧ H' = H)) : CallV Tryz.prog 72 [.sl nl clip n cells, .fn (.func g) fs cs] H (fun r H' => r = .bool (decide (∀ i, i < n → q i = true)) ∧ H' = H) := by
  refine CallV.body Tryz.func72 rfl Tryz.ntmps72 (by rfl) ?_
  refine WpV.seq (WpV.regionE (by simp only [go_sem, reduceCtorEq, Nat.reduceAdd, Nat.reduceMul, Nat.reduceSub, Nat.reduceLT, Nat.reduceLeDiff, Nat.reduceEqDiff, Nat.reduceBEq, Nat.reducePow]; rfl) (Marks.nil _) ?_)
  simp only [Vthen, VinBlock, if_true, if_false, Nat.reduceEqDiff, reduceCtorEq]
  refine WpV.seq (WpV.region ?_)
  refine WpOps.take 2 (by simp only [go_sem, reduceCtorEq, Nat.reduceAdd, Nat.reduceMul, Nat.reduceSub, Nat.reduceLT, Nat.reduceLeDiff, Nat.reduceEqDiff, Nat.reduceBEq, Nat.reducePow]; rfl) ?_
  refine WpOps.step (by rfl) (by rfl) (OpW.callY rfl (by rfl) (by rfl) (by rfl) (enters_of Tryz.func93 (by kernel_rfl) rfl) ((cont_int H nl clip n cells els 94 [] [.cp [.fn (.func g) fs cs] 0] (fun k => !q k) hn hl hr (enters_of Tryz.func94 (by kernel_rfl) rfl) (fun k hk => every1_int H _ g fs cs (q k) eg (hq k hk))).mono ?_))
  rintro _ _ ⟨rfl, hH⟩
  replace hH := hH.symm
  subst hH
  refine WpOps.take 2 (by simp only [go_sem, reduceCtorEq, Nat.reduceAdd, Nat.reduceMul, Nat.reduceSub, Nat.reduceLT, Nat.reduceLeDiff, Nat.reduceEqDiff, Nat.reduceBEq, Nat.reducePow]; rfl) (WpOps.nil ⟨Marks.nil _, ?_⟩)
  simp only [Vthen, VinBlock, if_true, if_false, Nat.reduceEqDiff, reduceCtorEq]
  refine WpV.ret ⟨Marks.nil _, List.nodup_nil, _, by simp only [Tryz.results72]; simp only [go_sem, reduceCtorEq, Nat.reduceAdd, Nat.reduceMul, Nat.reduceSub, Nat.reduceLT, Nat.reduceLeDiff, Nat.reduceEqDiff, Nat.reduceBEq, Nat.reducePow]; rfl, ?_⟩
  exact ⟨by congr 1; simp, rfl⟩

/-- 'slices.IndexFunc', 'slices.ContainsFunc', 'every': of a condition that turns nothing. -/
theorem idx_row (H : Hp) (nl clip : Bool) (n : Nat) (cells : List AV) (els : Nat → AV) (g : FuncId) (fs cs : List AV) (q : Nat → Bool) (hn : n < 1000000) (hl : cells.length = n) (hr : ∀ k, k < n → cells[k]? = some (els k)) (eg : EntersF Tryz.prog g)
    (hq : ∀ k, k < n → CallV Tryz.prog g (fs ++ [els k] ++ cs) H (fun r H' => r = .bool (q k) ∧ H' = H)) : CallV Tryz.prog 117 [.sl nl clip n cells, .fn (.func g) fs cs] H (fun r H' => r = vint (firstN q 0 n) ∧ H' = H) := by
  refine CallV.body Tryz.func117 rfl Tryz.ntmps117 (by rfl) ?_
  refine WpV.seq (WpV.regionE (by simp only [go_sem, reduceCtorEq, Nat.reduceAdd, Nat.reduceMul, Nat.reduceSub, Nat.reduceLT, Nat.reduceLeDiff, Nat.reduceEqDiff, Nat.reduceBEq, Nat.reducePow]; rfl) (Marks.nil _) ?_)
  simp only [Vthen, VinBlock, if_true, if_false, Nat.reduceEqDiff, reduceCtorEq]
  refine WpV.seq (WpV.seq (WpV.regionE (by simp only [go_sem, reduceCtorEq, Nat.reduceAdd, Nat.reduceMul, Nat.reduceSub, Nat.reduceLT, Nat.reduceLeDiff, Nat.reduceEqDiff, Nat.reduceBEq, Nat.reducePow]; rfl) (Marks.nil _) ?_))
  simp only [Vthen, VinBlock, if_true, if_false, Nat.reduceEqDiff, reduceCtorEq]
  refine WpV.block (WpV.loopP n (fun k => ∀ j, j < k → q j = false) (fun k => [(0, .sl nl clip n cells), (1, .fn (.func g) fs cs), (7, vint n), (8, vint k)]) (fun _ => H) (fun j hj => absurd hj (Nat.not_lt_zero _)) ?_ rfl ?_)
  · exact .cons rfl rfl (.cons rfl rfl (.cons rfl rfl (.cons rfl rfl (.nil _))))
  · intro k hk hp
    refine WpV.seq (WpV.regionE (by simp only [go_sem, reduceCtorEq, Nat.reduceAdd, Nat.reduceMul, Nat.reduceSub, Nat.reduceLT, Nat.reduceLeDiff, Nat.reduceEqDiff, Nat.reduceBEq, Nat.reducePow]; rfl) (Marks.nil _) ?_)
    simp only [Vthen, VinBlock, if_true, if_false, Nat.reduceEqDiff, reduceCtorEq]
    refine WpV.seq (WpV.cond rfl (fun hb => WpV.skip ?_) (fun hb => WpV.exit ?_))
    · have hlt : (k : Int) < (n : Int) := of_decide_eq_true hb
      have hlt' : k < n := by omega
      simp only [Vthen, VinBlock, if_true, if_false, Nat.reduceEqDiff, reduceCtorEq]
      refine WpV.seq (WpV.block (WpV.seq (WpV.regionE (by simp only [go_sem, reduceCtorEq, Nat.reduceAdd, Nat.reduceMul, Nat.reduceSub, Nat.reduceLT, Nat.reduceLeDiff, Nat.reduceEqDiff, Nat.reduceBEq, Nat.reducePow]; rfl) (Marks.nil _) ?_)))
      simp only [Vthen, VinBlock, if_true, if_false, Nat.reduceEqDiff, reduceCtorEq]
      refine WpV.seq (WpV.region ?_)
      refine WpOps.take 5 (by simp only [go_sem, reduceCtorEq, Nat.reduceAdd, Nat.reduceMul, Nat.reduceSub, Nat.reduceLT, Nat.reduceLeDiff, Nat.reduceEqDiff, Nat.reduceBEq, Nat.reducePow, hlt, hr k hlt']; rfl) ?_
      refine WpOps.step (by rfl) (by rfl) (OpW.callY rfl (by rfl) (by rfl) (by rfl) eg ((hq k hlt').mono ?_))
      rintro _ _ ⟨rfl, rfl⟩
      refine WpOps.nil ⟨Marks.nil _, ?_⟩
      simp only [Vthen, VinBlock, if_true, if_false, Nat.reduceEqDiff, reduceCtorEq]
      refine WpV.cond rfl (fun hqk => ?_) (fun hqk => WpV.skip ?_)
      · refine WpV.seq (WpV.regionE (by simp only [go_sem, reduceCtorEq, Nat.reduceAdd, Nat.reduceMul, Nat.reduceSub, Nat.reduceLT, Nat.reduceLeDiff, Nat.reduceEqDiff, Nat.reduceBEq, Nat.reducePow]; rfl) (Marks.nil _) ?_)
        simp only [Vthen, VinBlock, if_true, if_false, Nat.reduceEqDiff, reduceCtorEq]
        refine WpV.ret ⟨Marks.nil _, List.nodup_nil, _, by simp only [Tryz.results117]; simp only [go_sem, reduceCtorEq, Nat.reduceAdd, Nat.reduceMul, Nat.reduceSub, Nat.reduceLT, Nat.reduceLeDiff, Nat.reduceEqDiff, Nat.reduceBEq, Nat.reducePow]; rfl, ?_⟩
        exact ⟨by rw [firstN_hit q n 0 k (Nat.zero_le _) (by omega) (fun j _ hj => hp j hj) hqk], rfl⟩
      · simp only [Vthen, VinBlock, if_true, if_false, Nat.reduceEqDiff, reduceCtorEq]
        refine WpV.regionE (by simp only [go_sem, reduceCtorEq, Nat.reduceAdd, Nat.reduceMul, Nat.reduceSub, Nat.reduceLT, Nat.reduceLeDiff, Nat.reduceEqDiff, Nat.reduceBEq, Nat.reducePow]; rfl) (Marks.nil _) ?_
        simp only [Vthen, VinBlock, if_true, if_false, Nat.reduceEqDiff, reduceCtorEq]
        refine ⟨by first | rfl | trivial, hlt', fun j hj => ?_, .cons rfl rfl (.cons rfl rfl (.cons rfl rfl (.cons rfl ?_ (.nil _)))), by first | rfl | trivial⟩
        · by_cases e : j = k
          · subst e; exact hqk
          · exact hp j (by omega)
        · rw [wrap64 (by omega)]; rfl
    · have hge : k = n := by have := of_decide_eq_false hb; omega
      subst hge
      simp only [Vthen, VinBlock, if_true, if_false, Nat.reduceEqDiff, reduceCtorEq]
      refine WpV.seq (WpV.regionE (by simp only [go_sem, reduceCtorEq, Nat.reduceAdd, Nat.reduceMul, Nat.reduceSub, Nat.reduceLT, Nat.reduceLeDiff, Nat.reduceEqDiff, Nat.reduceBEq, Nat.reducePow]; rfl) (Marks.nil _) ?_)
      simp only [Vthen, VinBlock, if_true, if_false, Nat.reduceEqDiff, reduceCtorEq]
      refine WpV.ret ⟨Marks.nil _, List.nodup_nil, _, by simp only [Tryz.results117]; simp only [go_sem, reduceCtorEq, Nat.reduceAdd, Nat.reduceMul, Nat.reduceSub, Nat.reduceLT, Nat.reduceLeDiff, Nat.reduceEqDiff, Nat.reduceBEq, Nat.reducePow]; rfl, ?_⟩
      exact ⟨by rw [firstN_none q k 0 (fun j _ hj => hp j (by omega))], rfl⟩

theorem cont_row (H : Hp) (nl clip : Bool) (n : Nat) (cells : List AV) (els : Nat → AV) (g : FuncId) (fs cs : List AV) (q : Nat → Bool) (hn : n < 1000000) (hl : cells.length = n) (hr : ∀ k, k < n → cells[k]? = some (els k)) (eg : EntersF Tryz.prog g)
    (hq : ∀ k, k < n → CallV Tryz.prog g (fs ++ [els k] ++ cs) H (fun r H' => r = .bool (q k) ∧ H' = H)) : CallV Tryz.prog 110 [.sl nl clip n cells, .fn (.func g) fs cs] H (fun r H' => r = .bool (!decide (∀ i, i < n → q i = false)) ∧ H' = H) := by
  refine CallV.body Tryz.func110 rfl Tryz.ntmps110 (by rfl) ?_
  refine WpV.seq (WpV.regionE (by simp only [go_sem, reduceCtorEq, Nat.reduceAdd, Nat.reduceMul, Nat.reduceSub, Nat.reduceLT, Nat.reduceLeDiff, Nat.reduceEqDiff, Nat.reduceBEq, Nat.reducePow]; rfl) (Marks.nil _) ?_)
  simp only [Vthen, VinBlock, if_true, if_false, Nat.reduceEqDiff, reduceCtorEq]
  refine WpV.seq (WpV.region ?_)
  refine WpOps.take 2 (by simp only [go_sem, reduceCtorEq, Nat.reduceAdd, Nat.reduceMul, Nat.reduceSub, Nat.reduceLT, Nat.reduceLeDiff, Nat.reduceEqDiff, Nat.reduceBEq, Nat.reducePow]; rfl) ?_
  refine WpOps.step (by rfl) (by rfl) (OpW.callY rfl (by rfl) (by rfl) (by rfl) (enters_of Tryz.func117 (by kernel_rfl) rfl) ((idx_row H nl clip n cells els g fs cs q hn hl hr eg hq).mono ?_))
  rintro _ _ ⟨rfl, hH⟩
  replace hH := hH.symm
  subst hH
  refine WpOps.take 2 (by simp only [go_sem, reduceCtorEq, Nat.reduceAdd, Nat.reduceMul, Nat.reduceSub, Nat.reduceLT, Nat.reduceLeDiff, Nat.reduceEqDiff, Nat.reduceBEq, Nat.reducePow]; rfl) (WpOps.nil ⟨Marks.nil _, ?_⟩)
  simp only [Vthen, VinBlock, if_true, if_false, Nat.reduceEqDiff, reduceCtorEq]
  refine WpV.ret ⟨Marks.nil _, List.nodup_nil, _, by simp only [Tryz.results110]; simp only [go_sem, reduceCtorEq, Nat.reduceAdd, Nat.reduceMul, Nat.reduceSub, Nat.reduceLT, Nat.reduceLeDiff, Nat.reduceEqDiff, Nat.reduceBEq, Nat.reducePow]; rfl, ?_⟩
  exact ⟨by rw [← firstN_ge], rfl⟩

theorem every1_row (H : Hp) (x : AV) (g : FuncId) (fs cs : List AV) (q : Bool) (eg : EntersF Tryz.prog g) (hq : CallV Tryz.prog g (fs ++ [x] ++ cs) H (fun r H' => r = .bool q ∧ H' = H)) :
    CallV Tryz.prog 111 [x, .cp [.fn (.func g) fs cs] 0] H (fun r H' => r = .bool (!q) ∧ H' = H) := by
  refine CallV.body Tryz.func111 rfl Tryz.ntmps111 (by rfl) ?_
  refine WpV.seq (WpV.regionE (by simp only [go_sem, reduceCtorEq, Nat.reduceAdd, Nat.reduceMul, Nat.reduceSub, Nat.reduceLT, Nat.reduceLeDiff, Nat.reduceEqDiff, Nat.reduceBEq, Nat.reducePow]; rfl) (Marks.nil _) ?_)
  simp only [Vthen, VinBlock, if_true, if_false, Nat.reduceEqDiff, reduceCtorEq]
  refine WpV.seq (WpV.region ?_)
  refine WpOps.take 2 (by simp only [go_sem, reduceCtorEq, Nat.reduceAdd, Nat.reduceMul, Nat.reduceSub, Nat.reduceLT, Nat.reduceLeDiff, Nat.reduceEqDiff, Nat.reduceBEq, Nat.reducePow]; rfl) ?_
  refine WpOps.step (by rfl) (by rfl) (OpW.callY rfl (by rfl) (by rfl) (by rfl) eg (hq.mono ?_))
  rintro _ _ ⟨rfl, rfl⟩
  refine WpOps.take 2 (by simp only [go_sem, reduceCtorEq, Nat.reduceAdd, Nat.reduceMul, Nat.reduceSub, Nat.reduceLT, Nat.reduceLeDiff, Nat.reduceEqDiff, Nat.reduceBEq, Nat.reducePow]; rfl) (WpOps.nil ⟨Marks.nil _, ?_⟩)
  simp only [Vthen, VinBlock, if_true, if_false, Nat.reduceEqDiff, reduceCtorEq]
  refine WpV.ret ⟨Marks.nil _, List.nodup_nil, _, by simp only [Tryz.results111]; simp only [go_sem, reduceCtorEq, Nat.reduceAdd, Nat.reduceMul, Nat.reduceSub, Nat.reduceLT, Nat.reduceLeDiff, Nat.reduceEqDiff, Nat.reduceBEq, Nat.reducePow]; rfl, ?_⟩
  exact ⟨by first | rfl | trivial, rfl⟩

theorem every_row (H : Hp) (nl clip : Bool) (n : Nat) (cells : List AV) (els : Nat → AV) (g : FuncId) (fs cs : List AV) (q : Nat → Bool) (hn : n < 1000000) (hl : cells.length = n) (hr : ∀ k, k < n → cells[k]? = some (els k)) (eg : EntersF Tryz.prog g)
    (hq : ∀ k, k < n → CallV Tryz.prog g (fs ++ [els k] ++ cs) H (fun r H' => r = .bool (q k) ∧ H' = H)) : CallV Tryz.prog 96 [.sl nl clip n cells, .fn (.func g) fs cs] H (fun r H' => r = .bool (decide (∀ i, i < n → q i = true)) ∧ H' = H) := by
  refine CallV.body Tryz.func96 rfl Tryz.ntmps96 (by rfl) ?_
  refine WpV.seq (WpV.regionE (by simp only [go_sem, reduceCtorEq, Nat.reduceAdd, Nat.reduceMul, Nat.reduceSub, Nat.reduceLT, Nat.reduceLeDiff, Nat.reduceEqDiff, Nat.reduceBEq, Nat.reducePow]; rfl) (Marks.nil _) ?_)
  simp only [Vthen, VinBlock, if_true, if_false, Nat.reduceEqDiff, reduceCtorEq]
  refine WpV.seq (WpV.region ?_)
  refine WpOps.take 2 (by simp only [go_sem, reduceCtorEq, Nat.reduceAdd, Nat.reduceMul, Nat.reduceSub, Nat.reduceLT, Nat.reduceLeDiff, Nat.reduceEqDiff, Nat.reduceBEq, Nat.reducePow]; rfl) ?_
  refine WpOps.step (by rfl) (by rfl) (OpW.callY rfl (by rfl) (by rfl) (by rfl) (enters_of Tryz.func110 (by kernel_rfl) rfl) ((cont_row H nl clip n cells els 111 [] [.cp [.fn (.func g) fs cs] 0] (fun k => !q k) hn hl hr (enters_of Tryz.func111 (by kernel_rfl) rfl) (fun k hk => every1_row H _ g fs cs (q k) eg (hq k hk))).mono ?_))
  rintro _ _ ⟨rfl, hH⟩
  replace hH := hH.symm
  subst hH
  refine WpOps.take 2 (by simp only [go_sem, reduceCtorEq, Nat.reduceAdd, Nat.reduceMul, Nat.reduceSub, Nat.reduceLT, Nat.reduceLeDiff, Nat.reduceEqDiff, Nat.reduceBEq, Nat.reducePow]; rfl) (WpOps.nil ⟨Marks.nil _, ?_⟩)
  simp only [Vthen, VinBlock, if_true, if_false, Nat.reduceEqDiff, reduceCtorEq]
  refine WpV.ret ⟨Marks.nil _, List.nodup_nil, _, by simp only [Tryz.results96]; simp only [go_sem, reduceCtorEq, Nat.reduceAdd, Nat.reduceMul, Nat.reduceSub, Nat.reduceLT, Nat.reduceLeDiff, Nat.reduceEqDiff, Nat.reduceBEq, Nat.reducePow]; rfl, ?_⟩
  exact ⟨by congr 1; simp, rfl⟩

/-- 'slices.IndexFunc', 'slices.ContainsFunc', 'every': of a condition that turns nothing. -/
theorem idx_pair (H : Hp) (nl clip : Bool) (n : Nat) (cells : List AV) (els : Nat → AV) (g : FuncId) (fs cs : List AV) (q : Nat → Bool) (hn : n < 1000000) (hl : cells.length = n * 3) (hr : ∀ k, k < n → .agg ((cells.drop (k * 3)).take 3) = els k) (eg : EntersF Tryz.prog g)
    (hq : ∀ k, k < n → CallV Tryz.prog g (fs ++ [els k] ++ cs) H (fun r H' => r = .bool (q k) ∧ H' = H)) : CallV Tryz.prog 118 [.sl nl clip n cells, .fn (.func g) fs cs] H (fun r H' => r = vint (firstN q 0 n) ∧ H' = H) := by
  refine CallV.body Tryz.func118 rfl Tryz.ntmps118 (by rfl) ?_
  refine WpV.seq (WpV.regionE (by simp only [go_sem, reduceCtorEq, Nat.reduceAdd, Nat.reduceMul, Nat.reduceSub, Nat.reduceLT, Nat.reduceLeDiff, Nat.reduceEqDiff, Nat.reduceBEq, Nat.reducePow]; rfl) (Marks.nil _) ?_)
  simp only [Vthen, VinBlock, if_true, if_false, Nat.reduceEqDiff, reduceCtorEq]
  refine WpV.seq (WpV.seq (WpV.regionE (by simp only [go_sem, reduceCtorEq, Nat.reduceAdd, Nat.reduceMul, Nat.reduceSub, Nat.reduceLT, Nat.reduceLeDiff, Nat.reduceEqDiff, Nat.reduceBEq, Nat.reducePow]; rfl) (Marks.nil _) ?_))
  simp only [Vthen, VinBlock, if_true, if_false, Nat.reduceEqDiff, reduceCtorEq]
  refine WpV.block (WpV.loopP n (fun k => ∀ j, j < k → q j = false) (fun k => [(0, .sl nl clip n cells), (1, .fn (.func g) fs cs), (7, vint n), (8, vint k)]) (fun _ => H) (fun j hj => absurd hj (Nat.not_lt_zero _)) ?_ rfl ?_)
  · exact .cons rfl rfl (.cons rfl rfl (.cons rfl rfl (.cons rfl rfl (.nil _))))
  · intro k hk hp
    refine WpV.seq (WpV.regionE (by simp only [go_sem, reduceCtorEq, Nat.reduceAdd, Nat.reduceMul, Nat.reduceSub, Nat.reduceLT, Nat.reduceLeDiff, Nat.reduceEqDiff, Nat.reduceBEq, Nat.reducePow]; rfl) (Marks.nil _) ?_)
    simp only [Vthen, VinBlock, if_true, if_false, Nat.reduceEqDiff, reduceCtorEq]
    refine WpV.seq (WpV.cond rfl (fun hb => WpV.skip ?_) (fun hb => WpV.exit ?_))
    · have hlt : (k : Int) < (n : Int) := of_decide_eq_true hb
      have hlt' : k < n := by omega
      have hle : k * 3 + 3 ≤ cells.length := by omega
      simp only [Vthen, VinBlock, if_true, if_false, Nat.reduceEqDiff, reduceCtorEq]
      refine WpV.seq (WpV.block (WpV.seq (WpV.regionE (by simp only [go_sem, reduceCtorEq, Nat.reduceAdd, Nat.reduceMul, Nat.reduceSub, Nat.reduceLT, Nat.reduceLeDiff, Nat.reduceEqDiff, Nat.reduceBEq, Nat.reducePow]; rfl) (Marks.nil _) ?_)))
      simp only [Vthen, VinBlock, if_true, if_false, Nat.reduceEqDiff, reduceCtorEq]
      refine WpV.seq (WpV.region ?_)
      refine WpOps.take 5 (by simp only [go_sem, reduceCtorEq, Nat.reduceAdd, Nat.reduceMul, Nat.reduceSub, Nat.reduceLT, Nat.reduceLeDiff, Nat.reduceEqDiff, Nat.reduceBEq, Nat.reducePow, hlt, hle]; rfl) ?_
      rw [hr k hlt']
      refine WpOps.step (by rfl) (by rfl) (OpW.callY rfl (by rfl) (by rfl) (by rfl) eg ((hq k hlt').mono ?_))
      rintro _ _ ⟨rfl, rfl⟩
      refine WpOps.nil ⟨Marks.nil _, ?_⟩
      simp only [Vthen, VinBlock, if_true, if_false, Nat.reduceEqDiff, reduceCtorEq]
      refine WpV.cond rfl (fun hqk => ?_) (fun hqk => WpV.skip ?_)
      · refine WpV.seq (WpV.regionE (by simp only [go_sem, reduceCtorEq, Nat.reduceAdd, Nat.reduceMul, Nat.reduceSub, Nat.reduceLT, Nat.reduceLeDiff, Nat.reduceEqDiff, Nat.reduceBEq, Nat.reducePow]; rfl) (Marks.nil _) ?_)
        simp only [Vthen, VinBlock, if_true, if_false, Nat.reduceEqDiff, reduceCtorEq]
        refine WpV.ret ⟨Marks.nil _, List.nodup_nil, _, by simp only [Tryz.results118]; simp only [go_sem, reduceCtorEq, Nat.reduceAdd, Nat.reduceMul, Nat.reduceSub, Nat.reduceLT, Nat.reduceLeDiff, Nat.reduceEqDiff, Nat.reduceBEq, Nat.reducePow]; rfl, ?_⟩
        exact ⟨by rw [firstN_hit q n 0 k (Nat.zero_le _) (by omega) (fun j _ hj => hp j hj) hqk], rfl⟩
      · simp only [Vthen, VinBlock, if_true, if_false, Nat.reduceEqDiff, reduceCtorEq]
        refine WpV.regionE (by simp only [go_sem, reduceCtorEq, Nat.reduceAdd, Nat.reduceMul, Nat.reduceSub, Nat.reduceLT, Nat.reduceLeDiff, Nat.reduceEqDiff, Nat.reduceBEq, Nat.reducePow]; rfl) (Marks.nil _) ?_
        simp only [Vthen, VinBlock, if_true, if_false, Nat.reduceEqDiff, reduceCtorEq]
        refine ⟨by first | rfl | trivial, hlt', fun j hj => ?_, .cons rfl rfl (.cons rfl rfl (.cons rfl rfl (.cons rfl ?_ (.nil _)))), by first | rfl | trivial⟩
        · by_cases e : j = k
          · subst e; exact hqk
          · exact hp j (by omega)
        · rw [wrap64 (by omega)]; rfl
    · have hge : k = n := by have := of_decide_eq_false hb; omega
      subst hge
      simp only [Vthen, VinBlock, if_true, if_false, Nat.reduceEqDiff, reduceCtorEq]
      refine WpV.seq (WpV.regionE (by simp only [go_sem, reduceCtorEq, Nat.reduceAdd, Nat.reduceMul, Nat.reduceSub, Nat.reduceLT, Nat.reduceLeDiff, Nat.reduceEqDiff, Nat.reduceBEq, Nat.reducePow]; rfl) (Marks.nil _) ?_)
      simp only [Vthen, VinBlock, if_true, if_false, Nat.reduceEqDiff, reduceCtorEq]
      refine WpV.ret ⟨Marks.nil _, List.nodup_nil, _, by simp only [Tryz.results118]; simp only [go_sem, reduceCtorEq, Nat.reduceAdd, Nat.reduceMul, Nat.reduceSub, Nat.reduceLT, Nat.reduceLeDiff, Nat.reduceEqDiff, Nat.reduceBEq, Nat.reducePow]; rfl, ?_⟩
      exact ⟨by rw [firstN_none q k 0 (fun j _ hj => hp j (by omega))], rfl⟩

theorem cont_pair (H : Hp) (nl clip : Bool) (n : Nat) (cells : List AV) (els : Nat → AV) (g : FuncId) (fs cs : List AV) (q : Nat → Bool) (hn : n < 1000000) (hl : cells.length = n * 3) (hr : ∀ k, k < n → .agg ((cells.drop (k * 3)).take 3) = els k) (eg : EntersF Tryz.prog g)
    (hq : ∀ k, k < n → CallV Tryz.prog g (fs ++ [els k] ++ cs) H (fun r H' => r = .bool (q k) ∧ H' = H)) : CallV Tryz.prog 113 [.sl nl clip n cells, .fn (.func g) fs cs] H (fun r H' => r = .bool (!decide (∀ i, i < n → q i = false)) ∧ H' = H) := by
  refine CallV.body Tryz.func113 rfl Tryz.ntmps113 (by rfl) ?_
  refine WpV.seq (WpV.regionE (by simp only [go_sem, reduceCtorEq, Nat.reduceAdd, Nat.reduceMul, Nat.reduceSub, Nat.reduceLT, Nat.reduceLeDiff, Nat.reduceEqDiff, Nat.reduceBEq, Nat.reducePow]; rfl) (Marks.nil _) ?_)
  simp only [Vthen, VinBlock, if_true, if_false, Nat.reduceEqDiff, reduceCtorEq]
  refine WpV.seq (WpV.region ?_)
  refine WpOps.take 2 (by simp only [go_sem, reduceCtorEq, Nat.reduceAdd, Nat.reduceMul, Nat.reduceSub, Nat.reduceLT, Nat.reduceLeDiff, Nat.reduceEqDiff, Nat.reduceBEq, Nat.reducePow]; rfl) ?_
  refine WpOps.step (by rfl) (by rfl) (OpW.callY rfl (by rfl) (by rfl) (by rfl) (enters_of Tryz.func118 (by kernel_rfl) rfl) ((idx_pair H nl clip n cells els g fs cs q hn hl hr eg hq).mono ?_))
  rintro _ _ ⟨rfl, hH⟩
  replace hH := hH.symm
  subst hH
  refine WpOps.take 2 (by simp only [go_sem, reduceCtorEq, Nat.reduceAdd, Nat.reduceMul, Nat.reduceSub, Nat.reduceLT, Nat.reduceLeDiff, Nat.reduceEqDiff, Nat.reduceBEq, Nat.reducePow]; rfl) (WpOps.nil ⟨Marks.nil _, ?_⟩)
  simp only [Vthen, VinBlock, if_true, if_false, Nat.reduceEqDiff, reduceCtorEq]
  refine WpV.ret ⟨Marks.nil _, List.nodup_nil, _, by simp only [Tryz.results113]; simp only [go_sem, reduceCtorEq, Nat.reduceAdd, Nat.reduceMul, Nat.reduceSub, Nat.reduceLT, Nat.reduceLeDiff, Nat.reduceEqDiff, Nat.reduceBEq, Nat.reducePow]; rfl, ?_⟩
  exact ⟨by rw [← firstN_ge], rfl⟩

theorem every1_pair (H : Hp) (x : AV) (a b c : Int) (hx : x = .agg [vint a, vint b, vint c]) (g : FuncId) (fs cs : List AV) (q : Bool) (eg : EntersF Tryz.prog g) (hq : CallV Tryz.prog g (fs ++ [x] ++ cs) H (fun r H' => r = .bool q ∧ H' = H)) :
    CallV Tryz.prog 114 [x, .cp [.fn (.func g) fs cs] 0] H (fun r H' => r = .bool (!q) ∧ H' = H) := by
  subst hx
  refine CallV.body Tryz.func114 rfl Tryz.ntmps114 (by rfl) ?_
  refine WpV.seq (WpV.regionE (by simp only [go_sem, reduceCtorEq, Nat.reduceAdd, Nat.reduceMul, Nat.reduceSub, Nat.reduceLT, Nat.reduceLeDiff, Nat.reduceEqDiff, Nat.reduceBEq, Nat.reducePow]; rfl) (Marks.nil _) ?_)
  simp only [Vthen, VinBlock, if_true, if_false, Nat.reduceEqDiff, reduceCtorEq]
  refine WpV.seq (WpV.region ?_)
  refine WpOps.take 2 (by simp only [go_sem, reduceCtorEq, Nat.reduceAdd, Nat.reduceMul, Nat.reduceSub, Nat.reduceLT, Nat.reduceLeDiff, Nat.reduceEqDiff, Nat.reduceBEq, Nat.reducePow]; rfl) ?_
  refine WpOps.step (by rfl) (by rfl) (OpW.callY rfl (by rfl) (by rfl) (by rfl) eg (hq.mono ?_))
  rintro _ _ ⟨rfl, rfl⟩
  refine WpOps.take 2 (by simp only [go_sem, reduceCtorEq, Nat.reduceAdd, Nat.reduceMul, Nat.reduceSub, Nat.reduceLT, Nat.reduceLeDiff, Nat.reduceEqDiff, Nat.reduceBEq, Nat.reducePow]; rfl) (WpOps.nil ⟨Marks.nil _, ?_⟩)
  simp only [Vthen, VinBlock, if_true, if_false, Nat.reduceEqDiff, reduceCtorEq]
  refine WpV.ret ⟨Marks.nil _, List.nodup_nil, _, by simp only [Tryz.results114]; simp only [go_sem, reduceCtorEq, Nat.reduceAdd, Nat.reduceMul, Nat.reduceSub, Nat.reduceLT, Nat.reduceLeDiff, Nat.reduceEqDiff, Nat.reduceBEq, Nat.reducePow]; rfl, ?_⟩
  exact ⟨by first | rfl | trivial, rfl⟩

theorem every_pair (H : Hp) (nl clip : Bool) (n : Nat) (cells : List AV) (els : Nat → AV) (g : FuncId) (fs cs : List AV) (q : Nat → Bool) (hn : n < 1000000) (hl : cells.length = n * 3) (hr : ∀ k, k < n → .agg ((cells.drop (k * 3)).take 3) = els k) (ha : ∀ k, k < n → ∃ a b c : Int, els k = .agg [vint a, vint b, vint c]) (eg : EntersF Tryz.prog g)
    (hq : ∀ k, k < n → CallV Tryz.prog g (fs ++ [els k] ++ cs) H (fun r H' => r = .bool (q k) ∧ H' = H)) : CallV Tryz.prog 102 [.sl nl clip n cells, .fn (.func g) fs cs] H (fun r H' => r = .bool (decide (∀ i, i < n → q i = true)) ∧ H' = H) := by
  refine CallV.body Tryz.func102 rfl Tryz.ntmps102 (by rfl) ?_
  refine WpV.seq (WpV.regionE (by simp only [go_sem, reduceCtorEq, Nat.reduceAdd, Nat.reduceMul, Nat.reduceSub, Nat.reduceLT, Nat.reduceLeDiff, Nat.reduceEqDiff, Nat.reduceBEq, Nat.reducePow]; rfl) (Marks.nil _) ?_)
  simp only [Vthen, VinBlock, if_true, if_false, Nat.reduceEqDiff, reduceCtorEq]
  refine WpV.seq (WpV.region ?_)
  refine WpOps.take 2 (by simp only [go_sem, reduceCtorEq, Nat.reduceAdd, Nat.reduceMul, Nat.reduceSub, Nat.reduceLT, Nat.reduceLeDiff, Nat.reduceEqDiff, Nat.reduceBEq, Nat.reducePow]; rfl) ?_
  refine WpOps.step (by rfl) (by rfl) (OpW.callY rfl (by rfl) (by rfl) (by rfl) (enters_of Tryz.func113 (by kernel_rfl) rfl) ((cont_pair H nl clip n cells els 114 [] [.cp [.fn (.func g) fs cs] 0] (fun k => !q k) hn hl hr (enters_of Tryz.func114 (by kernel_rfl) rfl) (fun k hk => by obtain ⟨a, b, c, e⟩ := ha k hk; exact every1_pair H _ a b c e g fs cs (q k) eg (hq k hk))).mono ?_))
  rintro _ _ ⟨rfl, hH⟩
  replace hH := hH.symm
  subst hH
  refine WpOps.take 2 (by simp only [go_sem, reduceCtorEq, Nat.reduceAdd, Nat.reduceMul, Nat.reduceSub, Nat.reduceLT, Nat.reduceLeDiff, Nat.reduceEqDiff, Nat.reduceBEq, Nat.reducePow]; rfl) (WpOps.nil ⟨Marks.nil _, ?_⟩)
  simp only [Vthen, VinBlock, if_true, if_false, Nat.reduceEqDiff, reduceCtorEq]
  refine WpV.ret ⟨Marks.nil _, List.nodup_nil, _, by simp only [Tryz.results102]; simp only [go_sem, reduceCtorEq, Nat.reduceAdd, Nat.reduceMul, Nat.reduceSub, Nat.reduceLT, Nat.reduceLeDiff, Nat.reduceEqDiff, Nat.reduceBEq, Nat.reducePow]; rfl, ?_⟩
  exact ⟨by congr 1; simp, rfl⟩

end Go.Proofs.YtaekibilldjnmaaGreat
