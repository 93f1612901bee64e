/- A range over a sequence: what holds between its rounds. A region in any order: its operations one by one. So many zeros more: a new object, of which only what was there is told. An object under a new name; what a function is lent that only reads. Arguments, as they are read out of memory. Closed facts on the types. A region in any order: as 'regionB', but an operation may also write a slot that others read before it, and what it yields may name a new object. -/
import Derived.Test.YtaekibilldjnmaaGreatMaAC
import Derived.Lib.AppendZerosOnto
import Derived.Deep.Slices
import Derived.OpenShut
import Derived.ProofKit
import Derived.ShutString
import Derived.ChangeOld
import Derived.Test.YtaekibilldjnmaaGreatRows
set_option linter.unusedVariables false
set_option linter.unusedSimpArgs false
set_option linter.unusedSectionVars false
namespace Go.Proofs.YtaekibilldjnmaaGreat
variable {P : Program} {H : Hp}

/-- A loop in whose rounds marks may be laid. -/
theorem WpV.loopD {r : Option Nat} {N : Nat} {c : Code} {Q : Exit → Fr → List Nat → Hp → Prop} {fr : Fr} {D : List Nat} {ι : Type} (I : ι → Fr) (J : ι → Hp) (M : ι → List Nat) (μ : ι → Nat) (i0 : ι)
    (h0 : ∀ t x, (I i0).get t = some x → fr.get t = some x) (hH : J i0 = H) (hM : M i0 = D)
    (round : ∀ i, WpV P r N c (Vthen (fun fr' D' H' => ∃ j, μ j < μ i ∧ (∀ t x, (I j).get t = some x → fr'.get t = some x) ∧ J j = H' ∧ M j = D') Q) (I i) (M i) (J i)) : WpV P r N (.loop c) Q fr D H := by
  intro r ρ W a hr hs hf hd
  refine wpIn_loop_g (fun i a' W' => ∃ ρ', Ext ρ W ρ' W' ∧ Sim N (I i) ρ' W' a' ∧ Defs ρ' (M i) a'.defers ∧ HD ρ' W' (J i)) μ i0
    ⟨ρ, hd.refl, ⟨hs.size, fun t x hx => hs.fr t x (h0 t x hx)⟩, by rw [hM]; exact hf, by rw [hH]; exact hd⟩ ?_
  rintro i a' W' ⟨ρ', q, hs', hf', hd'⟩
  refine wpIn_mono (round i r ρ' W' a' (hr.ext q) hs' hf' hd') fun e a'' W'' he => ?_
  obtain ⟨ρ'', fr'', D'', H'', q2, hs2, hf2, hd2, hq⟩ := he
  have q3 := q.trans hd.live q2
  cases e with
  | normal =>
    obtain ⟨j, hj, hw, rfl, rfl⟩ := hq
    exact ⟨j, hj, ρ'', q3, ⟨hs2.size, fun t x hx => hs2.fr t x (hw t x hx)⟩, hf2, hd2⟩
  | _ => exact ⟨ρ'', fr'', D'', H'', q3, hs2, hf2, hd2, hq⟩

/-- How a round over a sequence ends: on with the rest, or out. -/
def RoundS (id N : Nat) (fr : Fr) (ps : Array Tmp) (assign body : Code) (Inv : List (List AV) → Hp → Prop) (Rt : Code → Hp → Prop) (rest : List (List AV)) (L : List (Nat × Ob)) : Exit → Fr → List Nat → Hp → Prop
  | .normal, _, _, H => (∃ pend, H id = some (.loop N fr ps assign body .busy pend)) ∧ ∃ B, LayOn L B (H.set id none) ∧ Inv rest B
  | .ret, _, _, H => (∃ pend, H id = some (.loop N fr ps assign body .busy pend)) ∧ ∃ B, LayOn L B (H.set id none) ∧ Rt .ret B
  | .exit i, _, _, H => (∃ pend, H id = some (.loop N fr ps assign body .busy pend)) ∧ ∃ B, LayOn L B (H.set id none) ∧ Rt (.exit i) B
  | _, _, _, _ => False
/-- A round, from its assignments on. -/
def RoundI (P : Program) (id N : Nat) (fr : Fr) (ps : Array Tmp) (assign body : Code) (Inv : List (List AV) → Hp → Prop) (Rt : Code → Hp → Prop) : Prop :=
  ∀ L x rest B Hx, Hx id = some (.loop N fr ps assign body .ready none) → LayOn L B (Hx.set id none) → Inv (x :: rest) B → x.length = ps.size ∧
    WpV P (some id) N assign (Vthen (fun fr1 D1 H1 => ∃ pend1, H1 id = some (.loop N fr ps assign body .ready pend1) ∧ WpV P (some id) N body (RoundS id N fr ps assign body Inv Rt rest L) fr1 D1 (H1.set id (some (.loop N fr ps assign body .busy pend1)))) (fun _ _ _ _ => False)) (putPs ps.toList x fr) [] Hx

def JS (id N : Nat) (fr : Fr) (ps : Array Tmp) (assign body : Code) (Inv : List (List AV) → Hp → Prop) (l : List (List AV)) (Hx : Hp) : Prop := Hx id = some (.loop N fr ps assign body .ready none) ∧ Inv l (Hx.set id none)
def DS (id N : Nat) (fr : Fr) (ps : Array Tmp) (assign body : Code) (Rt : Code → Hp → Prop) (Hx : Hp) : Prop := ∃ c, Hx id = some (.loop N fr ps assign body .done (some c)) ∧ Rt c (Hx.set id none)

theorem eats_yl {id N : Nat} {fr : Fr} {ps : Array Tmp} {assign body : Code} {Inv : List (List AV) → Hp → Prop} {Rt : Code → Hp → Prop} (hps : (ps.toList.all (· < N)) = true) (hr : RoundI P id N fr ps assign body Inv Rt) :
    Eats P (.yl id) (JS id N fr ps assign body Inv) (DS id N fr ps assign body Rt) := by
  rintro L x rest Bx Hx hM ⟨hl, hi⟩ o ev c args ts ho hy hx
  have hl' := (hM.get hl)
  obtain ⟨hlen, hw⟩ := hr L x rest _ Hx hl' (hM.set none hl) hi
  have back : ∀ {H2 B2 : Hp} {pend : Option Code} (s : Ob), H2 id = some (.loop N fr ps assign body .busy pend) → LayOn L B2 (H2.set id none) → B2 id = none → LayOn L (B2.set id (some s)) (H2.set id (some s)) := by
    intro H2 B2 pend s h2 h3 hb
    have := LayOn.lay (o := s) h3 (k := id) hb (Hp.set_eq _ _ _)
    rwa [Hp.set_set] at this
  have none_of : ∀ {H2 B2 : Hp}, LayOn L B2 (H2.set id none) → B2 id = none := by
    intro H2 B2 h3
    cases e : B2 id with
    | none => rfl
    | some o => have := h3.get e; rw [Hp.set_eq] at this; cases this
  refine OpW.yield ho hy hx hl' hlen hps (hw.mono fun e fr1 D1 H1 h => ?_)
  cases e with
  | normal =>
    obtain ⟨pend1, h1, h2⟩ := h
    refine ⟨pend1, h1, h2.mono fun e2 fr2 D2 H2 h3 => ?_⟩
    cases e2 with
    | normal =>
      obtain ⟨⟨pend, h4⟩, B2, h5, h6⟩ := h3
      have hb := none_of h5
      exact ⟨pend, h4, _, back _ h4 h5 hb, .inl ⟨rfl, Hp.set_eq _ _ _, by rw [Hp.set_set, Hp.set_same _ _ _ hb]; exact h6⟩⟩
    | ret =>
      obtain ⟨⟨pend, h4⟩, B2, h5, h6⟩ := h3
      have hb := none_of h5
      exact ⟨pend, h4, _, back _ h4 h5 hb, .inr ⟨rfl, _, Hp.set_eq _ _ _, by rw [Hp.set_set, Hp.set_same _ _ _ hb]; exact h6⟩⟩
    | exit i =>
      obtain ⟨⟨pend, h4⟩, B2, h5, h6⟩ := h3
      have hb := none_of h5
      exact ⟨pend, h4, _, back _ h4 h5 hb, .inr ⟨rfl, _, Hp.set_eq _ _ _, by rw [Hp.set_set, Hp.set_same _ _ _ hb]; exact h6⟩⟩
    | _ => exact h3.elim
  | _ => exact h.elim

/-- A function that yields its items to whoever eats them. -/
def Seqs (P : Program) (f : FuncId) (fs cs : List AV) (items : List (List AV)) : Prop :=
  ∀ (y : AV) (J : List (List AV) → Hp → Prop) (Dn : Hp → Prop) (H : Hp), (∃ id, y = .yl id) → Eats P y J Dn → J items H → CallV P f (fs ++ [y] ++ cs) H (fun _ H' => J [] H' ∨ Dn H')

theorem WpV.rangeS {N : Nat} {Q : Exit → Fr → List Nat → Hp → Prop} {fr : Fr} {D : List Nat} {g : Operand} {ps : Array Tmp} {assign body : Code} {f : FuncId} {fs cs : List AV} {items : List (List AV)}
    (hg : fr.ev g = some (.fn (.func f) fs cs)) (eg : EntersF P f) (hmD : Marks D H) (hps : (ps.toList.all (· < N)) = true) (hseq : Seqs P f fs cs items)
    (h : ∀ idm idl, idm ≠ idl → H idm = none → H idl = none → ∃ (Inv : List (List AV) → Hp → Prop) (Rt : Code → Hp → Prop), Inv items (H.set idm (some .mark)) ∧ RoundI P idl N fr ps assign body Inv Rt ∧
      (∀ H', Inv [] H' → Marks (idm :: D) H' ∧ Q .normal fr (idm :: D) H') ∧ (∀ c H', Rt c H' → Marks (idm :: D) H' ∧ WpV P none N c Q fr (idm :: D) H')) :
    WpV P none N (.rangeFunc g ps assign body) Q fr D H := by
  refine WpV.rangeFunc hg eg hmD fun idm idl hne h1 h2 => ?_
  obtain ⟨Inv, Rt, hi, hr, hn, ht⟩ := h idm idl hne h1 h2
  refine (hseq (.yl idl) (JS idl N fr ps assign body Inv) (DS idl N fr ps assign body Rt) _ ⟨_, rfl⟩ (eats_yl hps hr) ⟨Hp.set_eq _ _ _, ?_⟩).mono ?_
  · rw [Hp.set_set, Hp.set_same _ _ _ (by rw [Hp.set_ne _ _ hne.symm]; exact h2)]; exact hi
  · rintro x H' (⟨h3, h4⟩ | ⟨c, h3, h4⟩)
    · obtain ⟨a, b⟩ := hn _ h4
      exact ⟨.ready, none, h3, by decide, a, b⟩
    · obtain ⟨a, b⟩ := ht _ _ h4
      exact ⟨.done, some c, h3, by decide, a, b⟩

theorem WpV.rangeSI {N idr : Nat} {Q : Exit → Fr → List Nat → Hp → Prop} {fr : Fr} {D : List Nat} {g : Operand} {ps : Array Tmp} {assign body : Code} {f : FuncId} {fs cs : List AV} {N0 : Nat} {fr0 : Fr} {ps0 : Array Tmp} {as0 bo0 : Code} {st0 : LoopState} {pe0 : Option Code} {items : List (List AV)}
    (hg : fr.ev g = some (.fn (.func f) fs cs)) (eg : EntersF P f) (hmD : Marks D H) (hidr : H idr = some (.loop N0 fr0 ps0 as0 bo0 st0 pe0)) (hps : (ps.toList.all (· < N)) = true) (hseq : Seqs P f fs cs items)
    (h : ∀ idl, H idl = none → ∃ (Inv : List (List AV) → Hp → Prop) (Rt : Code → Hp → Prop), Inv items H ∧ RoundI P idl N fr ps assign body Inv Rt ∧
      (∀ H', Inv [] H' → Marks D H' ∧ Q .normal fr D H') ∧ (∀ c H', Rt c H' → Marks D H' ∧ WpV P (some idr) N c Q fr D H')) :
    WpV P (some idr) N (.rangeFunc g ps assign body) Q fr D H := by
  refine WpV.rangeFuncI hg eg hmD hidr fun idl h2 => ?_
  obtain ⟨Inv, Rt, hi, hr, hn, ht⟩ := h idl h2
  refine (hseq (.yl idl) (JS idl N fr ps assign body Inv) (DS idl N fr ps assign body Rt) _ ⟨_, rfl⟩ (eats_yl hps hr) ⟨Hp.set_eq _ _ _, ?_⟩).mono ?_
  · rw [Hp.set_set, Hp.set_same _ _ _ h2]; exact hi
  · rintro x H' (⟨h3, h4⟩ | ⟨c, h3, h4⟩)
    · obtain ⟨a, b⟩ := hn _ h4
      exact ⟨.ready, none, h3, by decide, a, b⟩
    · obtain ⟨a, b⟩ := ht _ _ h4
      exact ⟨.done, some c, h3, by decide, a, b⟩

end Go.Proofs.YtaekibilldjnmaaGreat
namespace Go.Proofs.YtaekibilldjnmaaGreat
variable {P : Program} {H : Hp}
theorem LexB.pure {N i : Nat} {ops : Array Oper} {isn : Nat → Bool} {Hs : (Nat → Nat) → (Nat → Bool) → Hp} {Q : (Nat → Nat) → Fr → Prop} {o : Oper} {l : List Oper} {fr : (Nat → Nat) → Fr} {x : AV} (hN : (o.dst.all (· < N)) = true) (hc : Oper.calm o = true) (hg : ∀ ids, guardOf ops (fr ids) o = some true)
    (hs : ∀ ids b, Good ops H isn o i ids b → Hs ids (upd b i) = Hs ids b) (hop : ∀ ids b, Good ops H isn o i ids b → OpW P o (fr ids).ev (Hs ids b) (fun x' H' => x' = x ∧ H' = Hs ids b)) (h : LexB P N ops H isn Hs Q (i + 1) l (fun ids => (fr ids).put o.dst x)) : LexB P N ops H isn Hs Q i (o :: l) fr :=
  ⟨hN, hc, .inl ⟨hg, x, fun ids b g => by rw [hs ids b g]; exact hop ids b g, h⟩⟩
theorem LexB.eff {N i : Nat} {ops : Array Oper} {isn : Nat → Bool} {Hs : (Nat → Nat) → (Nat → Bool) → Hp} {Q : (Nat → Nat) → Fr → Prop} {o : Oper} {l : List Oper} {fr : (Nat → Nat) → Fr} {x : AV} (hN : (o.dst.all (· < N)) = true) (hc : Oper.calm o = true) (hg : ∀ ids, guardOf ops (fr ids) o = some true)
    (hop : ∀ ids b, Good ops H isn o i ids b → OpW P o (fr ids).ev (Hs ids b) (fun x' H' => x' = x ∧ H' = Hs ids (upd b i))) (h : LexB P N ops H isn Hs Q (i + 1) l (fun ids => (fr ids).put o.dst x)) : LexB P N ops H isn Hs Q i (o :: l) fr :=
  ⟨hN, hc, .inl ⟨hg, x, hop, h⟩⟩
theorem LexB.new {N i : Nat} {ops : Array Oper} {isn : Nat → Bool} {Hs : (Nat → Nat) → (Nat → Bool) → Hp} {Q : (Nat → Nat) → Fr → Prop} {o : Oper} {l : List Oper} {fr : (Nat → Nat) → Fr} (X : Nat → AV) (ob : Ob) (hin : isn i = true) (hN : (o.dst.all (· < N)) = true) (hc : Oper.calm o = true) (hg : ∀ ids, guardOf ops (fr ids) o = some true)
    (hop : ∀ ids b, Good ops H isn o i ids b → OpW P o (fr ids).ev (Hs ids b) (fun x' H' => ∃ id, (Hs ids b) id = none ∧ x' = X id ∧ H' = (Hs ids b).set id (some ob))) (hs : ∀ ids b, Good ops H isn o i ids b → (Hs ids b) (ids i) = none → Hs ids (upd b i) = (Hs ids b).set (ids i) (some ob))
    (h : LexB P N ops H isn Hs Q (i + 1) l (fun ids => (fr ids).put o.dst (X (ids i)))) : LexB P N ops H isn Hs Q i (o :: l) fr :=
  ⟨hN, hc, .inr (.inr ⟨hin, hg, X, ob, hop, hs, h⟩)⟩
theorem OpW.evX {o : Oper} {ev : Operand → Option AV} {x : AV} (h : evP P H ev o.op = some x) : OpW P o ev H (fun x' H' => x' = x ∧ H' = H) := OpW.ev h ⟨rfl, rfl⟩
end Go.Proofs.YtaekibilldjnmaaGreat
namespace Go.Proofs.YtaekibilldjnmaaGreat
variable {P : Program} {H : Hp}

theorem OpW.appendZ {o : Oper} {ev : Operand → Option AV} {t tn e : TypeId} {a y : Operand} {nl : Bool} {len m s : Nat} {cells : List AV} {kq kn : IntKind} {K : AV → Hp → Prop}
    (ho : o.op = .call { callee := .builtin .append, args := #[a, y], argTypes := #[t, tn] }) (ha : ev a = some (.sl nl true len cells)) (hy : ev y = some (.int kq (m : Int)))
    (hE : Elem P t e s (len + m)) (htn : P.underlying tn = some (.int kn)) (hl1 : cells.length = len * s) (hs : 0 < s) (hm : 0 < m)
    (hk : ∀ id, H id = none → K (.rs id 0 s 0 (len + m) false) (H.set id (some (.cells e 0 cells)))) : OpW P o ev H K := by
  refine ⟨by simp [Oper.calm, ho], fun ρ W σ hd hH => ?_⟩
  have hva := hd a (by simp [ho, Op.operands, Call.operands]) _ ha
  have hvy := hd y (by simp [ho, Op.operands, Call.operands]) _ hy
  rw [Den] at hvy
  obtain ⟨i, z, hi, his, hz, hzs, hb⟩ := hE.info
  rw [Den] at hva
  obtain ⟨base, cap, ea, g1, g2, g3, g4⟩ := hva
  obtain rfl := g2 rfl
  obtain ⟨olds, hold, hdo, hlo⟩ : ∃ olds : List Value, (Builtin.firstCells i.size cap (.slice base cap cap)).run P W.drew = .ok olds.toArray W.drew ∧ DenL ρ W cells (fun i => olds[i]?) ∧ olds.length = cells.length := by
    cases nl with
    | true =>
      obtain ⟨rfl, rfl, rfl⟩ := g3 rfl
      exact ⟨[], run_firstCells_none W.drew i.size 0 0 0, by rw [DenL]; trivial, rfl⟩
    | false =>
      obtain ⟨b, off, rfl, -, hdc⟩ := g4 rfl
      obtain ⟨vs, k1, k2, k3⟩ := hdc.list
      exact ⟨vs, run_firstCells_some W.drew i.size cap ⟨b, off, none⟩ cap cap vs (by rw [k1, hl1, his]) (fun j v hj => by rw [add_addr]; exact k2 j v hj), k3, k1⟩
  have hmb : m * i.bytes ≤ (cap + m) * i.bytes := Nat.mul_le_mul_right _ (by omega)
  have hrun := Go.Lib.run_append_grow_zeros (P := P) W t tn o.type e i z kq kn hE.slice htn hi hz base cap cap olds hold m hm (by omega) (by omega) (by have := hE.small; omega) (by omega) (growslice_fits (by omega) hb)
  generalize harr : (olds.toArray ++ Builtin.zeroCells z.cells m ++ Builtin.zeroCells z.cells (grownCap W (cap + m) cap e - (cap + m))) = arr at hrun
  have hsz : arr.size = olds.length + m * s + (grownCap W (cap + m) cap e - (cap + m)) * s := by
    rw [← harr]; simp [zeroCells_size, hzs, Nat.add_assoc]
  have hden : DenL ρ W cells (fun j => arr[j]?) := by
    refine DenL.of fun j x hj => ?_
    have hjl := (List.getElem?_eq_some_iff.1 hj).1
    obtain ⟨v, hv, hdv⟩ := hdo.at hj
    refine ⟨v, ?_, hdv⟩
    rw [← harr, Array.append_assoc, Array.getElem?_append_left (by simp; omega)]
    simpa using hv
  have hH1 := hH.drew
  obtain ⟨q, hd', hn, hbk⟩ := own_den hH1 (ty := e) (arr := arr) (by omega) (DenL.ext (Ext.drew hH) hH.live _ _ hden)
  have hle := grownCap_le W (cap + m) cap e
  have hdv : Den (ρ.add ρ.nx W.drew.heap.size) (W.drew.alloc (.cells arr e)) (.rs ρ.nx 0 s 0 (cap + m) false) (.slice (some ⟨W.heap.size, 0, none⟩) (cap + m) (grownCap W (cap + m) cap e)) := by
    rw [Den]
    refine ⟨q.live _ _ _ hbk, rfl, fun e' b' hb' => ?_⟩
    rw [hbk] at hb'; cases hb'
    refine ⟨Nat.le_refl _, fun _ => ⟨_, rfl, hle, nofun, _, e, (0, 0), World.alloc_heap_new _ _, ?_⟩⟩
    rw [hsz, hlo, hl1, Nat.zero_add, ← Nat.add_mul, ← Nat.add_mul]
    exact Nat.mul_le_mul_right _ (by omega)
  refine Runs.value (v := .slice (some ⟨W.heap.size, 0, none⟩) (cap + m) (grownCap W (cap + m) cap e)) (W' := W.drew.alloc (.cells arr e)) ?_
    ⟨_, _, _, (Ext.drew hH).trans hH.live q, hdv, hd', hk _ hn⟩
  simp only [execOp, ho, resolve, Sem.run_bind, Sem.run_pure, Result.andThen_ok, invoke, builtin]
  rw [show (#[a, y].map σ) = #[.slice base cap cap, .int kq (m : Int)] by simp [ea, hvy], hrun]
  rfl
end Go.Proofs.YtaekibilldjnmaaGreat
namespace Go.Proofs.YtaekibilldjnmaaGreat
variable {P : Program} {ρ : Own} {W : World} {H : Hp}

theorem Ext.rename (h : HD ρ W H) {id e b : Nat} (hb : ρ.obj id = some (e, b)) : Ext ρ W (ρ.rename id ρ.nx 0 b) W := by
  have hlt := h.live _ _ _ hb
  refine ⟨by simp only [Own.rename]; omega, Nat.le_refl _, fun k hk hn => ?_, fun k e1 b1 e2 b2 h1 h2 => ?_, fun c hc hf => ⟨fun k e' hk => ?_, rfl⟩, fun k e1 b1 hk => ?_, rfl, rfl, rfl⟩
  · simp only [Own.rename]; rw [if_neg (by omega)]; split <;> first | rfl | exact hn
  · have := h.live _ _ _ h1
    simp only [Own.rename] at h2
    rw [if_neg (by omega)] at h2
    split at h2
    · cases h2
    · rw [h1] at h2; cases h2; exact ⟨Nat.le_refl _, fun _ => ⟨rfl, fun cs ty fz hc => ⟨cs, hc, rfl⟩⟩⟩
  · simp only [Own.rename] at hk
    split at hk
    · cases hk; exact hf _ _ hb
    · split at hk
      · cases hk
      · exact hf _ _ hk
  · simp only [Own.rename] at hk ⊢
    split at hk
    · omega
    · split at hk
      · cases hk
      · have := h.live _ _ _ hk; omega
theorem HD.rename (h : HD ρ W H) {id e b : Nat} {ty : TypeId} {cs : List AV} (hb : ρ.obj id = some (e, b)) (ho : H id = some (.cells ty e cs)) : HD (ρ.rename id ρ.nx 0 b) W ((H.set id none).set ρ.nx (some (.cells ty 0 cs))) := by
  have hlt := h.live _ _ _ hb
  have q := Ext.rename h hb
  refine ⟨fun k o' hk => ?_, fun k hk => ?_, fun k e1 b1 hk => q.live k e1 b1 hk, fun k k' e1 e2 b1 h1 h2 => ?_⟩
  · simp only [Hp.set] at hk
    split at hk
    · rename_i hkn
      cases hk
      obtain ⟨e1, b1, h1, h2, h3⟩ := h.obs id _ ho
      rw [hb] at h1; cases h1
      have h3' := h.of_ext (id := id) q h3 rfl
      obtain ⟨-, arr, h4, h5, h6⟩ := h3'
      exact ⟨0, b, by simp [Own.rename, hkn], h2, rfl, arr, h4, h5, h6⟩
    · rename_i hkn
      split at hk
      · cases hk
      · rename_i hne
        obtain ⟨e1, b1, h1, h2, h3⟩ := h.obs k o' hk
        exact ⟨e1, b1, by simp only [Own.rename]; rw [if_neg hkn, if_neg hne]; exact h1, h2, h.of_ext (id := k) q h3 rfl⟩
  · simp only [Hp.set] at hk
    simp only [Own.rename]
    split at hk
    · cases hk
    · rename_i hkn
      rw [if_neg hkn]
      split
      · rfl
      · rename_i hne; rw [if_neg hne] at hk; exact h.non k hk
  · simp only [Own.rename] at h1 h2
    split at h1 <;> split at h2
    · omega
    · cases h1
      split at h2
      · cases h2
      · rename_i h3; exact absurd (h.inj _ _ _ _ _ h2 hb) h3
    · cases h2
      split at h1
      · cases h1
      · rename_i h3; exact absurd (h.inj _ _ _ _ _ h1 hb) h3
    · split at h1
      · cases h1
      · split at h2
        · cases h2
        · exact h.inj _ _ _ _ _ h1 h2

/-- What a call has laid, as an object that was written on by nobody. -/
theorem CallV.anew {f : FuncId} {args : List AV} {e : TypeId} {s m : Nat} {nl : Bool} {xs : List AV} (h : CallV P f args H (fun r H' => Bld H e s nl m xs r H')) (hm : 0 < m) :
    CallV P f args H (fun r H' => ∃ id, H id = none ∧ r = .rs id 0 s 0 m false ∧ H' = H.set id (some (.cells e 0 xs))) := by
  intro ρ W vs hl hd hH
  refine Calls.mono (h ρ W vs hl hd hH) ?_
  rintro e' W' ⟨v, ρ', x, H', rfl, q, hv, hH', hb⟩
  obtain ⟨hl, ⟨h0, -⟩ | ⟨hp, id, ver, hid, rfl, rfl⟩⟩ := hb
  · omega
  · obtain ⟨e1, b, h1, h2, h3⟩ := hH'.obs id _ (Hp.set_eq _ _ _)
    have he : e1 = ver := h3.1
    subst he
    have hH2 := hH'.rename h1 (Hp.set_eq _ _ _)
    rw [Hp.set_set, Hp.set_same _ _ _ hid] at hH2
    have q2 := Ext.rename hH' h1
    have hfresh : H ρ'.nx = none := by
      cases hn : H ρ'.nx with
      | none => rfl
      | some o =>
        have hne : ρ'.nx ≠ id := fun e => by rw [e, hid] at hn; cases hn
        obtain ⟨e2, b2, h4, -⟩ := hH'.obs ρ'.nx o (by rw [Hp.set_ne _ _ hne]; exact hn)
        exact absurd (hH'.live _ _ _ h4) (Nat.lt_irrefl _)
    refine ⟨v, ρ'.rename id ρ'.nx 0 b, .rs ρ'.nx 0 s 0 m false, _, rfl, q.trans hH.live q2, ?_, hH2, _, hfresh, rfl, rfl⟩
    rw [Den] at hv ⊢
    obtain ⟨-, k2, k3⟩ := hv
    refine ⟨by simp only [Own.rename]; omega, k2, fun e b' hb' => ?_⟩
    simp only [Own.rename, if_true, Option.some.injEq, Prod.mk.injEq] at hb'
    obtain ⟨rfl, rfl⟩ := hb'
    exact ⟨Nat.le_refl _, fun _ => (k3 _ _ h1).2 rfl⟩

/-! ### Lending -/
def Own.none (ρ : Own) : Own := { ρ with obj := fun _ => Option.none }
theorem Ext.none (ρ : Own) (W : World) : Ext ρ W ρ.none W :=
  ⟨Nat.le_refl _, Nat.le_refl _, fun _ _ _ => rfl, fun _ _ _ _ _ _ h => (by simp [Own.none] at h), fun _ _ _ => ⟨fun _ _ h => (by simp [Own.none] at h), rfl⟩, fun _ _ _ h => (by simp [Own.none] at h), rfl, rfl, rfl⟩
theorem HD.none (ρ : Own) (W : World) : HD ρ.none W (fun _ => Option.none) := ⟨fun _ _ h => (by cases h), fun _ _ => rfl, fun _ _ _ h => (by simp [Own.none] at h), fun _ _ _ _ _ h => (by simp [Own.none] at h)⟩
/-- What a value looks like to those who only read. -/
def Seen (H : Hp) (x y : AV) : Prop := ∀ ρ W v, HD ρ W H → Den ρ W x v → Den ρ.none W y v
theorem Seen.same (H : Hp) (x : AV) : Seen H x x := fun ρ W v hH h => Den.ext (Ext.none ρ W) hH.live _ _ h
theorem Seen.rs {id ver sz off len : Nat} {clip : Bool} {ty : TypeId} {cs : List AV} (ho : H id = some (.cells ty ver cs)) : Seen H (.rs id ver sz off len clip) (.sl false clip len ((cs.drop off).take (len * sz))) := fun ρ W v hH h => by
  have h2 := den_freeze hH h ho
  have h3 := Den.ext (Ext.none (ρ.drop id) W) (Ext.drop hH id).live _ _ h2
  exact h3
inductive SeenL (H : Hp) : List AV → List AV → Prop
  | nil : SeenL H [] []
  | cons {x y : AV} {xs ys : List AV} : Seen H x y → SeenL H xs ys → SeenL H (x :: xs) (y :: ys)
theorem SeenL.len {xs ys : List AV} (h : SeenL H xs ys) : xs.length = ys.length := by induction h <;> simp_all
theorem SeenL.den {xs ys : List AV} (h : SeenL H xs ys) (hH : HD ρ W H) : ∀ {f : Nat → Option Value}, DenL ρ W xs f → DenL ρ.none W ys f := by
  induction h with
  | nil => intro f _; rw [DenL]; trivial
  | cons h1 _ ih =>
    intro f hd
    rw [DenL] at hd ⊢
    obtain ⟨⟨v, hv, hx⟩, hr⟩ := hd
    exact ⟨⟨v, hv, h1 _ _ _ hH hx⟩, ih hr⟩
def Plain (x : AV) : Prop := ∀ (ρ ρ' : Own) (W W' : World) v, Den ρ W x v → Den ρ' W' x v
theorem Plain.int (k : IntKind) (n : Int) : Plain (.int k n) := fun _ _ _ _ v h => by rw [Den] at h ⊢; exact h
theorem Plain.bool (b : Bool) : Plain (.bool b) := fun _ _ _ _ v h => by rw [Den] at h ⊢; exact h
theorem CallV.lend {f : FuncId} {xs ys : List AV} {x : AV} (h : CallV P f ys (fun _ => Option.none) (fun r H' => r = x ∧ H' = fun _ => Option.none)) (hs : SeenL H xs ys) (hx : Plain x) : CallV P f xs H (fun r H' => r = x ∧ H' = H) := by
  intro ρ W vs hl hd hH
  refine Calls.mono (h ρ.none W vs (by rw [hl, hs.len]) (hs.den hH hd) (HD.none ρ W)) ?_
  rintro e' W' ⟨v, ρ', x', H', rfl, q, hv, hH', rfl, rfl⟩
  have hfr : ∀ b, b < W.heap.size → W'.heap[b]? = W.heap[b]? := fun b hb => (q.free b hb (fun _ _ h => by simp [Own.none] at h)).2
  have hnx : ρ.nx ≤ ρ'.nx := q.nx
  have q2 : Ext ρ W { obj := ρ.obj, nx := ρ'.nx } W' := by
    refine ⟨hnx, q.size, fun _ _ h => h, fun k e b e' b' h1 h2 => ?_, fun b hb hf => ⟨hf, hfr b hb⟩, fun k e b hk => Nat.lt_of_lt_of_le (hH.live _ _ _ hk) hnx, q.io⟩
    simp only at h2
    rw [h1] at h2; cases h2
    exact ⟨Nat.le_refl _, fun _ => ⟨rfl, fun cs ty fz hc => ⟨cs, by rw [hfr _ (hH.lt h1)]; exact hc, rfl⟩⟩⟩
  refine ⟨v, { obj := ρ.obj, nx := ρ'.nx }, _, H, rfl, q2, hx _ _ _ _ _ hv, ⟨fun k o hk => ?_, fun k hk => hH.non k hk, q2.live, fun k k' e e' b h1 h2 => hH.inj _ _ _ _ _ h1 h2⟩, rfl, rfl⟩
  obtain ⟨e1, b1, h1, h2, h3⟩ := hH.obs k o hk
  exact ⟨e1, b1, h1, Nat.lt_of_lt_of_le h2 q2.size, hH.of_ext (id := k) q2 h3 (hfr _ h2)⟩

/-- What an operation has laid is written no more. -/
theorem OpW.frzS {o : Oper} {ev : Operand → Option AV} {e : TypeId} {s m : Nat} {clip : Bool} {xs : List AV} (h : OpW P o ev H (fun r H' => ∃ id ver, H id = none ∧ r = .rs id ver s 0 m clip ∧ H' = H.set id (some (.cells e ver xs)))) (hl : xs.length = m * s) :
    OpW P o ev H (fun r H' => r = .sl false clip m xs ∧ H' = H) := by
  refine ⟨h.calm, fun ρ W σ hd hH => ?_⟩
  have hr := h.runs ρ W σ hd hH
  have go : ∀ v W', (∃ ρ' x H', Ext ρ W ρ' W' ∧ Den ρ' W' x v ∧ HD ρ' W' H' ∧ ∃ id ver, H id = none ∧ x = .rs id ver s 0 m clip ∧ H' = H.set id (some (.cells e ver xs))) → ∃ ρ' x H', Ext ρ W ρ' W' ∧ Den ρ' W' x v ∧ HD ρ' W' H' ∧ (x = .sl false clip m xs ∧ H' = H) := by
    rintro v W' ⟨ρ', x, H', q, hv, hH', id, ver, hid, rfl, rfl⟩
    have h2 := den_freeze hH' hv (Hp.set_eq _ _ _)
    rw [List.drop_zero, List.take_of_length_le (by omega)] at h2
    have h3 := hH'.drop id
    rw [Hp.set_set, Hp.set_same _ _ _ hid] at h3
    exact ⟨ρ'.drop id, _, _, q.trans hH.live (Ext.drop hH' id), h2, h3, rfl, rfl⟩
  unfold Runs at hr ⊢
  generalize (execOp σ o).run P W = q at hr
  cases q with
  | halt x w => cases hr
  | ok x w =>
    cases x <;> first
      | exact go _ _ hr
      | (refine Calls.mono hr ?_; rintro e w' ⟨v, rfl, hv⟩; exact ⟨v, rfl, go _ _ hv⟩)
      | (refine RoundIn.mono hr ?_; rintro e w' ⟨v, rfl, hv⟩; exact ⟨v, rfl, go _ _ hv⟩)
      | cases hr
end Go.Proofs.YtaekibilldjnmaaGreat
namespace Go.Proofs.YtaekibilldjnmaaGreat
open Go.ChangeShapes Go.WideShapes Go.ChangeAt Go.RowKit Go.Deep
variable {P : Program} {Hh : Type} {enc : TypeId × Value → Hh} {w : World} {base : Nat} {spare : Nat → Bool} {held : Bool}

def ρ0 : Own := { obj := fun _ => none, nx := 0 }
theorem ρ0_free (b : Nat) : ρ0.free b := fun _ _ h => by cases h
theorem ρ0_hd (w : World) : HD ρ0 w (fun _ => none) := ⟨fun _ _ h => (by cases h), fun _ _ => rfl, fun _ _ _ h => (by cases h), fun _ _ _ _ _ h => (by cases h)⟩
/-- These cells are denoted by those values. -/
def CellsD (w : World) (cells : List AV) (cs : List Value) : Prop := cs.length = cells.length ∧ DenL ρ0 w cells (fun i => cs[i]?)
theorem CellsD.one {x : AV} {v : Value} (h : Den ρ0 w x v) : CellsD w [x] [v] := ⟨rfl, by rw [DenL]; exact ⟨⟨v, rfl, h⟩, by rw [DenL]; trivial⟩⟩
theorem CellsD.append {a b : List AV} {cs : List Value} (ha : CellsD w a (cs.take a.length)) (hb : CellsD w b (cs.drop a.length)) : CellsD w (a ++ b) cs := by
  obtain ⟨h1, h2⟩ := ha
  obtain ⟨h3, h4⟩ := hb
  rw [List.length_take] at h1
  rw [List.length_drop] at h3
  refine ⟨by rw [List.length_append]; omega, DenL.of fun i x hx => ?_⟩
  by_cases hi : i < a.length
  · rw [List.getElem?_append_left hi] at hx
    obtain ⟨v, hv, hd⟩ := h2.at hx
    rw [List.getElem?_take, if_pos hi] at hv
    exact ⟨v, hv, hd⟩
  · rw [List.getElem?_append_right (by omega)] at hx
    obtain ⟨v, hv, hd⟩ := h4.at hx
    rw [List.getElem?_drop, show a.length + (i - a.length) = i by omega] at hv
    exact ⟨v, hv, hd⟩
theorem CellsD.agg {cells : List AV} {cs : Array Value} (h : CellsD w cells cs.toList) : Den ρ0 w (.agg cells) (.agg cs) := by
  rw [Den]
  exact ⟨cs, rfl, by simpa using h.1, h.2.congr fun i _ => by simp⟩

/-- What cells of a type read as. -/
def Rd (P : Program) (Hh : Type) (enc : TypeId × Value → Hh) (w : World) (base : Nat) (spare : Nat → Bool) (held : Bool) {A : Type} (t : TypeId) (C : A → List AV) (Okk : A → Prop) : Prop :=
  ∀ (fuel : Nat) (cs : List Value) (x : DataW Hh × List MemPlace), DataW.trod enc P w base spare held fuel t cs = some x → ∃ a : A, Okk a ∧ CellsD w (C a) cs

theorem rd_int {t : TypeId} {k : IntKind} (ht : P.underlying t = some (.int k)) : Rd P Hh enc w base spare held t (fun n : Int => [.int k n]) (fun n => Lit.wf (.int k n) = true) := by
  intro fuel cs x h
  obtain ⟨z, e1, _, hw⟩ := DataW.trod_int ht h
  subst e1
  exact ⟨z, hw, CellsD.one (by rw [Den])⟩
theorem flat_len {A : Type} {C : A → List AV} {s : Nat} (hC : ∀ a, (C a).length = s) : ∀ ls : List A, (ls.flatMap C).length = ls.length * s
  | [] => by simp
  | a :: ls => by rw [List.flatMap_cons, List.length_append, flat_len hC ls, hC]; simp [Nat.add_mul]; omega
theorem flat_at {A : Type} {C : A → List AV} {s : Nat} (hC : ∀ a, (C a).length = s) (hs : 0 < s) : ∀ (ls : List A) (i : Nat) (x : AV), (ls.flatMap C)[i]? = some x → ∃ a, ls[i / s]? = some a ∧ (C a)[i % s]? = some x
  | [], i, x, h => by simp at h
  | a :: ls, i, x, h => by
    rw [List.flatMap_cons] at h
    by_cases hi : i < s
    · rw [List.getElem?_append_left (by rw [hC]; exact hi)] at h
      exact ⟨a, by rw [Nat.div_eq_of_lt hi]; rfl, by rw [Nat.mod_eq_of_lt hi]; exact h⟩
    · rw [List.getElem?_append_right (by rw [hC]; omega), hC] at h
      obtain ⟨b, h1, h2⟩ := flat_at hC hs ls (i - s) x h
      refine ⟨b, ?_, ?_⟩
      · rw [show i / s = (i - s) / s + 1 by rw [← Nat.add_div_right _ hs]; congr 1; omega, List.getElem?_cons_succ]; exact h1
      · rw [show i % s = (i - s) % s by rw [← Nat.add_mod_right (i - s) s]; congr 1; omega]; exact h2
theorem choose_list {A : Type} {p : Nat → A → Prop} : ∀ (n : Nat), (∀ i, i < n → ∃ a, p i a) → ∃ ls : List A, ls.length = n ∧ ∀ i a, ls[i]? = some a → p i a
  | 0, _ => ⟨[], rfl, fun i a h => by simp at h⟩
  | n + 1, h => by
    obtain ⟨ls, h1, h2⟩ := choose_list n (fun i hi => h i (by omega))
    obtain ⟨a, ha⟩ := h n (by omega)
    refine ⟨ls ++ [a], by simp [h1], fun i b hb => ?_⟩
    by_cases hi : i < n
    · rw [List.getElem?_append_left (by omega)] at hb; exact h2 i b hb
    · rw [List.getElem?_append_right (by omega)] at hb
      have hl := (List.getElem?_eq_some_iff.1 hb).1
      simp only [List.length_singleton] at hl
      have e : i = n := by omega
      subst e
      rw [h1, Nat.sub_self] at hb
      simp only [List.getElem?_cons_zero, Option.some.injEq] at hb
      subst hb; exact ha

theorem rd_array {A : Type} {t e : TypeId} {n s : Nat} {C : A → List AV} {Okk : A → Prop} (ht : P.underlying t = some (.array n e)) (hct : P.cellsOf t = n * s) (hce : P.cellsOf e = s) (hs : 0 < s) (hC : ∀ a, (C a).length = s) (hr : Rd P Hh enc w base spare held e C Okk) :
    Rd P Hh enc w base spare held t (fun ls : List A => ls.flatMap C) (fun ls => ls.length = n ∧ ∀ a ∈ ls, Okk a) := by
  intro fuel cs x h
  obtain ⟨xs, m, _, _, hl, hx, hel⟩ := DataW.trod_array ht h
  rw [hct] at hl
  obtain ⟨ls, h1, h2⟩ := choose_list (p := fun i a => Okk a ∧ CellsD w (C a) ((cs.drop (i * s)).take s)) n fun i hi => by
    have hE := hel i hi
    rw [hce, List.getElem?_eq_getElem (by omega)] at hE
    exact hr _ _ _ hE
  refine ⟨ls, ⟨h1, fun a ha => ?_⟩, by rw [flat_len hC, h1, hl], DenL.of fun i x hx => ?_⟩
  · obtain ⟨i, hi, rfl⟩ := List.getElem_of_mem ha
    exact (h2 i _ (List.getElem?_eq_getElem hi)).1
  · obtain ⟨a, e1, e2⟩ := flat_at hC hs ls i x hx
    obtain ⟨v, hv, hd⟩ := (h2 _ _ e1).2.2.at e2
    refine ⟨v, ?_, hd⟩
    rw [List.getElem?_take, if_pos (Nat.mod_lt _ hs), List.getElem?_drop, Nat.mul_comm, Nat.div_add_mod] at hv
    exact hv

theorem rd_slice {A : Type} {t e : TypeId} {s : Nat} {C : A → List AV} {Okk : A → Prop} (ht : P.underlying t = some (.slice e)) (hce : P.cellsOf e = s) (hs : 0 < s) (hC : ∀ a, (C a).length = s) (hr : Rd P Hh enc w base spare held e C Okk)
    {fuel : Nat} {cs : List Value} {x : DataW Hh × List MemPlace} (hsp : ∀ a len cap, cs = [.slice (some a) len cap] → a.spot = none) (h : DataW.trod enc P w base spare held fuel t cs = some x) :
    ∃ (nl : Bool) (ls : List A), (∀ a ∈ ls, Okk a) ∧ ls.length ≤ maxLen ∧ CellsD w [.sl nl false ls.length (ls.flatMap C)] cs := by
  rcases open_slice ht h with ⟨rfl, -⟩ | ⟨a, len, cap, m, n, D, Pl, rfl, _, hl, hcm, hmm, _, hi⟩
  · refine ⟨true, [], by simp, Nat.zero_le _, CellsD.one ?_⟩
    rw [Den]
    exact ⟨none, 0, rfl, Nat.le_refl _, nofun, fun _ => ⟨rfl, rfl, rfl⟩, nofun⟩
  · have hlm : len ≤ m := by rw [hmm]; split <;> omega
    have hspot := hsp _ _ _ rfl
    obtain ⟨b, off, spot⟩ := a
    simp only at hspot
    subst hspot
    obtain ⟨ls, h1, h2⟩ := choose_list (p := fun i (a : A) => Okk a ∧ ∃ cs', w.cells? base ((⟨b, off, none⟩ : Addr).add (i * s)) s = some cs' ∧ CellsD w (C a) cs') len fun i hil => by
      obtain ⟨cs', hc, ht'⟩ := hi i (by omega)
      rw [hce] at hc
      obtain ⟨a, ha, hd⟩ := hr _ _ _ ht'
      exact ⟨a, ha, cs', hc, hd⟩
    subst h1
    have hcell : ∀ i x, (ls.flatMap C)[i]? = some x → ∃ v, w.cell? ⟨b, off + i, none⟩ = some v ∧ Den ρ0 w x v := fun i x hx => by
      obtain ⟨a, e1, e2⟩ := flat_at hC hs ls i x hx
      obtain ⟨-, cs', hc, hd⟩ := h2 _ _ e1
      obtain ⟨v, hv, hden⟩ := hd.2.at e2
      obtain ⟨-, -, hat⟩ := World.cells?_some hc
      have := hat (i % s) (Nat.mod_lt _ hs)
      rw [add_addr, add_addr] at this
      refine ⟨v, ?_, hden⟩
      rw [show off + i / s * s + i % s = off + i by rw [Nat.add_assoc, Nat.mul_comm, Nat.div_add_mod]] at this
      rw [this]; exact hv
    refine ⟨false, ls, fun a ha => ?_, by omega, CellsD.one ?_⟩
    · obtain ⟨i, hi, rfl⟩ := List.getElem_of_mem ha
      exact (h2 i _ (List.getElem?_eq_getElem hi)).1
    · rw [Den]
      refine ⟨_, cap, rfl, hl, nofun, nofun, fun _ => ⟨b, off, rfl, fun hne => ⟨?_, ρ0_free b⟩, DenL.of hcell⟩⟩
      obtain ⟨y, hy⟩ := List.exists_mem_of_ne_nil _ hne
      obtain ⟨i, hi', rfl⟩ := List.getElem_of_mem hy
      obtain ⟨v, hv, -⟩ := hcell i _ (List.getElem?_eq_getElem hi')
      unfold World.cell? at hv
      cases hb : w.heap[b]? with
      | none => simp [hb] at hv
      | some o => exact (Array.getElem?_eq_some_iff.1 hb).1

/-- A slice that was handed in lies at cells of its own. -/
theorem slice_spot {r : Reach} {t e : TypeId} (ht : P.underlying t = some (.slice e)) {a : Addr} {len cap : Nat} (h : Cell.okWide P w r base t (.slice (some a) len cap)) : a.spot = none := by
  simp only [Cell.okWide, Cell.ok, ht] at h
  exact h.2.2.2.1
end Go.Proofs.YtaekibilldjnmaaGreat
namespace Go.Proofs.YtaekibilldjnmaaGreat
open Go.Proofs
@[go_sem] theorem Tryz.sz0 : sizeT Tryz.prog 0 = some 1 := by kernel_rfl
@[go_sem] theorem Tryz.ag0 : aggT Tryz.prog 0 = some false := by kernel_rfl
@[go_sem] theorem Tryz.sz1 : sizeT Tryz.prog 1 = some 1 := by kernel_rfl
@[go_sem] theorem Tryz.ag1 : aggT Tryz.prog 1 = some false := by kernel_rfl
@[go_sem] theorem Tryz.sz2 : sizeT Tryz.prog 2 = some 1 := by kernel_rfl
@[go_sem] theorem Tryz.ag2 : aggT Tryz.prog 2 = some false := by kernel_rfl
@[go_sem] theorem Tryz.ze2 : zeroT Tryz.prog 2 = some [.int .i64 0] := by kernel_rfl
@[go_sem] theorem Tryz.sz3 : sizeT Tryz.prog 3 = some 1 := by kernel_rfl
@[go_sem] theorem Tryz.ag3 : aggT Tryz.prog 3 = some false := by kernel_rfl
@[go_sem] theorem Tryz.ze3 : zeroT Tryz.prog 3 = some [.int .i64 0] := by kernel_rfl
@[go_sem] theorem Tryz.sz4 : sizeT Tryz.prog 4 = some 1 := by kernel_rfl
@[go_sem] theorem Tryz.ag4 : aggT Tryz.prog 4 = some false := by kernel_rfl
@[go_sem] theorem Tryz.ze4 : zeroT Tryz.prog 4 = some [.bool false] := by kernel_rfl
@[go_sem] theorem Tryz.sz5 : sizeT Tryz.prog 5 = some 1 := by kernel_rfl
@[go_sem] theorem Tryz.ag5 : aggT Tryz.prog 5 = some false := by kernel_rfl
@[go_sem] theorem Tryz.ze5 : zeroT Tryz.prog 5 = some [.int .u8 0] := by kernel_rfl
@[go_sem] theorem Tryz.sz6 : sizeT Tryz.prog 6 = some 1 := by kernel_rfl
@[go_sem] theorem Tryz.ag6 : aggT Tryz.prog 6 = some false := by kernel_rfl
@[go_sem] theorem Tryz.ze6 : zeroT Tryz.prog 6 = some [.int .u8 0] := by kernel_rfl
@[go_sem] theorem Tryz.sz7 : sizeT Tryz.prog 7 = some 4 := by kernel_rfl
@[go_sem] theorem Tryz.ag7 : aggT Tryz.prog 7 = some true := by kernel_rfl
@[go_sem] theorem Tryz.ze7 : zeroT Tryz.prog 7 = some [.int .i64 0, .int .i64 0, .bool false, .int .u8 0] := by kernel_rfl
@[go_sem] theorem Tryz.fd7_0 : fieldO Tryz.prog 7 0 = some (2, 0) := by kernel_rfl
@[go_sem] theorem Tryz.fd7_1 : fieldO Tryz.prog 7 1 = some (3, 1) := by kernel_rfl
@[go_sem] theorem Tryz.fd7_2 : fieldO Tryz.prog 7 2 = some (4, 2) := by kernel_rfl
@[go_sem] theorem Tryz.fd7_3 : fieldO Tryz.prog 7 3 = some (6, 3) := by kernel_rfl
@[go_sem] theorem Tryz.sz8 : sizeT Tryz.prog 8 = some 4 := by kernel_rfl
@[go_sem] theorem Tryz.ag8 : aggT Tryz.prog 8 = some true := by kernel_rfl
@[go_sem] theorem Tryz.ze8 : zeroT Tryz.prog 8 = some [.int .i64 0, .int .i64 0, .bool false, .int .u8 0] := by kernel_rfl
@[go_sem] theorem Tryz.fd8_0 : fieldO Tryz.prog 8 0 = some (2, 0) := by kernel_rfl
@[go_sem] theorem Tryz.fd8_1 : fieldO Tryz.prog 8 1 = some (3, 1) := by kernel_rfl
@[go_sem] theorem Tryz.fd8_2 : fieldO Tryz.prog 8 2 = some (4, 2) := by kernel_rfl
@[go_sem] theorem Tryz.fd8_3 : fieldO Tryz.prog 8 3 = some (6, 3) := by kernel_rfl
@[go_sem] theorem Tryz.sz9 : sizeT Tryz.prog 9 = some 1 := by kernel_rfl
@[go_sem] theorem Tryz.ag9 : aggT Tryz.prog 9 = some false := by kernel_rfl
@[go_sem] theorem Tryz.sz10 : sizeT Tryz.prog 10 = some 1 := by kernel_rfl
@[go_sem] theorem Tryz.ag10 : aggT Tryz.prog 10 = some false := by kernel_rfl
@[go_sem] theorem Tryz.sz11 : sizeT Tryz.prog 11 = some 1 := by kernel_rfl
@[go_sem] theorem Tryz.ag11 : aggT Tryz.prog 11 = some false := by kernel_rfl
@[go_sem] theorem Tryz.sz12 : sizeT Tryz.prog 12 = some 1 := by kernel_rfl
@[go_sem] theorem Tryz.ag12 : aggT Tryz.prog 12 = some false := by kernel_rfl
@[go_sem] theorem Tryz.ze12 : zeroT Tryz.prog 12 = some [.int .u64 0] := by kernel_rfl
@[go_sem] theorem Tryz.sz13 : sizeT Tryz.prog 13 = some 2 := by kernel_rfl
@[go_sem] theorem Tryz.ag13 : aggT Tryz.prog 13 = some true := by kernel_rfl
@[go_sem] theorem Tryz.fd13_0 : fieldO Tryz.prog 13 0 = some (9, 0) := by kernel_rfl
@[go_sem] theorem Tryz.fd13_1 : fieldO Tryz.prog 13 1 = some (12, 1) := by kernel_rfl
@[go_sem] theorem Tryz.sz14 : sizeT Tryz.prog 14 = some 2 := by kernel_rfl
@[go_sem] theorem Tryz.ag14 : aggT Tryz.prog 14 = some true := by kernel_rfl
@[go_sem] theorem Tryz.fd14_0 : fieldO Tryz.prog 14 0 = some (9, 0) := by kernel_rfl
@[go_sem] theorem Tryz.fd14_1 : fieldO Tryz.prog 14 1 = some (12, 1) := by kernel_rfl
@[go_sem] theorem Tryz.sz15 : sizeT Tryz.prog 15 = some 1 := by kernel_rfl
@[go_sem] theorem Tryz.ag15 : aggT Tryz.prog 15 = some false := by kernel_rfl
@[go_sem] theorem Tryz.ze15 : zeroT Tryz.prog 15 = some [.nilp] := by kernel_rfl
@[go_sem] theorem Tryz.sz16 : sizeT Tryz.prog 16 = some 1 := by kernel_rfl
@[go_sem] theorem Tryz.ag16 : aggT Tryz.prog 16 = some false := by kernel_rfl
@[go_sem] theorem Tryz.ze16 : zeroT Tryz.prog 16 = some [.nilp] := by kernel_rfl
@[go_sem] theorem Tryz.sz17 : sizeT Tryz.prog 17 = some 1 := by kernel_rfl
@[go_sem] theorem Tryz.ag17 : aggT Tryz.prog 17 = some false := by kernel_rfl
@[go_sem] theorem Tryz.ze17 : zeroT Tryz.prog 17 = some [.nilp] := by kernel_rfl
@[go_sem] theorem Tryz.sz18 : sizeT Tryz.prog 18 = some 1 := by kernel_rfl
@[go_sem] theorem Tryz.ag18 : aggT Tryz.prog 18 = some true := by kernel_rfl
@[go_sem] theorem Tryz.ze18 : zeroT Tryz.prog 18 = some [.nilp] := by kernel_rfl
@[go_sem] theorem Tryz.fd18_0 : fieldO Tryz.prog 18 0 = some (17, 0) := by kernel_rfl
@[go_sem] theorem Tryz.sz19 : sizeT Tryz.prog 19 = some 1 := by kernel_rfl
@[go_sem] theorem Tryz.ag19 : aggT Tryz.prog 19 = some true := by kernel_rfl
@[go_sem] theorem Tryz.ze19 : zeroT Tryz.prog 19 = some [.nilp] := by kernel_rfl
@[go_sem] theorem Tryz.fd19_0 : fieldO Tryz.prog 19 0 = some (17, 0) := by kernel_rfl
@[go_sem] theorem Tryz.sz20 : sizeT Tryz.prog 20 = some 1 := by kernel_rfl
@[go_sem] theorem Tryz.ag20 : aggT Tryz.prog 20 = some false := by kernel_rfl
@[go_sem] theorem Tryz.sz21 : sizeT Tryz.prog 21 = some 1 := by kernel_rfl
@[go_sem] theorem Tryz.ag21 : aggT Tryz.prog 21 = some false := by kernel_rfl
@[go_sem] theorem Tryz.ze21 : zeroT Tryz.prog 21 = some [.int .i32 0] := by kernel_rfl
@[go_sem] theorem Tryz.sz22 : sizeT Tryz.prog 22 = some 6 := by kernel_rfl
@[go_sem] theorem Tryz.ag22 : aggT Tryz.prog 22 = some true := by kernel_rfl
@[go_sem] theorem Tryz.ze22 : zeroT Tryz.prog 22 = some [.int .u8 0, .int .u8 0, .int .u8 0, .int .u8 0, .int .u8 0, .int .u8 0] := by kernel_rfl
@[go_sem] theorem Tryz.sz23 : sizeT Tryz.prog 23 = some 1 := by kernel_rfl
@[go_sem] theorem Tryz.ag23 : aggT Tryz.prog 23 = some false := by kernel_rfl
@[go_sem] theorem Tryz.ze23 : zeroT Tryz.prog 23 = some [.sl true true 0 []] := by kernel_rfl
@[go_sem] theorem Tryz.sz24 : sizeT Tryz.prog 24 = some 3 := by kernel_rfl
@[go_sem] theorem Tryz.ag24 : aggT Tryz.prog 24 = some true := by kernel_rfl
@[go_sem] theorem Tryz.ze24 : zeroT Tryz.prog 24 = some [.int .u8 0, .int .u8 0, .int .u8 0] := by kernel_rfl
@[go_sem] theorem Tryz.sz25 : sizeT Tryz.prog 25 = some 10 := by kernel_rfl
@[go_sem] theorem Tryz.ag25 : aggT Tryz.prog 25 = some true := by kernel_rfl
@[go_sem] theorem Tryz.ze25 : zeroT Tryz.prog 25 = some [.int .u8 0, .int .u8 0, .int .u8 0, .int .u8 0, .int .u8 0, .int .u8 0, .sl true true 0 [], .int .u8 0, .int .u8 0, .int .u8 0] := by kernel_rfl
@[go_sem] theorem Tryz.fd25_0 : fieldO Tryz.prog 25 0 = some (22, 0) := by kernel_rfl
@[go_sem] theorem Tryz.fd25_1 : fieldO Tryz.prog 25 1 = some (23, 6) := by kernel_rfl
@[go_sem] theorem Tryz.fd25_2 : fieldO Tryz.prog 25 2 = some (24, 7) := by kernel_rfl
@[go_sem] theorem Tryz.sz26 : sizeT Tryz.prog 26 = some 10 := by kernel_rfl
@[go_sem] theorem Tryz.ag26 : aggT Tryz.prog 26 = some true := by kernel_rfl
@[go_sem] theorem Tryz.ze26 : zeroT Tryz.prog 26 = some [.int .u8 0, .int .u8 0, .int .u8 0, .int .u8 0, .int .u8 0, .int .u8 0, .sl true true 0 [], .int .u8 0, .int .u8 0, .int .u8 0] := by kernel_rfl
@[go_sem] theorem Tryz.fd26_0 : fieldO Tryz.prog 26 0 = some (22, 0) := by kernel_rfl
@[go_sem] theorem Tryz.fd26_1 : fieldO Tryz.prog 26 1 = some (23, 6) := by kernel_rfl
@[go_sem] theorem Tryz.fd26_2 : fieldO Tryz.prog 26 2 = some (24, 7) := by kernel_rfl
@[go_sem] theorem Tryz.sz27 : sizeT Tryz.prog 27 = some 1 := by kernel_rfl
@[go_sem] theorem Tryz.ag27 : aggT Tryz.prog 27 = some false := by kernel_rfl
@[go_sem] theorem Tryz.ze27 : zeroT Tryz.prog 27 = some [.sl true true 0 []] := by kernel_rfl
@[go_sem] theorem Tryz.sz28 : sizeT Tryz.prog 28 = some 2 := by kernel_rfl
@[go_sem] theorem Tryz.ag28 : aggT Tryz.prog 28 = some true := by kernel_rfl
@[go_sem] theorem Tryz.ze28 : zeroT Tryz.prog 28 = some [.sl true true 0 [], .sl true true 0 []] := by kernel_rfl
@[go_sem] theorem Tryz.sz29 : sizeT Tryz.prog 29 = some 1 := by kernel_rfl
@[go_sem] theorem Tryz.ag29 : aggT Tryz.prog 29 = some false := by kernel_rfl
@[go_sem] theorem Tryz.ze29 : zeroT Tryz.prog 29 = some [.sl true true 0 []] := by kernel_rfl
@[go_sem] theorem Tryz.sz30 : sizeT Tryz.prog 30 = some 1 := by kernel_rfl
@[go_sem] theorem Tryz.ag30 : aggT Tryz.prog 30 = some false := by kernel_rfl
@[go_sem] theorem Tryz.ze30 : zeroT Tryz.prog 30 = some [.sl true true 0 []] := by kernel_rfl
@[go_sem] theorem Tryz.sz31 : sizeT Tryz.prog 31 = some 5 := by kernel_rfl
@[go_sem] theorem Tryz.ag31 : aggT Tryz.prog 31 = some true := by kernel_rfl
@[go_sem] theorem Tryz.ze31 : zeroT Tryz.prog 31 = some [.sl true true 0 [], .sl true true 0 [], .int .i64 0, .int .i64 0, .int .i64 0] := by kernel_rfl
@[go_sem] theorem Tryz.fd31_0 : fieldO Tryz.prog 31 0 = some (29, 0) := by kernel_rfl
@[go_sem] theorem Tryz.fd31_1 : fieldO Tryz.prog 31 1 = some (30, 1) := by kernel_rfl
@[go_sem] theorem Tryz.fd31_2 : fieldO Tryz.prog 31 2 = some (3, 2) := by kernel_rfl
@[go_sem] theorem Tryz.fd31_3 : fieldO Tryz.prog 31 3 = some (3, 3) := by kernel_rfl
@[go_sem] theorem Tryz.fd31_4 : fieldO Tryz.prog 31 4 = some (3, 4) := by kernel_rfl
@[go_sem] theorem Tryz.sz32 : sizeT Tryz.prog 32 = some 5 := by kernel_rfl
@[go_sem] theorem Tryz.ag32 : aggT Tryz.prog 32 = some true := by kernel_rfl
@[go_sem] theorem Tryz.ze32 : zeroT Tryz.prog 32 = some [.sl true true 0 [], .sl true true 0 [], .int .i64 0, .int .i64 0, .int .i64 0] := by kernel_rfl
@[go_sem] theorem Tryz.fd32_0 : fieldO Tryz.prog 32 0 = some (29, 0) := by kernel_rfl
@[go_sem] theorem Tryz.fd32_1 : fieldO Tryz.prog 32 1 = some (30, 1) := by kernel_rfl
@[go_sem] theorem Tryz.fd32_2 : fieldO Tryz.prog 32 2 = some (3, 2) := by kernel_rfl
@[go_sem] theorem Tryz.fd32_3 : fieldO Tryz.prog 32 3 = some (3, 3) := by kernel_rfl
@[go_sem] theorem Tryz.fd32_4 : fieldO Tryz.prog 32 4 = some (3, 4) := by kernel_rfl
@[go_sem] theorem Tryz.sz33 : sizeT Tryz.prog 33 = some 1 := by kernel_rfl
@[go_sem] theorem Tryz.ag33 : aggT Tryz.prog 33 = some false := by kernel_rfl
@[go_sem] theorem Tryz.sz34 : sizeT Tryz.prog 34 = some 1 := by kernel_rfl
@[go_sem] theorem Tryz.ag34 : aggT Tryz.prog 34 = some false := by kernel_rfl
@[go_sem] theorem Tryz.sz35 : sizeT Tryz.prog 35 = some 1 := by kernel_rfl
@[go_sem] theorem Tryz.ag35 : aggT Tryz.prog 35 = some false := by kernel_rfl
@[go_sem] theorem Tryz.ze35 : zeroT Tryz.prog 35 = some [.int .i64 0] := by kernel_rfl
@[go_sem] theorem Tryz.sz36 : sizeT Tryz.prog 36 = some 1 := by kernel_rfl
@[go_sem] theorem Tryz.ag36 : aggT Tryz.prog 36 = some false := by kernel_rfl
@[go_sem] theorem Tryz.sz37 : sizeT Tryz.prog 37 = some 1 := by kernel_rfl
@[go_sem] theorem Tryz.ag37 : aggT Tryz.prog 37 = some false := by kernel_rfl
@[go_sem] theorem Tryz.sz38 : sizeT Tryz.prog 38 = some 1 := by kernel_rfl
@[go_sem] theorem Tryz.ag38 : aggT Tryz.prog 38 = some false := by kernel_rfl
@[go_sem] theorem Tryz.sz39 : sizeT Tryz.prog 39 = some 1 := by kernel_rfl
@[go_sem] theorem Tryz.ag39 : aggT Tryz.prog 39 = some false := by kernel_rfl
@[go_sem] theorem Tryz.sz40 : sizeT Tryz.prog 40 = some 1 := by kernel_rfl
@[go_sem] theorem Tryz.ag40 : aggT Tryz.prog 40 = some false := by kernel_rfl
@[go_sem] theorem Tryz.sz41 : sizeT Tryz.prog 41 = some 1 := by kernel_rfl
@[go_sem] theorem Tryz.ag41 : aggT Tryz.prog 41 = some false := by kernel_rfl
@[go_sem] theorem Tryz.sz42 : sizeT Tryz.prog 42 = some 1 := by kernel_rfl
@[go_sem] theorem Tryz.ag42 : aggT Tryz.prog 42 = some false := by kernel_rfl
@[go_sem] theorem Tryz.sz43 : sizeT Tryz.prog 43 = some 1 := by kernel_rfl
@[go_sem] theorem Tryz.ag43 : aggT Tryz.prog 43 = some false := by kernel_rfl
@[go_sem] theorem Tryz.sz44 : sizeT Tryz.prog 44 = some 1 := by kernel_rfl
@[go_sem] theorem Tryz.ag44 : aggT Tryz.prog 44 = some false := by kernel_rfl
@[go_sem] theorem Tryz.sz45 : sizeT Tryz.prog 45 = some 1 := by kernel_rfl
@[go_sem] theorem Tryz.ag45 : aggT Tryz.prog 45 = some false := by kernel_rfl
@[go_sem] theorem Tryz.sz46 : sizeT Tryz.prog 46 = some 1 := by kernel_rfl
@[go_sem] theorem Tryz.ag46 : aggT Tryz.prog 46 = some false := by kernel_rfl
@[go_sem] theorem Tryz.sz47 : sizeT Tryz.prog 47 = some 1 := by kernel_rfl
@[go_sem] theorem Tryz.ag47 : aggT Tryz.prog 47 = some false := by kernel_rfl
@[go_sem] theorem Tryz.sz48 : sizeT Tryz.prog 48 = some 1 := by kernel_rfl
@[go_sem] theorem Tryz.ag48 : aggT Tryz.prog 48 = some false := by kernel_rfl
@[go_sem] theorem Tryz.sz49 : sizeT Tryz.prog 49 = some 1 := by kernel_rfl
@[go_sem] theorem Tryz.ag49 : aggT Tryz.prog 49 = some false := by kernel_rfl
@[go_sem] theorem Tryz.sz50 : sizeT Tryz.prog 50 = some 4 := by kernel_rfl
@[go_sem] theorem Tryz.ag50 : aggT Tryz.prog 50 = some true := by kernel_rfl
@[go_sem] theorem Tryz.ze50 : zeroT Tryz.prog 50 = some [.int .u8 0, .int .u8 0, .int .u8 0, .int .u8 0] := by kernel_rfl
@[go_sem] theorem Tryz.sz51 : sizeT Tryz.prog 51 = some 1 := by kernel_rfl
@[go_sem] theorem Tryz.ag51 : aggT Tryz.prog 51 = some false := by kernel_rfl
@[go_sem] theorem Tryz.sz52 : sizeT Tryz.prog 52 = some 1 := by kernel_rfl
@[go_sem] theorem Tryz.ag52 : aggT Tryz.prog 52 = some false := by kernel_rfl
@[go_sem] theorem Tryz.sz53 : sizeT Tryz.prog 53 = some 1 := by kernel_rfl
@[go_sem] theorem Tryz.ag53 : aggT Tryz.prog 53 = some false := by kernel_rfl
@[go_sem] theorem Tryz.sz54 : sizeT Tryz.prog 54 = some 1 := by kernel_rfl
@[go_sem] theorem Tryz.ag54 : aggT Tryz.prog 54 = some false := by kernel_rfl
@[go_sem] theorem Tryz.sz55 : sizeT Tryz.prog 55 = some 1 := by kernel_rfl
@[go_sem] theorem Tryz.ag55 : aggT Tryz.prog 55 = some false := by kernel_rfl
@[go_sem] theorem Tryz.sz56 : sizeT Tryz.prog 56 = some 1 := by kernel_rfl
@[go_sem] theorem Tryz.ag56 : aggT Tryz.prog 56 = some false := by kernel_rfl
@[go_sem] theorem Tryz.sz57 : sizeT Tryz.prog 57 = some 1 := by kernel_rfl
@[go_sem] theorem Tryz.ag57 : aggT Tryz.prog 57 = some false := by kernel_rfl
@[go_sem] theorem Tryz.sz58 : sizeT Tryz.prog 58 = some 1 := by kernel_rfl
@[go_sem] theorem Tryz.ag58 : aggT Tryz.prog 58 = some false := by kernel_rfl
@[go_sem] theorem Tryz.ze58 : zeroT Tryz.prog 58 = some [.sl true true 0 []] := by kernel_rfl
@[go_sem] theorem Tryz.sz59 : sizeT Tryz.prog 59 = some 2 := by kernel_rfl
@[go_sem] theorem Tryz.ag59 : aggT Tryz.prog 59 = some true := by kernel_rfl
@[go_sem] theorem Tryz.ze59 : zeroT Tryz.prog 59 = some [.int .u8 0, .int .u8 0] := by kernel_rfl
@[go_sem] theorem Tryz.sz60 : sizeT Tryz.prog 60 = some 1 := by kernel_rfl
@[go_sem] theorem Tryz.ag60 : aggT Tryz.prog 60 = some false := by kernel_rfl
@[go_sem] theorem Tryz.ze60 : zeroT Tryz.prog 60 = some [.sl true true 0 []] := by kernel_rfl
@[go_sem] theorem Tryz.sz61 : sizeT Tryz.prog 61 = some 1 := by kernel_rfl
@[go_sem] theorem Tryz.ag61 : aggT Tryz.prog 61 = some false := by kernel_rfl
@[go_sem] theorem Tryz.sz62 : sizeT Tryz.prog 62 = some 1 := by kernel_rfl
@[go_sem] theorem Tryz.ag62 : aggT Tryz.prog 62 = some false := by kernel_rfl
@[go_sem] theorem Tryz.sz63 : sizeT Tryz.prog 63 = some 1 := by kernel_rfl
@[go_sem] theorem Tryz.ag63 : aggT Tryz.prog 63 = some false := by kernel_rfl
@[go_sem] theorem Tryz.sz64 : sizeT Tryz.prog 64 = some 1 := by kernel_rfl
@[go_sem] theorem Tryz.ag64 : aggT Tryz.prog 64 = some false := by kernel_rfl
@[go_sem] theorem Tryz.sz65 : sizeT Tryz.prog 65 = some 1 := by kernel_rfl
@[go_sem] theorem Tryz.ag65 : aggT Tryz.prog 65 = some false := by kernel_rfl
@[go_sem] theorem Tryz.ze65 : zeroT Tryz.prog 65 = some [.int .u64 0] := by kernel_rfl
@[go_sem] theorem Tryz.sz66 : sizeT Tryz.prog 66 = some 1 := by kernel_rfl
@[go_sem] theorem Tryz.ag66 : aggT Tryz.prog 66 = some false := by kernel_rfl
@[go_sem] theorem Tryz.sz67 : sizeT Tryz.prog 67 = some 1 := by kernel_rfl
@[go_sem] theorem Tryz.ag67 : aggT Tryz.prog 67 = some false := by kernel_rfl
@[go_sem] theorem Tryz.sz68 : sizeT Tryz.prog 68 = some 6 := by kernel_rfl
@[go_sem] theorem Tryz.ag68 : aggT Tryz.prog 68 = some true := by kernel_rfl
@[go_sem] theorem Tryz.ze68 : zeroT Tryz.prog 68 = some [.bool false, .bool false, .bool false, .bool false, .bool false, .bool false] := by kernel_rfl
@[go_sem] theorem Tryz.sz69 : sizeT Tryz.prog 69 = some 1 := by kernel_rfl
@[go_sem] theorem Tryz.ag69 : aggT Tryz.prog 69 = some false := by kernel_rfl
@[go_sem] theorem Tryz.sz70 : sizeT Tryz.prog 70 = some 6 := by kernel_rfl
@[go_sem] theorem Tryz.ag70 : aggT Tryz.prog 70 = some true := by kernel_rfl
@[go_sem] theorem Tryz.ze70 : zeroT Tryz.prog 70 = some [.int .u8 0, .int .u8 0, .int .u8 0, .int .u8 0, .int .u8 0, .int .u8 0] := by kernel_rfl
@[go_sem] theorem Tryz.sz71 : sizeT Tryz.prog 71 = some 1 := by kernel_rfl
@[go_sem] theorem Tryz.ag71 : aggT Tryz.prog 71 = some false := by kernel_rfl
@[go_sem] theorem Tryz.sz72 : sizeT Tryz.prog 72 = some 1 := by kernel_rfl
@[go_sem] theorem Tryz.ag72 : aggT Tryz.prog 72 = some false := by kernel_rfl
@[go_sem] theorem Tryz.sz73 : sizeT Tryz.prog 73 = some 3 := by kernel_rfl
@[go_sem] theorem Tryz.ag73 : aggT Tryz.prog 73 = some true := by kernel_rfl
@[go_sem] theorem Tryz.ze73 : zeroT Tryz.prog 73 = some [.int .i64 0, .int .i64 0, .int .i64 0] := by kernel_rfl
@[go_sem] theorem Tryz.fd73_0 : fieldO Tryz.prog 73 0 = some (3, 0) := by kernel_rfl
@[go_sem] theorem Tryz.fd73_1 : fieldO Tryz.prog 73 1 = some (3, 1) := by kernel_rfl
@[go_sem] theorem Tryz.fd73_2 : fieldO Tryz.prog 73 2 = some (3, 2) := by kernel_rfl
@[go_sem] theorem Tryz.sz74 : sizeT Tryz.prog 74 = some 3 := by kernel_rfl
@[go_sem] theorem Tryz.ag74 : aggT Tryz.prog 74 = some true := by kernel_rfl
@[go_sem] theorem Tryz.ze74 : zeroT Tryz.prog 74 = some [.int .i64 0, .int .i64 0, .int .i64 0] := by kernel_rfl
@[go_sem] theorem Tryz.fd74_0 : fieldO Tryz.prog 74 0 = some (3, 0) := by kernel_rfl
@[go_sem] theorem Tryz.fd74_1 : fieldO Tryz.prog 74 1 = some (3, 1) := by kernel_rfl
@[go_sem] theorem Tryz.fd74_2 : fieldO Tryz.prog 74 2 = some (3, 2) := by kernel_rfl
@[go_sem] theorem Tryz.sz75 : sizeT Tryz.prog 75 = some 1 := by kernel_rfl
@[go_sem] theorem Tryz.ag75 : aggT Tryz.prog 75 = some false := by kernel_rfl
@[go_sem] theorem Tryz.sz76 : sizeT Tryz.prog 76 = some 1 := by kernel_rfl
@[go_sem] theorem Tryz.ag76 : aggT Tryz.prog 76 = some false := by kernel_rfl
@[go_sem] theorem Tryz.ze76 : zeroT Tryz.prog 76 = some [.nilm] := by kernel_rfl
@[go_sem] theorem Tryz.sz77 : sizeT Tryz.prog 77 = some 6 := by kernel_rfl
@[go_sem] theorem Tryz.ag77 : aggT Tryz.prog 77 = some true := by kernel_rfl
@[go_sem] theorem Tryz.ze77 : zeroT Tryz.prog 77 = some [.sl true true 0 [], .sl true true 0 [], .int .i64 0, .int .i64 0, .int .i64 0, .nilm] := by kernel_rfl
@[go_sem] theorem Tryz.fd77_0 : fieldO Tryz.prog 77 0 = some (32, 0) := by kernel_rfl
@[go_sem] theorem Tryz.fd77_1 : fieldO Tryz.prog 77 1 = some (76, 5) := by kernel_rfl
@[go_sem] theorem Tryz.sz78 : sizeT Tryz.prog 78 = some 6 := by kernel_rfl
@[go_sem] theorem Tryz.ag78 : aggT Tryz.prog 78 = some true := by kernel_rfl
@[go_sem] theorem Tryz.ze78 : zeroT Tryz.prog 78 = some [.sl true true 0 [], .sl true true 0 [], .int .i64 0, .int .i64 0, .int .i64 0, .nilm] := by kernel_rfl
@[go_sem] theorem Tryz.fd78_0 : fieldO Tryz.prog 78 0 = some (32, 0) := by kernel_rfl
@[go_sem] theorem Tryz.fd78_1 : fieldO Tryz.prog 78 1 = some (76, 5) := by kernel_rfl
@[go_sem] theorem Tryz.sz79 : sizeT Tryz.prog 79 = some 1 := by kernel_rfl
@[go_sem] theorem Tryz.ag79 : aggT Tryz.prog 79 = some false := by kernel_rfl
@[go_sem] theorem Tryz.sz80 : sizeT Tryz.prog 80 = some 1 := by kernel_rfl
@[go_sem] theorem Tryz.ag80 : aggT Tryz.prog 80 = some false := by kernel_rfl
@[go_sem] theorem Tryz.sz81 : sizeT Tryz.prog 81 = some 1 := by kernel_rfl
@[go_sem] theorem Tryz.ag81 : aggT Tryz.prog 81 = some false := by kernel_rfl
@[go_sem] theorem Tryz.sz82 : sizeT Tryz.prog 82 = some 1 := by kernel_rfl
@[go_sem] theorem Tryz.ag82 : aggT Tryz.prog 82 = some false := by kernel_rfl
@[go_sem] theorem Tryz.sz83 : sizeT Tryz.prog 83 = some 1 := by kernel_rfl
@[go_sem] theorem Tryz.ag83 : aggT Tryz.prog 83 = some false := by kernel_rfl
@[go_sem] theorem Tryz.sz84 : sizeT Tryz.prog 84 = some 1 := by kernel_rfl
@[go_sem] theorem Tryz.ag84 : aggT Tryz.prog 84 = some false := by kernel_rfl
@[go_sem] theorem Tryz.sz85 : sizeT Tryz.prog 85 = some 1 := by kernel_rfl
@[go_sem] theorem Tryz.ag85 : aggT Tryz.prog 85 = some false := by kernel_rfl
@[go_sem] theorem Tryz.sz86 : sizeT Tryz.prog 86 = some 2 := by kernel_rfl
@[go_sem] theorem Tryz.ag86 : aggT Tryz.prog 86 = some true := by kernel_rfl
@[go_sem] theorem Tryz.ze86 : zeroT Tryz.prog 86 = some [.int .i64 0, .int .i64 0] := by kernel_rfl
@[go_sem] theorem Tryz.fd86_0 : fieldO Tryz.prog 86 0 = some (3, 0) := by kernel_rfl
@[go_sem] theorem Tryz.fd86_1 : fieldO Tryz.prog 86 1 = some (3, 1) := by kernel_rfl
@[go_sem] theorem Tryz.sz87 : sizeT Tryz.prog 87 = some 2 := by kernel_rfl
@[go_sem] theorem Tryz.ag87 : aggT Tryz.prog 87 = some true := by kernel_rfl
@[go_sem] theorem Tryz.ze87 : zeroT Tryz.prog 87 = some [.int .i64 0, .int .i64 0] := by kernel_rfl
@[go_sem] theorem Tryz.fd87_0 : fieldO Tryz.prog 87 0 = some (3, 0) := by kernel_rfl
@[go_sem] theorem Tryz.fd87_1 : fieldO Tryz.prog 87 1 = some (3, 1) := by kernel_rfl
@[go_sem] theorem Tryz.sz88 : sizeT Tryz.prog 88 = some 1 := by kernel_rfl
@[go_sem] theorem Tryz.ag88 : aggT Tryz.prog 88 = some false := by kernel_rfl
@[go_sem] theorem Tryz.sz89 : sizeT Tryz.prog 89 = some 1 := by kernel_rfl
@[go_sem] theorem Tryz.ag89 : aggT Tryz.prog 89 = some false := by kernel_rfl
@[go_sem] theorem Tryz.sz90 : sizeT Tryz.prog 90 = some 1 := by kernel_rfl
@[go_sem] theorem Tryz.ag90 : aggT Tryz.prog 90 = some false := by kernel_rfl
@[go_sem] theorem Tryz.sz91 : sizeT Tryz.prog 91 = some 1 := by kernel_rfl
@[go_sem] theorem Tryz.ag91 : aggT Tryz.prog 91 = some false := by kernel_rfl
@[go_sem] theorem Tryz.sz92 : sizeT Tryz.prog 92 = some 1 := by kernel_rfl
@[go_sem] theorem Tryz.ag92 : aggT Tryz.prog 92 = some false := by kernel_rfl
@[go_sem] theorem Tryz.sz93 : sizeT Tryz.prog 93 = some 1 := by kernel_rfl
@[go_sem] theorem Tryz.ag93 : aggT Tryz.prog 93 = some false := by kernel_rfl
@[go_sem] theorem Tryz.sz94 : sizeT Tryz.prog 94 = some 1 := by kernel_rfl
@[go_sem] theorem Tryz.ag94 : aggT Tryz.prog 94 = some false := by kernel_rfl
@[go_sem] theorem Tryz.sz95 : sizeT Tryz.prog 95 = some 1 := by kernel_rfl
@[go_sem] theorem Tryz.ag95 : aggT Tryz.prog 95 = some false := by kernel_rfl
@[go_sem] theorem Tryz.sz96 : sizeT Tryz.prog 96 = some 1 := by kernel_rfl
@[go_sem] theorem Tryz.ag96 : aggT Tryz.prog 96 = some false := by kernel_rfl
@[go_sem] theorem Tryz.sz97 : sizeT Tryz.prog 97 = some 1 := by kernel_rfl
@[go_sem] theorem Tryz.ag97 : aggT Tryz.prog 97 = some false := by kernel_rfl
@[go_sem] theorem Tryz.sz98 : sizeT Tryz.prog 98 = some 1 := by kernel_rfl
@[go_sem] theorem Tryz.ag98 : aggT Tryz.prog 98 = some false := by kernel_rfl
@[go_sem] theorem Tryz.sz99 : sizeT Tryz.prog 99 = some 1 := by kernel_rfl
@[go_sem] theorem Tryz.ag99 : aggT Tryz.prog 99 = some false := by kernel_rfl
@[go_sem] theorem Tryz.sz100 : sizeT Tryz.prog 100 = some 1 := by kernel_rfl
@[go_sem] theorem Tryz.ag100 : aggT Tryz.prog 100 = some false := by kernel_rfl
@[go_sem] theorem Tryz.sz101 : sizeT Tryz.prog 101 = some 1 := by kernel_rfl
@[go_sem] theorem Tryz.ag101 : aggT Tryz.prog 101 = some false := by kernel_rfl
@[go_sem] theorem Tryz.sz102 : sizeT Tryz.prog 102 = some 1 := by kernel_rfl
@[go_sem] theorem Tryz.ag102 : aggT Tryz.prog 102 = some false := by kernel_rfl
@[go_sem] theorem Tryz.sz103 : sizeT Tryz.prog 103 = some 1 := by kernel_rfl
@[go_sem] theorem Tryz.ag103 : aggT Tryz.prog 103 = some false := by kernel_rfl
@[go_sem] theorem Tryz.sz104 : sizeT Tryz.prog 104 = some 1 := by kernel_rfl
@[go_sem] theorem Tryz.ag104 : aggT Tryz.prog 104 = some false := by kernel_rfl
@[go_sem] theorem Tryz.sz105 : sizeT Tryz.prog 105 = some 1 := by kernel_rfl
@[go_sem] theorem Tryz.ag105 : aggT Tryz.prog 105 = some false := by kernel_rfl
@[go_sem] theorem Tryz.sz106 : sizeT Tryz.prog 106 = some 2 := by kernel_rfl
@[go_sem] theorem Tryz.ag106 : aggT Tryz.prog 106 = some true := by kernel_rfl
@[go_sem] theorem Tryz.ze106 : zeroT Tryz.prog 106 = some [.int .i64 0, .int .i64 0] := by kernel_rfl
@[go_sem] theorem Tryz.sz107 : sizeT Tryz.prog 107 = some 1 := by kernel_rfl
@[go_sem] theorem Tryz.ag107 : aggT Tryz.prog 107 = some false := by kernel_rfl
@[go_sem] theorem Tryz.sz108 : sizeT Tryz.prog 108 = some 1 := by kernel_rfl
@[go_sem] theorem Tryz.ag108 : aggT Tryz.prog 108 = some false := by kernel_rfl
@[go_sem] theorem Tryz.sz109 : sizeT Tryz.prog 109 = some 1 := by kernel_rfl
@[go_sem] theorem Tryz.ag109 : aggT Tryz.prog 109 = some false := by kernel_rfl
@[go_sem] theorem Tryz.sz110 : sizeT Tryz.prog 110 = some 1 := by kernel_rfl
@[go_sem] theorem Tryz.ag110 : aggT Tryz.prog 110 = some false := by kernel_rfl
@[go_sem] theorem Tryz.sz111 : sizeT Tryz.prog 111 = some 9 := by kernel_rfl
@[go_sem] theorem Tryz.ag111 : aggT Tryz.prog 111 = some true := by kernel_rfl
@[go_sem] theorem Tryz.ze111 : zeroT Tryz.prog 111 = some [.sl true true 0 [], .sl true true 0 [], .int .i64 0, .int .i64 0, .int .i64 0, .nilm, .sl true true 0 [], .int .i64 0, .int .i64 0] := by kernel_rfl
@[go_sem] theorem Tryz.fd111_0 : fieldO Tryz.prog 111 0 = some (78, 0) := by kernel_rfl
@[go_sem] theorem Tryz.fd111_1 : fieldO Tryz.prog 111 1 = some (29, 6) := by kernel_rfl
@[go_sem] theorem Tryz.fd111_2 : fieldO Tryz.prog 111 2 = some (87, 7) := by kernel_rfl
@[go_sem] theorem Tryz.sz112 : sizeT Tryz.prog 112 = some 9 := by kernel_rfl
@[go_sem] theorem Tryz.ag112 : aggT Tryz.prog 112 = some true := by kernel_rfl
@[go_sem] theorem Tryz.ze112 : zeroT Tryz.prog 112 = some [.sl true true 0 [], .sl true true 0 [], .int .i64 0, .int .i64 0, .int .i64 0, .nilm, .sl true true 0 [], .int .i64 0, .int .i64 0] := by kernel_rfl
@[go_sem] theorem Tryz.fd112_0 : fieldO Tryz.prog 112 0 = some (78, 0) := by kernel_rfl
@[go_sem] theorem Tryz.fd112_1 : fieldO Tryz.prog 112 1 = some (29, 6) := by kernel_rfl
@[go_sem] theorem Tryz.fd112_2 : fieldO Tryz.prog 112 2 = some (87, 7) := by kernel_rfl
@[go_sem] theorem Tryz.sz113 : sizeT Tryz.prog 113 = some 1 := by kernel_rfl
@[go_sem] theorem Tryz.ag113 : aggT Tryz.prog 113 = some false := by kernel_rfl
@[go_sem] theorem Tryz.sz114 : sizeT Tryz.prog 114 = some 1 := by kernel_rfl
@[go_sem] theorem Tryz.ag114 : aggT Tryz.prog 114 = some false := by kernel_rfl
@[go_sem] theorem Tryz.sz115 : sizeT Tryz.prog 115 = some 1 := by kernel_rfl
@[go_sem] theorem Tryz.ag115 : aggT Tryz.prog 115 = some false := by kernel_rfl
@[go_sem] theorem Tryz.sz116 : sizeT Tryz.prog 116 = some 1 := by kernel_rfl
@[go_sem] theorem Tryz.ag116 : aggT Tryz.prog 116 = some false := by kernel_rfl
@[go_sem] theorem Tryz.sz117 : sizeT Tryz.prog 117 = some 1 := by kernel_rfl
@[go_sem] theorem Tryz.ag117 : aggT Tryz.prog 117 = some false := by kernel_rfl
@[go_sem] theorem Tryz.sz118 : sizeT Tryz.prog 118 = some 1 := by kernel_rfl
@[go_sem] theorem Tryz.ag118 : aggT Tryz.prog 118 = some false := by kernel_rfl
@[go_sem] theorem Tryz.sz119 : sizeT Tryz.prog 119 = some 1 := by kernel_rfl
@[go_sem] theorem Tryz.ag119 : aggT Tryz.prog 119 = some false := by kernel_rfl
@[go_sem] theorem Tryz.sz120 : sizeT Tryz.prog 120 = some 1 := by kernel_rfl
@[go_sem] theorem Tryz.ag120 : aggT Tryz.prog 120 = some false := by kernel_rfl
@[go_sem] theorem Tryz.sz121 : sizeT Tryz.prog 121 = some 1 := by kernel_rfl
@[go_sem] theorem Tryz.ag121 : aggT Tryz.prog 121 = some false := by kernel_rfl
@[go_sem] theorem Tryz.sz122 : sizeT Tryz.prog 122 = some 1 := by kernel_rfl
@[go_sem] theorem Tryz.ag122 : aggT Tryz.prog 122 = some false := by kernel_rfl
@[go_sem] theorem Tryz.sz123 : sizeT Tryz.prog 123 = some 1 := by kernel_rfl
@[go_sem] theorem Tryz.ag123 : aggT Tryz.prog 123 = some false := by kernel_rfl
@[go_sem] theorem Tryz.sz124 : sizeT Tryz.prog 124 = some 1 := by kernel_rfl
@[go_sem] theorem Tryz.ag124 : aggT Tryz.prog 124 = some false := by kernel_rfl
@[go_sem] theorem Tryz.sz125 : sizeT Tryz.prog 125 = some 1 := by kernel_rfl
@[go_sem] theorem Tryz.ag125 : aggT Tryz.prog 125 = some false := by kernel_rfl
@[go_sem] theorem Tryz.sz126 : sizeT Tryz.prog 126 = some 1 := by kernel_rfl
@[go_sem] theorem Tryz.ag126 : aggT Tryz.prog 126 = some false := by kernel_rfl
@[go_sem] theorem Tryz.sz127 : sizeT Tryz.prog 127 = some 1 := by kernel_rfl
@[go_sem] theorem Tryz.ag127 : aggT Tryz.prog 127 = some false := by kernel_rfl
@[go_sem] theorem Tryz.sz128 : sizeT Tryz.prog 128 = some 1 := by kernel_rfl
@[go_sem] theorem Tryz.ag128 : aggT Tryz.prog 128 = some false := by kernel_rfl
@[go_sem] theorem Tryz.sz129 : sizeT Tryz.prog 129 = some 1 := by kernel_rfl
@[go_sem] theorem Tryz.ag129 : aggT Tryz.prog 129 = some false := by kernel_rfl
@[go_sem] theorem Tryz.sz130 : sizeT Tryz.prog 130 = some 1 := by kernel_rfl
@[go_sem] theorem Tryz.ag130 : aggT Tryz.prog 130 = some false := by kernel_rfl
@[go_sem] theorem Tryz.sz131 : sizeT Tryz.prog 131 = some 1 := by kernel_rfl
@[go_sem] theorem Tryz.ag131 : aggT Tryz.prog 131 = some false := by kernel_rfl
@[go_sem] theorem Tryz.sz132 : sizeT Tryz.prog 132 = some 1 := by kernel_rfl
@[go_sem] theorem Tryz.ag132 : aggT Tryz.prog 132 = some false := by kernel_rfl
@[go_sem] theorem Tryz.sz133 : sizeT Tryz.prog 133 = some 1 := by kernel_rfl
@[go_sem] theorem Tryz.ag133 : aggT Tryz.prog 133 = some false := by kernel_rfl
@[go_sem] theorem Tryz.sz134 : sizeT Tryz.prog 134 = some 1 := by kernel_rfl
@[go_sem] theorem Tryz.ag134 : aggT Tryz.prog 134 = some false := by kernel_rfl
@[go_sem] theorem Tryz.sz135 : sizeT Tryz.prog 135 = some 1 := by kernel_rfl
@[go_sem] theorem Tryz.ag135 : aggT Tryz.prog 135 = some false := by kernel_rfl
@[go_sem] theorem Tryz.sz136 : sizeT Tryz.prog 136 = some 1 := by kernel_rfl
@[go_sem] theorem Tryz.ag136 : aggT Tryz.prog 136 = some false := by kernel_rfl
@[go_sem] theorem Tryz.sz137 : sizeT Tryz.prog 137 = some 1 := by kernel_rfl
@[go_sem] theorem Tryz.ag137 : aggT Tryz.prog 137 = some false := by kernel_rfl
@[go_sem] theorem Tryz.sz138 : sizeT Tryz.prog 138 = some 1 := by kernel_rfl
@[go_sem] theorem Tryz.ag138 : aggT Tryz.prog 138 = some false := by kernel_rfl
@[go_sem] theorem Tryz.sz139 : sizeT Tryz.prog 139 = some 1 := by kernel_rfl
@[go_sem] theorem Tryz.ag139 : aggT Tryz.prog 139 = some false := by kernel_rfl
@[go_sem] theorem Tryz.sz140 : sizeT Tryz.prog 140 = some 1 := by kernel_rfl
@[go_sem] theorem Tryz.ag140 : aggT Tryz.prog 140 = some false := by kernel_rfl
@[go_sem] theorem Tryz.sz141 : sizeT Tryz.prog 141 = some 1 := by kernel_rfl
@[go_sem] theorem Tryz.ag141 : aggT Tryz.prog 141 = some false := by kernel_rfl
@[go_sem] theorem Tryz.sz142 : sizeT Tryz.prog 142 = some 1 := by kernel_rfl
@[go_sem] theorem Tryz.ag142 : aggT Tryz.prog 142 = some false := by kernel_rfl
@[go_sem] theorem Tryz.sz143 : sizeT Tryz.prog 143 = some 1 := by kernel_rfl
@[go_sem] theorem Tryz.ag143 : aggT Tryz.prog 143 = some false := by kernel_rfl
@[go_sem] theorem Tryz.sz144 : sizeT Tryz.prog 144 = some 1 := by kernel_rfl
@[go_sem] theorem Tryz.ag144 : aggT Tryz.prog 144 = some false := by kernel_rfl
@[go_sem] theorem Tryz.sz145 : sizeT Tryz.prog 145 = some 1 := by kernel_rfl
@[go_sem] theorem Tryz.ag145 : aggT Tryz.prog 145 = some false := by kernel_rfl
@[go_sem] theorem Tryz.sz146 : sizeT Tryz.prog 146 = some 1 := by kernel_rfl
@[go_sem] theorem Tryz.ag146 : aggT Tryz.prog 146 = some false := by kernel_rfl
@[go_sem] theorem Tryz.sz147 : sizeT Tryz.prog 147 = some 1 := by kernel_rfl
@[go_sem] theorem Tryz.ag147 : aggT Tryz.prog 147 = some false := by kernel_rfl
@[go_sem] theorem Tryz.sz148 : sizeT Tryz.prog 148 = some 4 := by kernel_rfl
@[go_sem] theorem Tryz.ag148 : aggT Tryz.prog 148 = some true := by kernel_rfl
@[go_sem] theorem Tryz.fd148_0 : fieldO Tryz.prog 148 0 = some (17, 0) := by kernel_rfl
@[go_sem] theorem Tryz.fd148_1 : fieldO Tryz.prog 148 1 = some (17, 1) := by kernel_rfl
@[go_sem] theorem Tryz.fd148_2 : fieldO Tryz.prog 148 2 = some (17, 2) := by kernel_rfl
@[go_sem] theorem Tryz.fd148_3 : fieldO Tryz.prog 148 3 = some (9, 3) := by kernel_rfl
@[go_sem] theorem Tryz.sz149 : sizeT Tryz.prog 149 = some 4 := by kernel_rfl
@[go_sem] theorem Tryz.ag149 : aggT Tryz.prog 149 = some true := by kernel_rfl
@[go_sem] theorem Tryz.fd149_0 : fieldO Tryz.prog 149 0 = some (17, 0) := by kernel_rfl
@[go_sem] theorem Tryz.fd149_1 : fieldO Tryz.prog 149 1 = some (17, 1) := by kernel_rfl
@[go_sem] theorem Tryz.fd149_2 : fieldO Tryz.prog 149 2 = some (17, 2) := by kernel_rfl
@[go_sem] theorem Tryz.fd149_3 : fieldO Tryz.prog 149 3 = some (9, 3) := by kernel_rfl
@[go_sem] theorem Tryz.sz150 : sizeT Tryz.prog 150 = some 0 := by kernel_rfl
@[go_sem] theorem Tryz.ag150 : aggT Tryz.prog 150 = some true := by kernel_rfl
@[go_sem] theorem Tryz.ze150 : zeroT Tryz.prog 150 = some [] := by kernel_rfl
@[go_sem] theorem Tryz.sz151 : sizeT Tryz.prog 151 = some 0 := by kernel_rfl
@[go_sem] theorem Tryz.ag151 : aggT Tryz.prog 151 = some true := by kernel_rfl
@[go_sem] theorem Tryz.ze151 : zeroT Tryz.prog 151 = some [] := by kernel_rfl
@[go_sem] theorem Tryz.fd151_0 : fieldO Tryz.prog 151 0 = some (150, 0) := by kernel_rfl
@[go_sem] theorem Tryz.sz152 : sizeT Tryz.prog 152 = some 0 := by kernel_rfl
@[go_sem] theorem Tryz.ag152 : aggT Tryz.prog 152 = some true := by kernel_rfl
@[go_sem] theorem Tryz.ze152 : zeroT Tryz.prog 152 = some [] := by kernel_rfl
@[go_sem] theorem Tryz.fd152_0 : fieldO Tryz.prog 152 0 = some (150, 0) := by kernel_rfl
@[go_sem] theorem Tryz.sz153 : sizeT Tryz.prog 153 = some 1 := by kernel_rfl
@[go_sem] theorem Tryz.ag153 : aggT Tryz.prog 153 = some false := by kernel_rfl
@[go_sem] theorem Tryz.sz154 : sizeT Tryz.prog 154 = some 1 := by kernel_rfl
@[go_sem] theorem Tryz.ag154 : aggT Tryz.prog 154 = some false := by kernel_rfl
@[go_sem] theorem Tryz.ze154 : zeroT Tryz.prog 154 = some [.int .u32 0] := by kernel_rfl
@[go_sem] theorem Tryz.sz155 : sizeT Tryz.prog 155 = some 1 := by kernel_rfl
@[go_sem] theorem Tryz.ag155 : aggT Tryz.prog 155 = some false := by kernel_rfl
@[go_sem] theorem Tryz.ze155 : zeroT Tryz.prog 155 = some [.int .u8 0] := by kernel_rfl
@[go_sem] theorem Tryz.sz156 : sizeT Tryz.prog 156 = some 1 := by kernel_rfl
@[go_sem] theorem Tryz.ag156 : aggT Tryz.prog 156 = some false := by kernel_rfl
@[go_sem] theorem Tryz.ze156 : zeroT Tryz.prog 156 = some [.int .u8 0] := by kernel_rfl
@[go_sem] theorem Tryz.sz157 : sizeT Tryz.prog 157 = some 1 := by kernel_rfl
@[go_sem] theorem Tryz.ag157 : aggT Tryz.prog 157 = some false := by kernel_rfl
@[go_sem] theorem Tryz.sz158 : sizeT Tryz.prog 158 = some 1 := by kernel_rfl
@[go_sem] theorem Tryz.ag158 : aggT Tryz.prog 158 = some false := by kernel_rfl
@[go_sem] theorem Tryz.ze158 : zeroT Tryz.prog 158 = some [.nilp] := by kernel_rfl
@[go_sem] theorem Tryz.sz159 : sizeT Tryz.prog 159 = some 1 := by kernel_rfl
@[go_sem] theorem Tryz.ag159 : aggT Tryz.prog 159 = some false := by kernel_rfl
@[go_sem] theorem Tryz.ze159 : zeroT Tryz.prog 159 = some [.int .i32 0] := by kernel_rfl
@[go_sem] theorem Tryz.sz160 : sizeT Tryz.prog 160 = some 1 := by kernel_rfl
@[go_sem] theorem Tryz.ag160 : aggT Tryz.prog 160 = some false := by kernel_rfl
@[go_sem] theorem Tryz.ze160 : zeroT Tryz.prog 160 = some [.int .i32 0] := by kernel_rfl
@[go_sem] theorem Tryz.sz161 : sizeT Tryz.prog 161 = some 11 := by kernel_rfl
@[go_sem] theorem Tryz.ag161 : aggT Tryz.prog 161 = some true := by kernel_rfl
@[go_sem] theorem Tryz.ze161 : zeroT Tryz.prog 161 = some [.int .u64 0, .int .u64 0, .int .u32 0, .int .u8 0, .int .u8 0, .int .u8 0, .int .u8 0, .nilf, .nilp, .int .i32 0, .int .i32 0] := by kernel_rfl
@[go_sem] theorem Tryz.fd161_0 : fieldO Tryz.prog 161 0 = some (12, 0) := by kernel_rfl
@[go_sem] theorem Tryz.fd161_1 : fieldO Tryz.prog 161 1 = some (12, 1) := by kernel_rfl
@[go_sem] theorem Tryz.fd161_2 : fieldO Tryz.prog 161 2 = some (154, 2) := by kernel_rfl
@[go_sem] theorem Tryz.fd161_3 : fieldO Tryz.prog 161 3 = some (155, 3) := by kernel_rfl
@[go_sem] theorem Tryz.fd161_4 : fieldO Tryz.prog 161 4 = some (5, 4) := by kernel_rfl
@[go_sem] theorem Tryz.fd161_5 : fieldO Tryz.prog 161 5 = some (5, 5) := by kernel_rfl
@[go_sem] theorem Tryz.fd161_6 : fieldO Tryz.prog 161 6 = some (156, 6) := by kernel_rfl
@[go_sem] theorem Tryz.fd161_7 : fieldO Tryz.prog 161 7 = some (157, 7) := by kernel_rfl
@[go_sem] theorem Tryz.fd161_8 : fieldO Tryz.prog 161 8 = some (158, 8) := by kernel_rfl
@[go_sem] theorem Tryz.fd161_9 : fieldO Tryz.prog 161 9 = some (159, 9) := by kernel_rfl
@[go_sem] theorem Tryz.fd161_10 : fieldO Tryz.prog 161 10 = some (160, 10) := by kernel_rfl
@[go_sem] theorem Tryz.sz162 : sizeT Tryz.prog 162 = some 11 := by kernel_rfl
@[go_sem] theorem Tryz.ag162 : aggT Tryz.prog 162 = some true := by kernel_rfl
@[go_sem] theorem Tryz.ze162 : zeroT Tryz.prog 162 = some [.int .u64 0, .int .u64 0, .int .u32 0, .int .u8 0, .int .u8 0, .int .u8 0, .int .u8 0, .nilf, .nilp, .int .i32 0, .int .i32 0] := by kernel_rfl
@[go_sem] theorem Tryz.fd162_0 : fieldO Tryz.prog 162 0 = some (12, 0) := by kernel_rfl
@[go_sem] theorem Tryz.fd162_1 : fieldO Tryz.prog 162 1 = some (12, 1) := by kernel_rfl
@[go_sem] theorem Tryz.fd162_2 : fieldO Tryz.prog 162 2 = some (154, 2) := by kernel_rfl
@[go_sem] theorem Tryz.fd162_3 : fieldO Tryz.prog 162 3 = some (155, 3) := by kernel_rfl
@[go_sem] theorem Tryz.fd162_4 : fieldO Tryz.prog 162 4 = some (5, 4) := by kernel_rfl
@[go_sem] theorem Tryz.fd162_5 : fieldO Tryz.prog 162 5 = some (5, 5) := by kernel_rfl
@[go_sem] theorem Tryz.fd162_6 : fieldO Tryz.prog 162 6 = some (156, 6) := by kernel_rfl
@[go_sem] theorem Tryz.fd162_7 : fieldO Tryz.prog 162 7 = some (157, 7) := by kernel_rfl
@[go_sem] theorem Tryz.fd162_8 : fieldO Tryz.prog 162 8 = some (158, 8) := by kernel_rfl
@[go_sem] theorem Tryz.fd162_9 : fieldO Tryz.prog 162 9 = some (159, 9) := by kernel_rfl
@[go_sem] theorem Tryz.fd162_10 : fieldO Tryz.prog 162 10 = some (160, 10) := by kernel_rfl
@[go_sem] theorem Tryz.sz163 : sizeT Tryz.prog 163 = some 1 := by kernel_rfl
@[go_sem] theorem Tryz.ag163 : aggT Tryz.prog 163 = some false := by kernel_rfl
@[go_sem] theorem Tryz.ze163 : zeroT Tryz.prog 163 = some [.nilp] := by kernel_rfl
theorem Tryz.el23 {n : Nat} (h : n * 2 ≤ 140737488355328) : Elem Tryz.prog 23 59 2 n := Elem.of Tryz.underlying23 (z := .agg #[.int .u8 0, .int .u8 0]) (bytes := 2) (by kernel_rfl) rfl h (by omega)
theorem Tryz.el27 {n : Nat} (h : n * 1 ≤ 140737488355328) : Elem Tryz.prog 27 5 1 n := Elem.of Tryz.underlying27 (z := .int .u8 0) (bytes := 1) (by kernel_rfl) rfl h (by omega)
theorem Tryz.el29 {n : Nat} (h : n * 8 ≤ 140737488355328) : Elem Tryz.prog 29 3 1 n := Elem.of Tryz.underlying29 (z := .int .i64 0) (bytes := 8) (by kernel_rfl) rfl h (by omega)
theorem Tryz.el30 {n : Nat} (h : n * 24 ≤ 140737488355328) : Elem Tryz.prog 30 74 3 n := Elem.of Tryz.underlying30 (z := .agg #[.int .i64 0, .int .i64 0, .int .i64 0]) (bytes := 24) (by kernel_rfl) rfl h (by omega)
theorem Tryz.el58 {n : Nat} (h : n * 24 ≤ 140737488355328) : Elem Tryz.prog 58 27 1 n := Elem.of Tryz.underlying58 (z := .slice none 0 0) (bytes := 24) (by kernel_rfl) rfl h (by omega)
theorem Tryz.el60 {n : Nat} (h : n * 24 ≤ 140737488355328) : Elem Tryz.prog 60 29 1 n := Elem.of Tryz.underlying60 (z := .slice none 0 0) (bytes := 24) (by kernel_rfl) rfl h (by omega)
attribute [go_sem] Tryz.underlying0 Tryz.underlying1 Tryz.underlying2 Tryz.underlying3 Tryz.underlying4 Tryz.underlying5 Tryz.underlying6 Tryz.underlying7 Tryz.underlying8 Tryz.underlying9 Tryz.underlying10 Tryz.underlying11 Tryz.underlying12 Tryz.underlying13 Tryz.underlying14 Tryz.underlying15 Tryz.underlying16 Tryz.underlying17 Tryz.underlying18 Tryz.underlying19 Tryz.underlying20 Tryz.underlying21 Tryz.underlying22 Tryz.underlying23 Tryz.underlying24 Tryz.underlying25 Tryz.underlying26 Tryz.underlying27 Tryz.underlying28 Tryz.underlying29 Tryz.underlying30 Tryz.underlying31 Tryz.underlying32 Tryz.underlying33 Tryz.underlying34 Tryz.underlying35 Tryz.underlying36 Tryz.underlying37 Tryz.underlying38 Tryz.underlying39 Tryz.underlying40 Tryz.underlying41 Tryz.underlying42 Tryz.underlying43 Tryz.underlying44 Tryz.underlying45 Tryz.underlying46 Tryz.underlying47 Tryz.underlying48 Tryz.underlying49 Tryz.underlying50 Tryz.underlying51 Tryz.underlying52 Tryz.underlying53 Tryz.underlying54 Tryz.underlying55 Tryz.underlying56 Tryz.underlying57 Tryz.underlying58 Tryz.underlying59 Tryz.underlying60 Tryz.underlying61 Tryz.underlying62 Tryz.underlying63 Tryz.underlying64 Tryz.underlying65 Tryz.underlying66 Tryz.underlying67 Tryz.underlying68 Tryz.underlying69 Tryz.underlying70 Tryz.underlying71 Tryz.underlying72 Tryz.underlying73 Tryz.underlying74 Tryz.underlying75 Tryz.underlying76 Tryz.underlying77 Tryz.underlying78 Tryz.underlying79 Tryz.underlying80 Tryz.underlying81 Tryz.underlying82 Tryz.underlying83 Tryz.underlying84 Tryz.underlying85 Tryz.underlying86 Tryz.underlying87 Tryz.underlying88 Tryz.underlying89 Tryz.underlying90 Tryz.underlying91 Tryz.underlying92 Tryz.underlying93 Tryz.underlying94 Tryz.underlying95 Tryz.underlying96 Tryz.underlying97 Tryz.underlying98 Tryz.underlying99 Tryz.underlying100 Tryz.underlying101 Tryz.underlying102 Tryz.underlying103 Tryz.underlying104 Tryz.underlying105 Tryz.underlying106 Tryz.underlying107 Tryz.underlying108 Tryz.underlying109 Tryz.underlying110 Tryz.underlying111 Tryz.underlying112 Tryz.underlying113 Tryz.underlying114 Tryz.underlying115 Tryz.underlying116 Tryz.underlying117 Tryz.underlying118 Tryz.underlying119 Tryz.underlying120 Tryz.underlying121 Tryz.underlying122 Tryz.underlying123 Tryz.underlying124 Tryz.underlying125 Tryz.underlying126 Tryz.underlying127 Tryz.underlying128 Tryz.underlying129 Tryz.underlying130 Tryz.underlying131 Tryz.underlying132 Tryz.underlying133 Tryz.underlying134 Tryz.underlying135 Tryz.underlying136 Tryz.underlying137 Tryz.underlying138 Tryz.underlying139 Tryz.underlying140 Tryz.underlying141 Tryz.underlying142 Tryz.underlying143 Tryz.underlying144 Tryz.underlying145 Tryz.underlying146 Tryz.underlying147 Tryz.underlying148 Tryz.underlying149 Tryz.underlying150 Tryz.underlying151 Tryz.underlying152 Tryz.underlying153 Tryz.underlying154 Tryz.underlying155 Tryz.underlying156 Tryz.underlying157 Tryz.underlying158 Tryz.underlying159 Tryz.underlying160 Tryz.underlying161 Tryz.underlying162 Tryz.underlying163
attribute [go_sem] if_true if_false beq_self_eq_true Nat.zero_add Nat.add_zero and_self and_true true_and Bool.and_true Bool.true_and Bool.and_self Bool.and_false Bool.false_and Bool.not_true Bool.not_false decide_true decide_false Nat.le_refl Nat.sub_self Nat.sub_zero Nat.mul_one Nat.zero_le Nat.zero_mul List.drop_zero
theorem Tryz.mixed : Tryz.prog.follows .mixedOrders = true := by kernel_rfl
end Go.Proofs.YtaekibilldjnmaaGreat
namespace Go.Proofs.YtaekibilldjnmaaGreat
variable {P : Program} {H : Hp}

def orderL (l : List Oper) : Bool :=
  (List.range l.length).all fun i => (List.range l.length).all fun j =>
    (i == j || dstAt l i == none || dstAt l i != dstAt l j) &&
    (match l[i]? with
     | some o => (readsOf l o).all (fun t => dstAt l j != some t || o.after.toList.any (fun e => Region.binds .any e && e.on == j) || (match l[j]? with | some o' => o'.after.toList.any (fun e => Region.binds .any e && e.on == i) | none => false)) && (match o.op with | .defer _ => false | .select .. => false | _ => true)
     | none => true)
theorem orderL_lt {l : List Oper} {j : Nat} {d : Tmp} (hj : dstAt l j = some d) : j < l.length := by
  by_cases e : j < l.length
  · exact e
  · simp [dstAt, List.getElem?_eq_none (Nat.le_of_not_lt e)] at hj
theorem orderL_dst {l : List Oper} (h : orderL l = true) {i j : Nat} {d : Tmp} (hi : dstAt l i = some d) (hj : dstAt l j = some d) : i = j := by
  unfold orderL at h
  rw [List.all_eq_true] at h
  have h1 := h i (by simpa using orderL_lt hi)
  rw [List.all_eq_true] at h1
  have h2 := h1 j (by simpa using orderL_lt hj)
  rw [Bool.and_eq_true] at h2
  have h3 := h2.1
  rw [hi, hj] at h3
  simpa using h3
theorem orderL_at {l : List Oper} (h : orderL l = true) {i : Nat} {o : Oper} (hi : l[i]? = some o) :
    (∀ j t, t ∈ readsOf l o → dstAt l j = some t → (∃ e ∈ o.after, Region.binds .any e = true ∧ e.on = j) ∨ ∃ o', l[j]? = some o' ∧ ∃ e ∈ o'.after, Region.binds .any e = true ∧ e.on = i) ∧ (∀ c, o.op ≠ .defer c) ∧ (∀ cs b, o.op ≠ .select cs b) := by
  have hil : i < l.length := (List.getElem?_eq_some_iff.1 hi).1
  unfold orderL at h
  rw [List.all_eq_true] at h
  have h1 := h i (by simpa using hil)
  rw [List.all_eq_true] at h1
  refine ⟨fun j t ht hj => ?_, fun c hc => ?_, fun cs b hc => ?_⟩
  · have hjl := orderL_lt hj
    have h2 := h1 j (by simpa using hjl)
    rw [Bool.and_eq_true, hi] at h2
    have h3 := h2.2
    simp only [Bool.and_eq_true] at h3
    have h4 := List.all_eq_true.1 h3.1 t ht
    rw [hj] at h4
    simp only [bne_self_eq_false, Bool.false_or, Bool.or_eq_true] at h4
    rcases h4 with h4 | h4
    · obtain ⟨e, he, h5⟩ := List.any_eq_true.1 h4
      simp only [Bool.and_eq_true, beq_iff_eq] at h5
      exact .inl ⟨e, Array.mem_toList_iff.1 he, h5⟩
    · rw [List.getElem?_eq_getElem hjl] at h4
      obtain ⟨e, he, h5⟩ := List.any_eq_true.1 h4
      simp only [Bool.and_eq_true, beq_iff_eq] at h5
      exact .inr ⟨_, List.getElem?_eq_getElem hjl, e, Array.mem_toList_iff.1 he, h5⟩
  · have h2 := h1 i (by simpa using hil)
    rw [Bool.and_eq_true, hi] at h2
    have h3 := h2.2
    simp only [Bool.and_eq_true] at h3
    rw [hc] at h3
    exact absurd h3.2 (by simp)
  · have h2 := h1 i (by simpa using hil)
    rw [Bool.and_eq_true, hi] at h2
    have h3 := h2.2
    simp only [Bool.and_eq_true] at h3
    rw [hc] at h3
    exact absurd h3.2 (by simp)

def LexC (P : Program) (N : Nat) (ops : Array Oper) (H : Hp) (isn : Nat → Bool) (Hs : (Nat → Nat) → (Nat → Bool) → Hp) (Q : (Nat → Nat) → Fr → Prop) : Nat → List Oper → ((Nat → Nat) → Fr) → Prop
  | _, [], fr => ∀ ids, (∀ j, H (ids j) = none) → (∀ j k, isn j = true → isn k = true → j ≠ k → ids j ≠ ids k) → Q ids (fr ids)
  | i, o :: l, fr => (o.dst.all (· < N)) = true ∧ Oper.calm o = true ∧
    (((∀ ids, guardOf ops (fr ids) o = some true) ∧ ∃ X : (Nat → Nat) → AV, (∀ ids ids', (∀ j ∈ bindsOn o, ids j = ids' j) → X ids = X ids') ∧ (∀ ids b, Good ops H isn o i ids b → OpW P o (fr ids).ev (Hs ids b) (fun x' H' => x' = X ids ∧ H' = Hs ids (upd b i))) ∧ LexC P N ops H isn Hs Q (i + 1) l (fun ids => (fr ids).put o.dst (X ids))) ∨
     ((∀ ids, guardOf ops (fr ids) o = some false) ∧ (∀ ids b, Good ops H isn o i ids b → Hs ids (upd b i) = Hs ids b) ∧ LexC P N ops H isn Hs Q (i + 1) l (fun ids => (fr ids).put o.dst (.tup []))) ∨
     (isn i = true ∧ (∀ ids, guardOf ops (fr ids) o = some true) ∧ ∃ (X : Nat → AV) (ob : Ob), (∀ ids b, Good ops H isn o i ids b → OpW P o (fr ids).ev (Hs ids b) (fun x' H' => ∃ id, (Hs ids b) id = none ∧ x' = X id ∧ H' = (Hs ids b).set id (some ob))) ∧
       (∀ ids b, Good ops H isn o i ids b → (Hs ids b) (ids i) = none → Hs ids (upd b i) = (Hs ids b).set (ids i) (some ob)) ∧ LexC P N ops H isn Hs Q (i + 1) l (fun ids => (fr ids).put o.dst (X (ids i)))))

def valsC (ids : Nat → Nat) (_ : Nat) (ks : List ((Nat → Nat) → AV)) : List AV := ks.map fun k => k ids
theorem valsC_length (ids : Nat → Nat) (ks : List ((Nat → Nat) → AV)) (j : Nat) : (valsC ids j ks).length = ks.length := by simp [valsC]
theorem valsC_get (ids : Nat → Nat) (ks : List ((Nat → Nat) → AV)) (s j : Nat) : (valsC ids s ks)[j]? = (ks[j]?).map fun k => k ids := by simp [valsC]

structure LexCAt (P : Program) (N : Nat) (ops : Array Oper) (H : Hp) (isn : Nat → Bool) (Hs : (Nat → Nat) → (Nat → Bool) → Hp) (i : Nat) (o : Oper) (fr : (Nat → Nat) → Fr) (k : (Nat → Nat) → AV) : Prop where
  dep : ∀ ids ids', (∀ j, j ∈ bindsOn o ∨ j = i → ids j = ids' j) → k ids = k ids'
  lt : (o.dst.all (· < N)) = true
  calm : Oper.calm o = true
  does : ((∀ ids, guardOf ops (fr ids) o = some true) ∧ ∀ ids b, Good ops H isn o i ids b → OpW P o (fr ids).ev (Hs ids b) (fun x' H' => x' = k ids ∧ H' = Hs ids (upd b i))) ∨
    ((∀ ids, guardOf ops (fr ids) o = some false) ∧ (k = fun _ => .tup []) ∧ ∀ ids b, Good ops H isn o i ids b → Hs ids (upd b i) = Hs ids b) ∨
    (isn i = true ∧ (∀ ids, guardOf ops (fr ids) o = some true) ∧ ∃ (ob : Ob) (X : Nat → AV), (k = fun ids => X (ids i)) ∧ (∀ ids b, Good ops H isn o i ids b → OpW P o (fr ids).ev (Hs ids b) (fun x' H' => ∃ id, (Hs ids b) id = none ∧ x' = X id ∧ H' = (Hs ids b).set id (some ob))) ∧
      ∀ ids b, Good ops H isn o i ids b → (Hs ids b) (ids i) = none → Hs ids (upd b i) = (Hs ids b).set (ids i) (some ob))

theorem LexC.out {N : Nat} {ops : Array Oper} {isn : Nat → Bool} {Hs : (Nat → Nat) → (Nat → Bool) → Hp} {Q : (Nat → Nat) → Fr → Prop} : ∀ (l : List Oper) (s : Nat) (fr : (Nat → Nat) → Fr), LexC P N ops H isn Hs Q s l fr → ∃ ks : List ((Nat → Nat) → AV), ks.length = l.length ∧
    (∀ ids, (∀ j, H (ids j) = none) → (∀ j k, isn j = true → isn k = true → j ≠ k → ids j ≠ ids k) → Q ids (putsA l (valsC ids s ks) (fr ids))) ∧
    ∀ (i : Nat) (o : Oper) (k : (Nat → Nat) → AV), l[i]? = some o → ks[i]? = some k → LexCAt P N ops H isn Hs (s + i) o (fun ids => putsA (l.take i) ((valsC ids s ks).take i) (fr ids)) k
  | [], s, fr, h => ⟨[], rfl, h, fun i o x h => by simp at h⟩
  | o :: l, s, fr, ⟨hN, hc, h⟩ => by
    rcases h with ⟨hg, X, hdp, hx, h⟩ | ⟨hg, hn, h⟩ | ⟨hisn, hg, X, ob, hop, hn, h⟩
    · obtain ⟨ks, h1, h2, h3⟩ := LexC.out l _ _ h
      refine ⟨X :: ks, by simp [h1], h2, fun i o' y ho hy => ?_⟩
      cases i with
      | zero =>
        simp only [List.getElem?_cons_zero, Option.some.injEq] at ho hy
        subst ho hy
        exact ⟨fun ids ids' h => hdp ids ids' fun j hj => h j (.inl hj), hN, hc, .inl ⟨hg, hx⟩⟩
      | succ i => rw [show s + (i + 1) = s + 1 + i by omega]; exact h3 i o' y (by simpa using ho) (by simpa using hy)
    · obtain ⟨ks, h1, h2, h3⟩ := LexC.out l _ _ h
      refine ⟨(fun _ => .tup []) :: ks, by simp [h1], h2, fun i o' y ho hy => ?_⟩
      cases i with
      | zero =>
        simp only [List.getElem?_cons_zero, Option.some.injEq] at ho hy
        subst ho hy
        exact ⟨fun _ _ _ => rfl, hN, hc, .inr (.inl ⟨hg, rfl, hn⟩)⟩
      | succ i => rw [show s + (i + 1) = s + 1 + i by omega]; exact h3 i o' y (by simpa using ho) (by simpa using hy)
    · obtain ⟨ks, h1, h2, h3⟩ := LexC.out l _ _ h
      refine ⟨(fun ids => X (ids s)) :: ks, by simp [h1], h2, fun i o' y ho hy => ?_⟩
      cases i with
      | zero =>
        simp only [List.getElem?_cons_zero, Option.some.injEq] at ho hy
        subst ho hy
        exact ⟨fun ids ids' h => congrArg X (h _ (.inr rfl)), hN, hc, .inr (.inr ⟨hisn, hg, ob, X, rfl, hop, hn⟩)⟩
      | succ i => rw [show s + (i + 1) = s + 1 + i by omega]; exact h3 i o' y (by simpa using ho) (by simpa using hy)

structure CInv (l : List Oper) (N : Nat) (ks : List ((Nat → Nat) → AV)) (fr : Fr) (ρ0 : Own) (W0 : World) (H : Hp) (isn : Nat → Bool) (Hs : (Nat → Nat) → (Nat → Bool) → Hp) (ds : List Deferred) (listed : Array Bool) (b : Act) (W : World) : Prop where
  size : listed.size = l.length
  tmps : b.tmps.size = N
  defs : b.defers = ds
  closed : ∀ (k : Nat) (o : Oper), l[k]? = some o → listed[k]? = some true → ∀ j ∈ bindsOn o, listed[j]? = some true
  st : ∃ ρ ids, Ext ρ0 W0 ρ W ∧ ((∀ j, H (ids j) = none) ∧ ∀ j k, isn j = true → isn k = true → j ≠ k → ids j ≠ ids k) ∧ HD ρ W (Hs ids (bOf listed)) ∧ (∀ t x, fr.get t = some x → (∀ j, dstAt l j = some t → listed[j]? ≠ some true) → ∃ v, b.tmps[t]? = some v ∧ Den ρ W x v) ∧
    (∀ j x d, listed[j]? = some true → (valsC ids 0 ks)[j]? = some x → dstAt l j = some d → ∃ v, b.tmps[d]? = some v ∧ Den ρ W x v)

theorem WpV.regionC {r : Option Nat} {N id : Nat} {l : List Oper} {Q : Exit → Fr → List Nat → Hp → Prop} {fr : Fr} {D : List Nat} (hm : P.follows .mixedOrders = true) (hB : orderL l = true) (hK : backB l = true)
    (isn : Nat → Bool) (Hs : (Nat → Nat) → (Nat → Bool) → Hp) (hH0 : ∀ ids, Hs ids (fun _ => false) = H) (hind : ∀ ids ids' b, (∀ j, isn j = true → b j = true → ids j = ids' j) → Hs ids b = Hs ids' b) (hmade : ∀ ids b j, isn j = true → b j = true → Hs ids b (ids j) ≠ none) (hmono : ∀ ids b id, (∀ j, H (ids j) = none) → Hs ids b id = none → H id = none)
    (h : LexC P N l.toArray H isn Hs (fun ids fr' => Marks D (Hs ids (fun j => decide (j < l.length))) ∧ Q .normal fr' D (Hs ids (fun j => decide (j < l.length)))) 0 l (fun _ => fr)) : WpV P r N (.region id l.toArray true) Q fr D H := by
  intro r ρ0 W0 a hr0 hs0 hf0 hd0
  obtain ⟨ks, hkl, hQ, hat⟩ := LexC.out l 0 _ h
  refine wpIn_region_any hm ?_
  have inv : ∀ (fuel : Nat) (listed : Array Bool) (b : Act) (W : World), listed.toList.count false = fuel → CInv l N ks fr ρ0 W0 H isn Hs a.defers listed b W →
      wpAnyIn (Fw r) 0 P .any l.toArray (fun e a' W' => ∃ ρ' fr' D' H', Ext ρ0 W0 ρ' W' ∧ Sim N fr' ρ' W' a' ∧ Defs ρ' D' a'.defers ∧ HD ρ' W' H' ∧ Q e fr' D' H') fuel listed b W := by
    intro fuel
    induction fuel with
    | zero =>
      intro listed b W hc hi
      have hall : ∀ j, j < l.length → listed[j]? = some true := by
        intro j hj
        rw [← hi.size] at hj
        cases e : listed[j] with
        | true => rw [Array.getElem?_eq_getElem hj, e]
        | false =>
          have : false ∈ listed.toList := by rw [← e]; exact Array.getElem_mem_toList hj
          have := List.count_pos_iff.2 this
          omega
      refine ⟨?_, ?_⟩
      · cases hr : Region.ready .any l.toArray listed with
        | nil => rfl
        | cons x xs =>
          have hx : x ∈ Region.ready .any l.toArray listed := by rw [hr]; simp
          obtain ⟨h1, o, ho, -⟩ := mem_ready.1 hx
          have h2 := getD_false h1
          rw [hall x (by rw [← hi.size]; exact (Array.getElem?_eq_some_iff.1 h2).1)] at h2
          cases h2
      · obtain ⟨ρ, ids, q, hfr, hd, hold, hnew⟩ := hi.st
        have hbo : bOf listed = fun j => decide (j < l.length) := by
          funext j
          by_cases hj : j < l.length
          · simp only [bOf, Array.getD_eq_getD_getElem?, hall j hj, Option.getD_some, hj, decide_true]
          · simp only [bOf, Array.getD_eq_getD_getElem?, hj, decide_false]
            rw [Array.getElem?_eq_none (by rw [hi.size]; omega)]; rfl
        rw [hbo] at hd
        obtain ⟨hmk, hq⟩ := hQ ids hfr.1 hfr.2
        refine ⟨ρ, _, D, _, q, ⟨hi.tmps, fun t x hx => ?_⟩, by rw [hi.defs]; exact Defs.of_marks q hd hmk hf0, hd, hq⟩
        by_cases e : ∃ j, dstAt l j = some t
        · obtain ⟨j, hj⟩ := e
          have hjl : j < l.length := by
            by_cases e : j < l.length
            · exact e
            · simp [dstAt, List.getElem?_eq_none (Nat.le_of_not_lt e)] at hj
          have hvl : j < (valsC ids 0 ks).length := by rw [valsC_length]; omega
          have hxj : (valsC ids 0 ks)[j]? = some (valsC ids 0 ks)[j] := List.getElem?_eq_getElem hvl
          rw [putsA_new l (valsC ids 0 ks) fr t j _ hj (fun k hk => orderL_dst hB hk hj) hxj] at hx
          cases hx
          exact hnew j _ t (hall j hjl) hxj hj
        · have e' : ∀ j, dstAt l j ≠ some t := fun j hj => e ⟨j, hj⟩
          rw [putsA_old l (valsC ids 0 ks) fr t e'] at hx
          exact hold t x hx (fun j hj => absurd hj (e' j))
    | succ fuel ih =>
      intro listed b W hc hi
      refine ⟨fun hr => ?_, fun i hir => ?_⟩
      · exfalso
        have hmem : false ∈ listed.toList := List.count_pos_iff.1 (by omega)
        obtain ⟨k, hk, hke⟩ := List.getElem_of_mem hmem
        have hk' : k < listed.size := by simpa using hk
        have hex : ∃ k, k < listed.size ∧ listed[k]? = some false := ⟨k, hk', by rw [Array.getElem?_eq_getElem hk']; simpa using hke⟩
        obtain ⟨m, ⟨hm1, hm2⟩, hmin⟩ : ∃ m, (m < listed.size ∧ listed[m]? = some false) ∧ ∀ j, j < m → ¬ (j < listed.size ∧ listed[j]? = some false) := by
          obtain ⟨k, hk⟩ := hex
          induction k using Nat.strongRecOn with
          | _ k ihk =>
            by_cases e : ∃ j, j < k ∧ (j < listed.size ∧ listed[j]? = some false)
            · obtain ⟨j, hj, hj2⟩ := e; exact ihk j hj hj2
            · exact ⟨k, hk, fun j hj hj2 => e ⟨j, hj, hj2⟩⟩
        have hml : m < l.length := by rw [← hi.size]; exact hm1
        have : m ∈ Region.ready .any l.toArray listed := by
          refine mem_ready.2 ⟨by rw [Array.getD_eq_getD_getElem?, hm2]; rfl, l[m], by simp [hml], fun e he hb => ?_⟩
          have h1 := backB_at hK (List.getElem?_eq_getElem hml) e he hb
          have h2 := hmin _ h1
          have h3 : e.on < listed.size := by omega
          cases h4 : listed[e.on] with
          | true => rw [Array.getD_eq_getD_getElem?, Array.getElem?_eq_getElem h3, h4]; rfl
          | false => exact absurd ⟨h3, by rw [Array.getElem?_eq_getElem h3, h4]⟩ h2
        rw [hr] at this
        cases this
      · obtain ⟨hun, o, ho, hall⟩ := mem_ready.1 hir
        have hun' := getD_false hun
        have ho' : l[i]? = some o := by simpa using ho
        have hil : i < l.length := (List.getElem?_eq_some_iff.1 ho').1
        have hki : ks[i]? = some ks[i] := List.getElem?_eq_getElem (by omega)
        have hA := hat i o _ ho' hki
        rw [Nat.zero_add] at hA
        obtain ⟨hr1, hr2, hr3⟩ := orderL_at hB ho'
        obtain ⟨ρ, ids, q, hfr, hd, hold, hnew⟩ := hi.st
        have slot : ∀ t, t ∈ readsOf l o → ∀ z, (putsA (l.take i) ((valsC ids 0 ks).take i) fr).get t = some z → ∃ v, b.tmps[t]? = some v ∧ Den ρ W z v := by
          intro t ht z hz
          by_cases e : ∃ j, dstAt l j = some t
          · obtain ⟨j, hj⟩ := e
            rcases hr1 j t ht hj with ⟨e, he, hb, rfl⟩ | ⟨oj, hoj, e, he, hb, hei⟩
            · have hlt := backB_at hK ho' e he hb
              have hlis := getD_true (hall e he hb)
              have hvl : e.on < (valsC ids 0 ks).length := by rw [valsC_length]; omega
              have hxj : (valsC ids 0 ks)[e.on]? = some (valsC ids 0 ks)[e.on] := List.getElem?_eq_getElem hvl
              rw [putsA_new (l.take i) ((valsC ids 0 ks).take i) fr t e.on _ (by rw [dstAt_take, if_pos hlt]; exact hj) (fun k hk => by
                rw [dstAt_take] at hk; split at hk
                · exact orderL_dst hB hk hj
                · cases hk) (by rw [List.getElem?_take, if_pos hlt]; exact hxj)] at hz
              cases hz
              exact hnew _ _ t hlis hxj hj
            · have hlt := backB_at hK hoj e he hb
              have hnl : listed[j]? ≠ some true := fun hl => by
                have := hi.closed j oj hoj hl i (List.mem_map.2 ⟨e, List.mem_filter.2 ⟨Array.mem_toList_iff.2 he, hb⟩, hei⟩)
                rw [hun'] at this; cases this
              rw [putsA_old (l.take i) ((valsC ids 0 ks).take i) fr t (fun j' hj' => by
                rw [dstAt_take] at hj'; split at hj'
                · have := orderL_dst hB hj' hj
                  omega
                · cases hj')] at hz
              exact hold t z hz (fun j' hj' => by rw [orderL_dst hB hj' hj]; exact hnl)
          · have e' : ∀ j, dstAt l j ≠ some t := fun j hj => e ⟨j, hj⟩
            rw [putsA_old (l.take i) ((valsC ids 0 ks).take i) fr t (fun j hj => by
              rw [dstAt_take] at hj; split at hj
              · exact e' j hj
              · cases hj)] at hz
            exact hold t z hz (fun j hj => absurd hj (e' j))
        have hcnt : (listed.setIfInBounds i true).toList.count false = fuel := by have := count_set_false hun'; omega
        have hS : ∀ j, ((listed.setIfInBounds i true)[j]? = some true) ↔ (listed[j]? = some true ∨ j = i) := by
          intro j
          rw [Array.getElem?_setIfInBounds]
          by_cases e : i = j
          · subst e
            have := (Array.getElem?_eq_some_iff.1 hun').1
            simp [this]
          · simp [e, Ne.symm e]
        have hbS : bOf (listed.setIfInBounds i true) = upd (bOf listed) i := by
          funext j
          simp only [bOf, upd, Array.getD_eq_getD_getElem?]
          by_cases e : j = i
          · subst e
            have := (hS j).2 (.inr rfl)
            rw [this, if_pos rfl]; rfl
          · rw [if_neg e, Array.getElem?_setIfInBounds_ne (Ne.symm e)]
        have hgood : ∀ ids', ((∀ j, H (ids' j) = none) ∧ ∀ j k, isn j = true → isn k = true → j ≠ k → ids' j ≠ ids' k) → Good l.toArray H isn o i ids' (bOf listed) := fun ids' hf => ⟨hf.1, hf.2, fun j hj => by
          obtain ⟨e, he, rfl⟩ := List.mem_map.1 hj
          rw [List.mem_filter] at he
          have := getD_true (hall e (Array.mem_toList_iff.1 he.1) he.2)
          simp only [bOf, Array.getD_eq_getD_getElem?, this]; rfl, by
          simp only [bOf, Array.getD_eq_getD_getElem?, hun']; rfl, fun k o' hk hi' => by
          cases e : bOf listed k with
          | false => rfl
          | true =>
            exfalso
            have hlk : listed[k]? = some true := getD_true e
            have := hi.closed k o' (by simpa using hk) hlk i hi'
            rw [hun'] at this; cases this⟩
        have hdst : dstAt l i = o.dst := by simp [dstAt, ho']
        have hnext : ∀ v W' ρ' ids', Ext ρ W ρ' W' → ((∀ j, H (ids' j) = none) ∧ ∀ j k, isn j = true → isn k = true → j ≠ k → ids' j ≠ ids' k) → (∀ j, listed[j]? = some true → ids' j = ids j) → HD ρ' W' (Hs ids' (upd (bOf listed) i)) → (∀ x, (valsC ids' 0 ks)[i]? = some x → Den ρ' W' x v) →
            wpAnyIn (Fw r) 0 P .any l.toArray (fun e a' W' => ∃ ρ' fr' D' H', Ext ρ0 W0 ρ' W' ∧ Sim N fr' ρ' W' a' ∧ Defs ρ' D' a'.defers ∧ HD ρ' W' H' ∧ Q e fr' D' H') fuel (listed.setIfInBounds i true) (b.put o.dst v) W' := by
          intro v W' ρ' ids' q' hf' hids hd' hv
          refine ih _ _ _ hcnt ⟨by rw [Array.size_setIfInBounds]; exact hi.size, ?_, ?_, fun k o' hk hlk j hj => ?_, ρ', ids', q.trans hd0.live q', hf', by rw [hbS]; exact hd', ?_, ?_⟩
          · cases o.dst <;> simp [Act.put, hi.tmps]
          · rw [put_defs]; exact hi.defs
          · refine (hS j).2 (.inl ?_)
            rcases (hS k).1 hlk with hlk | rfl
            · exact hi.closed k o' hk hlk j hj
            · rw [ho'] at hk; cases hk
              obtain ⟨e, he, rfl⟩ := List.mem_map.1 hj
              rw [List.mem_filter] at he
              exact getD_true (hall e (Array.mem_toList_iff.1 he.1) he.2)
          · intro t x hx hno
            have hne : o.dst ≠ some t := fun e => hno i (by rw [hdst, e]) ((hS i).2 (.inr rfl))
            obtain ⟨u, hu, hdu⟩ := hold t x hx (fun j hj hl => hno j hj ((hS j).2 (.inl hl)))
            refine ⟨u, ?_, Den.ext q' hd.live _ _ hdu⟩
            cases hd2 : o.dst with
            | none => simpa [Act.put] using hu
            | some d =>
              simp only [Act.put]
              rw [Array.getElem?_setIfInBounds_ne (fun e => hne (by rw [hd2, e]))]
              exact hu
          · intro j x d hj hx hjd
            by_cases e : j = i
            · subst e
              rw [hdst] at hjd
              have hlt : d < N := by have := hA.lt; rw [hjd] at this; simpa using this
              exact ⟨v, by simp [hjd, Act.put, hi.tmps, hlt], hv x hx⟩
            · have hl := ((hS j).1 hj).resolve_right e
              have hx' : (valsC ids 0 ks)[j]? = some x := by
                rw [valsC_get] at hx ⊢
                have hjl : j < l.length := by rw [← hi.size]; exact (Array.getElem?_eq_some_iff.1 hl).1
                have hkj : ks[j]? = some ks[j] := List.getElem?_eq_getElem (by omega)
                rw [hkj, Option.map_some] at hx ⊢
                have hAj := hat j _ _ (List.getElem?_eq_getElem hjl) hkj
                rw [Nat.zero_add] at hAj
                rw [hAj.dep ids ids' fun m hm => ?_]
                · exact hx
                · rcases hm with hm | rfl
                  · exact (hids m (hi.closed j _ (List.getElem?_eq_getElem hjl) hl m hm)).symm
                  · exact (hids m hl).symm
              obtain ⟨u, hu, hdu⟩ := hnew j x d hl hx' hjd
              refine ⟨u, ?_, Den.ext q' hd.live _ _ hdu⟩
              cases hd2 : o.dst with
              | none => simpa [Act.put] using hu
              | some d' =>
                simp only [Act.put]
                rw [Array.getElem?_setIfInBounds_ne (fun e' => e (orderL_dst hB hjd (by rw [hdst, hd2, e'])))]
                exact hu
        have hguard : ∀ g, guardOf l.toArray (putsA (l.take i) ((valsC ids 0 ks).take i) fr) o = some g → Region.wanted o (yielded l.toArray b.tmps) = g := by
          intro g hg
          unfold guardOf at hg
          unfold Region.wanted
          cases hgo : o.guard with
          | none => rw [hgo] at hg; simpa using hg
          | some gw =>
            obtain ⟨j, want⟩ := gw
            rw [hgo] at hg
            simp only at hg ⊢
            split at hg
            · rename_i c hc2
              cases hg
              obtain ⟨d, hd2, hx⟩ := Option.bind_eq_some_iff.1 hc2
              have hdj : dstAt l j = some d := by simpa [dstAt] using hd2
              obtain ⟨v, hv, hden⟩ := slot d (List.mem_append_right _ (by rw [hgo]; simp [hdj])) _ hx
              rw [Den] at hden
              subst hden
              unfold yielded
              rw [hd2, Option.bind_some, hv]
              cases c <;> cases want <;> rfl
            · rename_i hc2
              cases hg
              obtain ⟨d, hd2, hx⟩ := Option.bind_eq_some_iff.1 hc2
              have hdj : dstAt l j = some d := by simpa [dstAt] using hd2
              obtain ⟨v, hv, hden⟩ := slot d (List.mem_append_right _ (by rw [hgo]; simp [hdj])) _ hx
              have := wanted_undef hgo hd2 hv hden
              unfold Region.wanted at this
              rw [hgo] at this
              exact this
            · cases hg
        have heval : ∀ y ∈ o.op.operands, ∀ z, (putsA (l.take i) ((valsC ids 0 ks).take i) fr).ev y = some z → Den ρ W z (b.eval y) := by
          intro y hy z hz
          cases y with
          | tmp t =>
            obtain ⟨v, hv, hden⟩ := slot t (List.mem_append_left _ (List.mem_filterMap.2 ⟨.tmp t, by simpa using hy, rfl⟩)) z hz
            simp only [Act.eval, Array.getD_eq_getD_getElem?, hv, Option.getD_some]
            exact hden
          | const v => exact AV.ofV_den hz
          | global g => cases hz
          | func f =>
            simp only [Fr.ev, Option.some.injEq] at hz
            subst hz
            rw [Den]
            exact ⟨#[], #[], rfl, rfl, rfl, by rw [DenL]; trivial, by rw [DenL]; trivial⟩
        unfold wpOpIn
        simp only [ho]
        rcases hA.does with ⟨hg, hop⟩ | ⟨hg, hany, hsame⟩ | ⟨hisn, hg, ob, X, hkX, hop, hset⟩
        · rw [hguard _ (hg ids), if_pos rfl]
          refine Runs.wpIn hA.calm ((hop ids _ (hgood ids hfr)).runs ρ W b.eval heval hd) ?_
          rintro v W' ⟨ρ', x', H', q', hv, hd', rfl, rfl⟩
          refine hnext v W' ρ' ids q' hfr (fun _ _ => rfl) hd' (fun y hy => ?_)
          rw [valsC_get, hki, Option.map_some] at hy
          cases hy
          exact hv
        · rw [hguard _ (hg ids)]
          refine ⟨fun _ _ => trivial, hnext _ _ ρ ids hd.refl hfr (fun _ _ => rfl) (by rw [hsame ids _ (hgood ids hfr)]; exact hd) (fun y hy => ?_)⟩
          rw [valsC_get, hki, Option.map_some, hany] at hy
          cases hy
          exact Den.undef
        · rw [hguard _ (hg ids), if_pos rfl]
          refine Runs.wpIn hA.calm ((hop ids _ (hgood ids hfr)).runs ρ W b.eval heval hd) ?_
          rintro v W' ⟨ρ', x', H', q', hv, hd', id, hidn, rfl, rfl⟩
          have hne : ∀ j, listed[j]? = some true → j ≠ i := fun j hj e => by rw [e, hun'] at hj; cases hj
          obtain ⟨M, hM0, hM1, hM2⟩ : ∃ M, ρ0.nx ≤ M ∧ id < M ∧ ∀ j, j < l.length → ids j < M := by
            have hsum : ∀ n, ∃ M, ∀ j, j < n → ids j < M := by
              intro n
              induction n with
              | zero => exact ⟨0, fun j hj => absurd hj (Nat.not_lt_zero _)⟩
              | succ n ih =>
                obtain ⟨M, hM⟩ := ih
                refine ⟨M + ids n + 1, fun j hj => ?_⟩
                by_cases e : j = n
                · subst e; omega
                · have := hM j (by omega); omega
            obtain ⟨M, hM⟩ := hsum l.length
            exact ⟨M + ρ0.nx + id + 1, by omega, by omega, fun j hj => by have := hM j hj; omega⟩
          have hll : ∀ j, listed[j]? = some true → j < l.length := fun j hj => by rw [← hi.size]; exact (Array.getElem?_eq_some_iff.1 hj).1
          obtain ⟨ids', hi1, hi2, hi3⟩ : ∃ ids' : Nat → Nat, ids' i = id ∧ (∀ j, j ≠ i → listed[j]? = some true → ids' j = ids j) ∧ (∀ j, j ≠ i → ¬ listed[j]? = some true → ids' j = M + j) :=
            ⟨fun j => if j = i then id else if listed[j]? = some true then ids j else M + j, by simp, fun j h1 h2 => by simp [h1, h2], fun j h1 h2 => by simp [h1, h2]⟩
          have hmd : ∀ j, isn j = true → listed[j]? = some true → ids j ≠ id := by
            intro j hj hl e
            have hb : bOf listed j = true := by simp [bOf, Array.getD_eq_getD_getElem?, hl]
            exact hmade ids (bOf listed) j hj hb (by rw [e]; exact hidn)
          have hfr' : (∀ j, H (ids' j) = none) ∧ ∀ j k, isn j = true → isn k = true → j ≠ k → ids' j ≠ ids' k := by
            refine ⟨fun j => ?_, fun j k hj hk hjk => ?_⟩
            · by_cases e : j = i
              · rw [e, hi1]; exact hmono _ _ _ hfr.1 hidn
              · by_cases e2 : listed[j]? = some true
                · rw [hi2 j e e2]; exact hfr.1 j
                · rw [hi3 j e e2]; exact hd0.fresh (by omega)
            · by_cases e : j = i
              · have ek : k ≠ i := fun e' => hjk (by rw [e, e'])
                rw [e, hi1]
                by_cases e2 : listed[k]? = some true
                · rw [hi2 k ek e2]; exact fun e' => hmd k hk e2 e'.symm
                · rw [hi3 k ek e2]; omega
              · by_cases e1 : listed[j]? = some true
                · rw [hi2 j e e1]
                  have hjM := hM2 j (hll j e1)
                  by_cases ek : k = i
                  · rw [ek, hi1]; exact hmd j hj e1
                  · by_cases e2 : listed[k]? = some true
                    · rw [hi2 k ek e2]; exact hfr.2 j k hj hk hjk
                    · rw [hi3 k ek e2]; omega
                · rw [hi3 j e e1]
                  by_cases ek : k = i
                  · rw [ek, hi1]; omega
                  · by_cases e2 : listed[k]? = some true
                    · rw [hi2 k ek e2]; have := hM2 k (hll k e2); omega
                    · rw [hi3 k ek e2]; omega
          refine hnext _ _ _ ids' q' hfr' (fun j hj => hi2 j (hne j hj) hj) ?_ (fun y hy => ?_)
          · have hin : Hs ids' (bOf listed) = Hs ids (bOf listed) := hind ids' ids (bOf listed) (fun j _ hj => by
              have hl : listed[j]? = some true := getD_true hj
              exact hi2 j (hne j hl) hl)
            rw [hset _ _ (hgood _ hfr') (by rw [hin, hi1]; exact hidn), hin, hi1]
            exact hd'
          · rw [valsC_get, hki, Option.map_some, hkX] at hy
            cases hy
            simp only [hi1]
            exact hv
  refine inv _ _ _ _ (by simp) ⟨by simp, hs0.size, rfl, fun k o hk hl => (by rw [Array.getElem?_replicate] at hl; split at hl <;> cases hl), ρ0, fun j => ρ0.nx + j, Ext.drew hd0, ⟨fun j => hd0.fresh (Nat.le_add_right _ _), fun j k _ _ h e => h (Nat.add_left_cancel e)⟩, ?_, fun t x hx _ => ?_, fun j x d hj => ?_⟩
  · have : bOf (Array.replicate l.toArray.size false) = fun _ => false := by
      funext j
      simp only [bOf, Array.getD_eq_getD_getElem?, Array.getElem?_replicate]
      split <;> rfl
    rw [this, hH0]; exact hd0.drew
  · obtain ⟨v, hv, hden⟩ := hs0.fr t x hx
    exact ⟨v, hv, Den.ext (Ext.drew hd0) hd0.live _ _ hden⟩
  · rw [Array.getElem?_replicate] at hj; split at hj <;> cases hj

theorem LexC.pure {N i : Nat} {ops : Array Oper} {isn : Nat → Bool} {Hs : (Nat → Nat) → (Nat → Bool) → Hp} {Q : (Nat → Nat) → Fr → Prop} {o : Oper} {l : List Oper} {fr : (Nat → Nat) → Fr} {x : AV} (hN : (o.dst.all (· < N)) = true) (hc : Oper.calm o = true) (hg : ∀ ids, guardOf ops (fr ids) o = some true)
    (hs : ∀ ids b, Good ops H isn o i ids b → Hs ids (upd b i) = Hs ids b) (hop : ∀ ids b, Good ops H isn o i ids b → OpW P o (fr ids).ev (Hs ids b) (fun x' H' => x' = x ∧ H' = Hs ids b)) (h : LexC P N ops H isn Hs Q (i + 1) l (fun ids => (fr ids).put o.dst x)) : LexC P N ops H isn Hs Q i (o :: l) fr :=
  ⟨hN, hc, .inl ⟨hg, fun _ => x, fun _ _ _ => rfl, fun ids b g => by rw [hs ids b g]; exact hop ids b g, h⟩⟩
theorem LexC.idsP {N i : Nat} {ops : Array Oper} {isn : Nat → Bool} {Hs : (Nat → Nat) → (Nat → Bool) → Hp} {Q : (Nat → Nat) → Fr → Prop} {o : Oper} {l : List Oper} {fr : (Nat → Nat) → Fr} (X : Nat → AV) (k : Nat) (hN : (o.dst.all (· < N)) = true) (hc : Oper.calm o = true) (hg : ∀ ids, guardOf ops (fr ids) o = some true) (hk : k ∈ bindsOn o)
    (hs : ∀ ids b, Good ops H isn o i ids b → Hs ids (upd b i) = Hs ids b) (hop : ∀ ids b, Good ops H isn o i ids b → OpW P o (fr ids).ev (Hs ids b) (fun x' H' => x' = X (ids k) ∧ H' = Hs ids b)) (h : LexC P N ops H isn Hs Q (i + 1) l (fun ids => (fr ids).put o.dst (X (ids k)))) : LexC P N ops H isn Hs Q i (o :: l) fr :=
  ⟨hN, hc, .inl ⟨hg, fun ids => X (ids k), fun _ _ e => congrArg X (e k hk), fun ids b g => by rw [hs ids b g]; exact hop ids b g, h⟩⟩
theorem LexC.eff {N i : Nat} {ops : Array Oper} {isn : Nat → Bool} {Hs : (Nat → Nat) → (Nat → Bool) → Hp} {Q : (Nat → Nat) → Fr → Prop} {o : Oper} {l : List Oper} {fr : (Nat → Nat) → Fr} {x : AV} (hN : (o.dst.all (· < N)) = true) (hc : Oper.calm o = true) (hg : ∀ ids, guardOf ops (fr ids) o = some true)
    (hop : ∀ ids b, Good ops H isn o i ids b → OpW P o (fr ids).ev (Hs ids b) (fun x' H' => x' = x ∧ H' = Hs ids (upd b i))) (h : LexC P N ops H isn Hs Q (i + 1) l (fun ids => (fr ids).put o.dst x)) : LexC P N ops H isn Hs Q i (o :: l) fr :=
  ⟨hN, hc, .inl ⟨hg, fun _ => x, fun _ _ _ => rfl, hop, h⟩⟩
theorem LexC.new {N i : Nat} {ops : Array Oper} {isn : Nat → Bool} {Hs : (Nat → Nat) → (Nat → Bool) → Hp} {Q : (Nat → Nat) → Fr → Prop} {o : Oper} {l : List Oper} {fr : (Nat → Nat) → Fr} (X : Nat → AV) (ob : Ob) (hin : isn i = true) (hN : (o.dst.all (· < N)) = true) (hc : Oper.calm o = true) (hg : ∀ ids, guardOf ops (fr ids) o = some true)
    (hop : ∀ ids b, Good ops H isn o i ids b → OpW P o (fr ids).ev (Hs ids b) (fun x' H' => ∃ id, (Hs ids b) id = none ∧ x' = X id ∧ H' = (Hs ids b).set id (some ob))) (hs : ∀ ids b, Good ops H isn o i ids b → (Hs ids b) (ids i) = none → Hs ids (upd b i) = (Hs ids b).set (ids i) (some ob))
    (h : LexC P N ops H isn Hs Q (i + 1) l (fun ids => (fr ids).put o.dst (X (ids i)))) : LexC P N ops H isn Hs Q i (o :: l) fr :=
  ⟨hN, hc, .inr (.inr ⟨hin, hg, X, ob, hop, hs, h⟩)⟩
theorem LexC.nilE {N i : Nat} {ops : Array Oper} {isn : Nat → Bool} {Hs : (Nat → Nat) → (Nat → Bool) → Hp} {Q : (Nat → Nat) → Fr → Prop} {fr : (Nat → Nat) → Fr} (h : ∀ ids, (∀ j, H (ids j) = none) → Q ids (fr ids)) : LexC P N ops H isn Hs Q i [] fr := fun ids h1 _ => h ids h1
end Go.Proofs.YtaekibilldjnmaaGreat
