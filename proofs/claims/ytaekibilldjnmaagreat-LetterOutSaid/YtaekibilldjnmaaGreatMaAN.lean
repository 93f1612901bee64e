/- LetterOut: for every case in bytes, every word in bytes and every four bytes the function returns true, and what it was handed reads as it did. No conditions. -/
import Derived.Test.YtaekibilldjnmaaGreatMaAM
set_option linter.unusedVariables false
set_option linter.unusedSimpArgs false
set_option linter.unusedSectionVars false
namespace Go.Proofs.YtaekibilldjnmaaGreat
open Go.Proofs

def hsO (H : Hp) (z y : AV) (ids : Nat → Nat) (b : Nat → Bool) : Hp := if b 9 = true then H.set (ids 9) (some (.cells 29 0 [if b 10 = true then y else z])) else H
theorem cell_heap {H : Hp} {k id : Nat} (hne : k ≠ id) (hid : H id = none) (A B C : Option Ob) : (((H.set id A).set k B).set k C).set id none = H.set k C := by
  funext j
  simp only [Hp.set]
  by_cases e1 : j = id
  · subst e1; simp [hne.symm, hid]
  · by_cases e2 : j = k
    · subst e2; simp [e1]
    · simp [e1, e2]
def isnO (j : Nat) : Bool := j == 9
/-- What 'Left' answers, by cases. -/
theorem places_cases (w : List Int) (p : List Int → Bool) : ∃ (nl cl : Bool) (o : List Int) (e : Int), placesF 9 (fewestF w p) = .tup [vints nl cl o, vint e] ∧ ((e = 9 ∧ fewestF w p = none) ∨ (e = 6 ∧ o = [] ∧ fewestF w p = some []) ∨ (e = 0 ∧ 0 < o.length ∧ fewestF w p = some o)) := by
  unfold placesF
  cases h : fewestF w p with
  | none => exact ⟨true, true, [], 9, rfl, .inl ⟨rfl, rfl⟩⟩
  | some b =>
    by_cases h0 : b.length = 0
    · have hb : b = [] := List.length_eq_zero_iff.1 h0
      subst hb
      exact ⟨true, true, [], 6, rfl, .inr (.inl ⟨rfl, rfl, rfl⟩)⟩
    · simp only [if_neg h0]
      rw [← selfV_rowB]
      exact ⟨_, _, b, 0, rfl, .inr (.inr ⟨rfl, by omega, rfl⟩)⟩

set_option maxRecDepth 100000 in
set_option maxHeartbeats 16000000 in
theorem Out_any (H : Hp) (x : TyA) (hx : x.Ok) (nl clip : Bool) (l : List Int) (hl : l.length ≤ 9223372036854775807) (hlb : ∀ n ∈ l, 0 ≤ n ∧ n ≤ 255) (v : List Int) (hv : v.length = 4) (hvb : ∀ n ∈ v, Byte n) :
    CallV Tryz.prog 4 [.agg x.cells, .sl nl clip l.length (l.map vbyte), .agg (v.map vbyte)] H (fun r H' => r = .bool true ∧ H' = H) := by
  have hone : (x.cells.all AV.one) = true := by
    unfold TyA.cells
    rw [List.all_append]
    simp [AV.one]
  have hone2 : ((v.map vbyte).all AV.one) = true := by simp [AV.one]
  have hmk := made_any H x hx
  have hcV := made_valid hx
  have hc6 := made_len hx
  have htk : x.cells.take 10 = x.cells := List.take_of_length_le (by unfold TyA.cells; simp [hx.wd])
  have hlen : x.cells.length = 10 := by unfold TyA.cells; simp [hx.wd]
  generalize x.made = c at hmk hcV hc6
  have hw := wordF_word hlb hc6
  have hwd := word_bytes H nl clip l hl hlb
  generalize hfl : decide (l.length = 0) = fl at hwd
  generalize wordF l = w at hw hwd
  have hwl := hw.2.1
  have hw1 := hw.1
  have hF := hcV.fair
  have hvc : ∀ k, k < 4 → (v.map vbyte)[k]? = some (vbyte (v.getD k 0)) ∧ Byte (v.getD k 0) := fun k hk => by
    have : k < v.length := by omega
    refine ⟨?_, hvb _ (getD_mem this)⟩
    simp [List.getD_eq_getElem?_getD, this]
  have hvl : (v.map vbyte).length = 4 := by simp [hv]
  obtain ⟨hv0, b0⟩ := hvc 0 (by omega)
  obtain ⟨hv1, b1⟩ := hvc 1 (by omega)
  obtain ⟨hv2, b2⟩ := hvc 2 (by omega)
  obtain ⟨hv3, b3⟩ := hvc 3 (by omega)
  clear hvc
  generalize v.map vbyte = vc at *
  generalize v.getD 0 0 = v0 at *
  generalize v.getD 1 0 = v1 at *
  generalize v.getD 2 0 = v2 at *
  generalize v.getD 3 0 = v3 at *
  have hnd := fun H => needs_any H c hcV false fl w hw
  obtain ⟨hn340, hcl90⟩ := need_le hF hw
  have hn1 := need_pos hcV hw
  have z0 : (0 : Int) ≤ 0 ∧ (0 : Int) < ((4 : Nat) : Int) := by decide
  have z1 : (0 : Int) ≤ 1 ∧ (1 : Int) < ((4 : Nat) : Int) := by decide
  have z2 : (0 : Int) ≤ 2 ∧ (2 : Int) < ((4 : Nat) : Int) := by decide
  have z3 : (0 : Int) ≤ 3 ∧ (3 : Int) < ((4 : Nat) : Int) := by decide
  have t0 : Int.toNat 0 = 0 := rfl
  have t1 : Int.toNat 1 = 1 := rfl
  have t2 : Int.toNat 2 = 2 := rfl
  have t3 : Int.toNat 3 = 3 := rfl
  have n0 : ((0 : Int) != 0) = false := rfl
  have wb0 := byte_wrap b0
  have wb1 := byte_wrap b1
  have wb2 := byte_wrap b2
  have wb3 := byte_wrap b3
  have hiw := fun H => ints_any H false fl w (by omega)
  have hdn := fun H => own_any H c hcV.ok
  generalize hN : c.needF [w] = nd at *
  unfold Byte at b0 b1 b2 b3
  have s1 : IntKind.i64.wrap (v0 + v1) = v0 + v1 := wrap64 (by omega)
  have s2 : IntKind.i64.wrap (nd + 30) = nd + 30 := wrap64 (by omega)
  have s3 : (v0 + v1).tmod (nd + 30) = (v0 + v1) % (nd + 30) := Int.tmod_eq_emod_of_nonneg (by omega)
  have s4 : ¬ (nd + 30 = 0) := by omega
  have hr1 := Int.emod_nonneg (v0 + v1) s4
  have hr2 := Int.emod_lt_of_pos (v0 + v1) (b := nd + 30) (by omega)
  have s5 : IntKind.i64.wrap (1 + (v0 + v1) % (nd + 30)) = 1 + (v0 + v1) % (nd + 30) := wrap64 (by omega)
  generalize hn' : 1 + (v0 + v1) % (nd + 30) = n at s5
  have hn : 1 ≤ n ∧ n ≤ 400 := by omega
  have hLf := fun H => Left_any H c.own (own_valid hcV) false (decide (w.length = 0)) w n (Cs.word_iff.2 hw) hn
  rw [show c.own.leftP n = c.leftP n from rfl] at hLf
  obtain ⟨nlo, clo, o, e, hpl, hcase⟩ := places_cases w (c.leftP n)
  rw [hpl] at hLf
  clear hpl
  refine CallV.body Tryz.func4 rfl Tryz.ntmps4 (by rfl) ?_
  refine WpV.seq (WpV.regionE (by simp only [go_sem, reduceCtorEq, Nat.reduceAdd, Nat.reduceMul, Nat.reduceSub, Nat.reduceLT, Nat.reduceLeDiff, Nat.reduceEqDiff, Nat.reduceBEq, Nat.reducePow, hone, hone2]; rfl) (Marks.nil _) ?_)
  simp only [Vthen, VinBlock, if_true, if_false, Nat.reduceEqDiff, reduceCtorEq]
  refine WpV.seq (WpV.region ?_)
  refine WpOps.take 1 (by simp only [go_sem, reduceCtorEq, Nat.reduceAdd, Nat.reduceMul, Nat.reduceSub, Nat.reduceLT, Nat.reduceLeDiff, Nat.reduceEqDiff, Nat.reduceBEq, Nat.reducePow, htk, hlen]; rfl) ?_
  refine WpOps.step (by rfl) (by rfl) (OpW.callY rfl (by rfl) (by rfl) (by rfl) (enters_of Tryz.func8 (by kernel_rfl) rfl) ((hmk).mono ?_))
  rintro _ _ ⟨rfl, hH⟩
  replace hH := hH.symm
  subst hH
  refine WpOps.take 1 (by simp only [go_sem, reduceCtorEq, Nat.reduceAdd, Nat.reduceMul, Nat.reduceSub, Nat.reduceLT, Nat.reduceLeDiff, Nat.reduceEqDiff, Nat.reduceBEq, Nat.reducePow]; rfl) ?_
  refine WpOps.step (by rfl) (by rfl) (OpW.callY rfl (by rfl) (by rfl) (by rfl) (enters_of Tryz.func9 (by kernel_rfl) rfl) ((hwd).mono ?_))
  rintro _ _ ⟨rfl, hH⟩
  replace hH := hH.symm
  subst hH
  refine WpOps.step (by rfl) (by rfl) (OpW.alloc rfl (Tryz.ze32) (fun i7 f7 => ?_))
  refine WpOps.step (by rfl) (by rfl) (OpW.alloc rfl (Tryz.ze29) (fun i8 f8 => ?_))
  obtain ⟨n78, f8'⟩ := fresh_ne f8
  refine WpOps.step (by rfl) (by rfl) (OpW.store (ty := 32) (id := i7) (ver := 0) (off := 0) rfl (by simp only [go_sem, reduceCtorEq, Nat.reduceAdd, Nat.reduceMul, Nat.reduceSub, Nat.reduceLT, Nat.reduceLeDiff, Nat.reduceEqDiff, Nat.reduceBEq, Nat.reducePow]; try rfl) (by simp only [go_sem, reduceCtorEq, Nat.reduceAdd, Nat.reduceMul, Nat.reduceSub, Nat.reduceLT, Nat.reduceLeDiff, Nat.reduceEqDiff, Nat.reduceBEq, Nat.reducePow]; try rfl) (by rw [Hp.set_ne _ _ n78.symm]; exact Hp.set_eq _ _ _) (by simp only [go_sem, reduceCtorEq, Nat.reduceAdd, Nat.reduceMul, Nat.reduceSub, Nat.reduceLT, Nat.reduceLeDiff, Nat.reduceEqDiff, Nat.reduceBEq, Nat.reducePow]; try rfl) (by exact Tryz.sz32) (by simp) ?_)
  refine WpOps.step (by rfl) (by rfl) (OpW.store (ty := 29) (id := i8) (ver := 0) (off := 0) rfl (by simp only [go_sem, reduceCtorEq, Nat.reduceAdd, Nat.reduceMul, Nat.reduceSub, Nat.reduceLT, Nat.reduceLeDiff, Nat.reduceEqDiff, Nat.reduceBEq, Nat.reducePow]; try rfl) (by simp only [go_sem, reduceCtorEq, Nat.reduceAdd, Nat.reduceMul, Nat.reduceSub, Nat.reduceLT, Nat.reduceLeDiff, Nat.reduceEqDiff, Nat.reduceBEq, Nat.reducePow]; try rfl) (by rw [Hp.set_ne _ _ n78]; exact Hp.set_eq _ _ _) (by simp only [go_sem, reduceCtorEq, Nat.reduceAdd, Nat.reduceMul, Nat.reduceSub, Nat.reduceLT, Nat.reduceLeDiff, Nat.reduceEqDiff, Nat.reduceBEq, Nat.reducePow]; try rfl) (by exact Tryz.sz29) (by simp) ?_)
  refine WpOps.nil ⟨Marks.nil _, ?_⟩
  simp only [Vthen, VinBlock, if_true, if_false, Nat.reduceEqDiff, reduceCtorEq]
  refine WpV.pre (Frz.ptr (t := 8) (id := i8) rfl (Hp.set_eq _ _ _)) (Marks.nil _) ?_
  refine WpV.pre (Frz.ptr (t := 7) (id := i7) rfl (by rw [Hp.set_ne _ _ n78.symm, Hp.set_ne _ _ n78.symm]; exact Hp.set_eq _ _ _)) (Marks.nil _) ?_
  rw [show ∀ (a b c d : Option Ob), (((((H.set i7 a).set i8 b).set i7 c).set i8 d).set i8 none).set i7 none = H from fun a b c d => by
    obtain f7 := f7
    funext j
    simp only [Hp.set]
    by_cases e1 : j = i7
    · subst e1; simp [f7]
    · by_cases e2 : j = i8
      · subst e2; simp [e1, f8']
      · simp [e1, e2]]
  refine WpV.seq (WpV.regionD Tryz.mixed (by kernel_rfl) (by kernel_rfl) ?_)
  refine LexD.take 8 (by rfl) (by simp only [go_sem, reduceCtorEq, Nat.reduceAdd, Nat.reduceMul, Nat.reduceSub, Nat.reduceLT, Nat.reduceLeDiff, Nat.reduceEqDiff, Nat.reduceBEq, Nat.reducePow, z0, z1, t0, t1, hv0, hv1, hvl, wb0, wb1, s1, s2, s3, s4, hn', s5]; rfl) ?_
  refine LexD.take 1 (by rfl) (by simp only [go_sem, reduceCtorEq, Nat.reduceAdd, Nat.reduceMul, Nat.reduceSub, Nat.reduceLT, Nat.reduceLeDiff, Nat.reduceEqDiff, Nat.reduceBEq, Nat.reducePow, z0, z1, t0, t1, hv0, hv1, hvl, wb0, wb1, s1, s2, s3, s4, hn', s5]; rfl) ?_
  refine LexD.step (by rfl) (by rfl) (OpW.callY rfl (by rfl) (by rfl) (by rfl) (enters_of Tryz.func13 (by kernel_rfl) rfl) (hnd H)) ?_
  refine LexD.take 4 (by rfl) (by simp only [go_sem, reduceCtorEq, Nat.reduceAdd, Nat.reduceMul, Nat.reduceSub, Nat.reduceLT, Nat.reduceLeDiff, Nat.reduceEqDiff, Nat.reduceBEq, Nat.reducePow, z0, z1, t0, t1, hv0, hv1, hvl, wb0, wb1, s1, s2, s3, s4, hn', s5]; rfl) (LexD.nilE ⟨Marks.nil _, ?_⟩)
  simp only [Vthen, VinBlock, if_true, if_false, Nat.reduceEqDiff, reduceCtorEq]
  refine WpV.seq (WpV.regionB Tryz.mixed (by kernel_rfl) (by kernel_rfl) isnO (hsO H (.sl true true 0 []) (vints nlo clo o)) (fun ids => by simp [hsO]) (fun ids ids' b h => ?_) (fun ids b j hj hb => ?_) (fun ids b id hf h => ?_) ?_)
  · unfold hsO
    cases e9 : b 9
    · simp
    · rw [h 9 rfl e9]
  · have : j = 9 := by simpa [isnO] using hj
    subst this
    unfold hsO
    rw [if_pos hb, Hp.set_eq]; simp
  · unfold hsO at h
    cases e9 : b 9
    · rw [e9] at h; exact h
    · rw [e9, if_pos rfl] at h
      by_cases e3 : id = ids 9
      · subst e3; rw [Hp.set_eq] at h; cases h
      · rw [Hp.set_ne _ _ e3] at h; exact h
  refine LexB.pure (by rfl) (by rfl) (fun _ => rfl) (fun ids b _ => by simp [hsO, upd]) (fun ids b _ => OpW.evX (by simp only [go_sem, reduceCtorEq, Nat.reduceAdd, Nat.reduceMul, Nat.reduceSub, Nat.reduceLT, Nat.reduceLeDiff, Nat.reduceEqDiff, Nat.reduceBEq, Nat.reducePow]; rfl)) ?_
  refine LexB.pure (by rfl) (by rfl) (fun _ => rfl) (fun ids b _ => by simp [hsO, upd]) (fun ids b _ => OpW.callY rfl (by rfl) (by rfl) (by rfl) (enters_of Tryz.func11 (by kernel_rfl) rfl) (hdn _)) ?_
  refine LexB.pure (by rfl) (by rfl) (fun _ => rfl) (fun ids b _ => by simp [hsO, upd]) (fun ids b _ => OpW.evX (by simp only [go_sem, reduceCtorEq, Nat.reduceAdd, Nat.reduceMul, Nat.reduceSub, Nat.reduceLT, Nat.reduceLeDiff, Nat.reduceEqDiff, Nat.reduceBEq, Nat.reducePow]; rfl)) ?_
  refine LexB.pure (by rfl) (by rfl) (fun _ => rfl) (fun ids b _ => by simp [hsO, upd]) (fun ids b _ => OpW.callY rfl (by rfl) (by rfl) (by rfl) (enters_of Tryz.func12 (by kernel_rfl) rfl) (hiw _)) ?_
  refine LexB.pure (by rfl) (by rfl) (fun _ => rfl) (fun ids b _ => by simp [hsO, upd]) (fun ids b _ => OpW.evX (by simp only [go_sem, reduceCtorEq, Nat.reduceAdd, Nat.reduceMul, Nat.reduceSub, Nat.reduceLT, Nat.reduceLeDiff, Nat.reduceEqDiff, Nat.reduceBEq, Nat.reducePow]; rfl)) ?_
  refine LexB.pure (by rfl) (by rfl) (fun _ => rfl) (fun ids b _ => by simp [hsO, upd]) (fun ids b _ => OpW.callY rfl (by rfl) (by rfl) (by rfl) (enters_of Tryz.func21 (by kernel_rfl) rfl) (hLf _)) ?_
  refine LexB.pure (by rfl) (by rfl) (fun _ => rfl) (fun ids b _ => by simp [hsO, upd]) (fun ids b _ => OpW.evX (by simp only [go_sem, reduceCtorEq, Nat.reduceAdd, Nat.reduceMul, Nat.reduceSub, Nat.reduceLT, Nat.reduceLeDiff, Nat.reduceEqDiff, Nat.reduceBEq, Nat.reducePow]; rfl)) ?_
  refine LexB.pure (by rfl) (by rfl) (fun _ => rfl) (fun ids b _ => by simp [hsO, upd]) (fun ids b _ => OpW.evX (by simp only [go_sem, reduceCtorEq, Nat.reduceAdd, Nat.reduceMul, Nat.reduceSub, Nat.reduceLT, Nat.reduceLeDiff, Nat.reduceEqDiff, Nat.reduceBEq, Nat.reducePow]; rfl)) ?_
  refine LexB.pure (by rfl) (by rfl) (fun _ => rfl) (fun ids b _ => by simp [hsO, upd]) (fun ids b _ => OpW.evX (by simp only [go_sem, reduceCtorEq, Nat.reduceAdd, Nat.reduceMul, Nat.reduceSub, Nat.reduceLT, Nat.reduceLeDiff, Nat.reduceEqDiff, Nat.reduceBEq, Nat.reducePow]; rfl)) ?_
  refine LexB.new (fun id => .rp id 0 0) (.cells 29 0 [.sl true true 0 []]) rfl (by rfl) (by rfl) (fun _ => rfl) (fun ids b _ => OpW.alloc rfl (Tryz.ze29) (fun id hid => ⟨id, hid, rfl, rfl⟩)) (fun ids b g _ => ?_) ?_
  · have e9 := g.not
    have e10 := g.wait 10 _ rfl (by decide)
    simp [hsO, upd, e9, e10]
  refine LexB.eff (x := .any) (by rfl) (by rfl) (fun _ => rfl) (fun ids b g => ?_) ?_
  · have e9 := g.done 9 (by decide)
    have e10 : b 10 = false := g.not
    refine OpW.store (ty := 29) (cs := [.sl true true 0 []]) (id := ids 9) (ver := 0) (off := 0) rfl (by simp only [go_sem, reduceCtorEq, Nat.reduceAdd, Nat.reduceMul, Nat.reduceSub, Nat.reduceLT, Nat.reduceLeDiff, Nat.reduceEqDiff, Nat.reduceBEq, Nat.reducePow]; try rfl) (by simp only [go_sem, reduceCtorEq, Nat.reduceAdd, Nat.reduceMul, Nat.reduceSub, Nat.reduceLT, Nat.reduceLeDiff, Nat.reduceEqDiff, Nat.reduceBEq, Nat.reducePow]; try rfl) ?_ (by simp only [go_sem, reduceCtorEq, Nat.reduceAdd, Nat.reduceMul, Nat.reduceSub, Nat.reduceLT, Nat.reduceLeDiff, Nat.reduceEqDiff, Nat.reduceBEq, Nat.reducePow]; try rfl) (by exact Tryz.sz29) (by simp) ⟨rfl, ?_⟩
    · unfold hsO; rw [if_pos e9, Hp.set_eq, if_neg (by rw [e10]; simp)]
    · simp only [hsO, upd, e9, e10]
      simp [Hp.set_set, putC]
  refine LexB.pure (by rfl) (by rfl) (fun _ => rfl) (fun ids b _ => by simp [hsO, upd]) (fun ids b _ => OpW.evX (by simp only [go_sem, reduceCtorEq, Nat.reduceAdd, Nat.reduceMul, Nat.reduceSub, Nat.reduceLT, Nat.reduceLeDiff, Nat.reduceEqDiff, Nat.reduceBEq, Nat.reducePow]; rfl)) ?_
  intro ids hf _
  have f10 := hf 9
  simp only [hsO, List.length_cons, List.length_nil, Nat.reduceAdd, Nat.reduceLT, decide_true, if_true]
  generalize ids 9 = i10 at f10 ⊢
  refine ⟨Marks.nil _, ?_⟩
  simp only [Vthen, VinBlock, if_true, if_false, Nat.reduceEqDiff, reduceCtorEq]
  refine WpV.pre (Frz.ptr (t := 10) (id := i10) rfl (Hp.set_eq _ _ _)) (Marks.nil _) ?_
  rw [Hp.set_set, Hp.set_same _ _ _ f10]
  refine WpV.seq (WpV.regionE (by simp only [go_sem, reduceCtorEq, Nat.reduceAdd, Nat.reduceMul, Nat.reduceSub, Nat.reduceLT, Nat.reduceLeDiff, Nat.reduceEqDiff, Nat.reduceBEq, Nat.reducePow]; rfl) (Marks.nil _) ?_)
  simp only [Vthen, VinBlock, if_true, if_false, Nat.reduceEqDiff, reduceCtorEq]
  refine WpV.seqS [(5, .cp vc 0), (7, .cp c.cells 0), (8, .cp [vints false fl w] 0), (9, vint n)] ?_ ?_
  · refine WpV.seq (WpV.regionE (by simp only [go_sem, reduceCtorEq, Nat.reduceAdd, Nat.reduceMul, Nat.reduceSub, Nat.reduceLT, Nat.reduceLeDiff, Nat.reduceEqDiff, Nat.reduceBEq, Nat.reducePow]; rfl) (Marks.nil _) ?_)
    simp only [Vthen, VinBlock, if_true, if_false, Nat.reduceEqDiff, reduceCtorEq]
    refine WpV.block ?_
    rcases hcase with ⟨rfl, hfe⟩ | ⟨rfl, rfl, hfe⟩ | ⟨rfl, ho0, hfe⟩
    · have e0 : ((9 : Int) == 0) = false := rfl
      have e6 : ((9 : Int) == 6) = false := rfl
      have e9 : ((9 : Int) == 9) = true := rfl
      refine WpV.seq (WpV.regionE (by simp only [go_sem, reduceCtorEq, Nat.reduceAdd, Nat.reduceMul, Nat.reduceSub, Nat.reduceLT, Nat.reduceLeDiff, Nat.reduceEqDiff, Nat.reduceBEq, Nat.reducePow, e0]; rfl) (Marks.nil _) ?_)
      simp only [Vthen, VinBlock, if_true, if_false, Nat.reduceEqDiff, reduceCtorEq]
      refine WpV.cond rfl (fun hb => by cases hb) (fun hb => ?_)
      refine WpV.seq (WpV.regionE (by simp only [go_sem, reduceCtorEq, Nat.reduceAdd, Nat.reduceMul, Nat.reduceSub, Nat.reduceLT, Nat.reduceLeDiff, Nat.reduceEqDiff, Nat.reduceBEq, Nat.reducePow, e6]; rfl) (Marks.nil _) ?_)
      simp only [Vthen, VinBlock, if_true, if_false, Nat.reduceEqDiff, reduceCtorEq]
      refine WpV.cond rfl (fun hb => by cases hb) (fun hb => ?_)
      refine WpV.seq (WpV.regionE (by simp only [go_sem, reduceCtorEq, Nat.reduceAdd, Nat.reduceMul, Nat.reduceSub, Nat.reduceLT, Nat.reduceLeDiff, Nat.reduceEqDiff, Nat.reduceBEq, Nat.reducePow, e9]; rfl) (Marks.nil _) ?_)
      simp only [Vthen, VinBlock, if_true, if_false, Nat.reduceEqDiff, reduceCtorEq]
      refine WpV.cond rfl (fun hb => ?_) (fun hb => by cases hb)
      refine WpV.seq (WpV.regionE (by simp only [go_sem, reduceCtorEq, Nat.reduceAdd, Nat.reduceMul, Nat.reduceSub, Nat.reduceLT, Nat.reduceLeDiff, Nat.reduceEqDiff, Nat.reduceBEq, Nat.reducePow]; rfl) (Marks.nil _) ?_)
      simp only [Vthen, VinBlock, if_true, if_false, Nat.reduceEqDiff, reduceCtorEq]
      refine WpV.block (WpV.loopN w.length (fun k => [(5, .cp vc 0), (7, .cp c.cells 0), (8, .cp [vints false fl w] 0), (9, vint n), (16, vint k)]) (fun _ => H) ?_ rfl ?_)
      · exact .cons rfl rfl (.cons rfl rfl (.cons rfl rfl (.cons rfl rfl (.cons rfl rfl (.nil _)))))
      · intro k hk
        refine WpV.seq ?_
        refine WpV.seq (WpV.regionE (by simp only [go_sem, reduceCtorEq, Nat.reduceAdd, Nat.reduceMul, Nat.reduceSub, Nat.reduceLT, Nat.reduceLeDiff, Nat.reduceEqDiff, Nat.reduceBEq, Nat.reducePow]; rfl) (Marks.nil _) ?_)
        simp only [Vthen, VinBlock, if_true, if_false, Nat.reduceEqDiff, reduceCtorEq]
        refine WpV.cond rfl (fun hb => WpV.skip ?_) (fun hb => WpV.exit ?_)
        · have hlt : (k : Int) < (w.length : Int) := of_decide_eq_true ‹_›
          have hlt' : k < w.length := by omega
          have hnk : IntKind.i64.wrap ((k : Int) + 1) = ((k + 1 : Nat) : Int) := by rw [wrap64 (by omega)]; rfl
          have hwk : c.Word [w.getD k 0] := ⟨by simp, by simp, fun y hy => by simp only [List.mem_singleton] at hy; subst hy; exact hw.2.2 _ (getD_mem hlt')⟩
          have hne := needs_any H c hcV false (fl && decide (k + 1 = w.length)) [w.getD k 0] hwk
          have hbig : ¬ (c.needF [[w.getD k 0]] ≤ n) := by have := left_none hfe k hlt'; omega
          rw [show vints false (fl && decide (k + 1 = w.length)) [w.getD k 0] = .sl false (fl && decide (k + 1 = w.length)) (k + 1 - k) (((w.map vint).drop k).take (k + 1 - k)) by
            rw [show k + 1 - k = 1 by omega, List.drop_eq_getElem_cons (by simp; exact hlt'), List.take_succ_cons, List.take_zero]
            simp [List.getD_eq_getElem?_getD, hlt']] at hne
          have hk0 : (0 : Int) ≤ (k : Int) := by omega
          have hk1 : (0 : Int) ≤ ((k + 1 : Nat) : Int) := by omega
          have hle : k ≤ k + 1 ∧ k + 1 ≤ w.length := by omega
          simp only [Vthen, VinBlock, if_true, if_false, Nat.reduceEqDiff, reduceCtorEq]
          refine WpV.seq (WpV.block ?_)
          refine WpV.seq (WpV.regionD Tryz.mixed (by kernel_rfl) (by kernel_rfl) ?_)
          refine LexD.take 6 (by rfl) (by simp only [go_sem, reduceCtorEq, Nat.reduceAdd, Nat.reduceMul, Nat.reduceSub, Nat.reduceLT, Nat.reduceLeDiff, Nat.reduceEqDiff, Nat.reduceBEq, Nat.reducePow, hnk, hk0, hk1, Int.toNat_natCast, hle, Option.getD_some, hbig]; rfl) ?_
          refine LexD.step (by rfl) (by rfl) (OpW.callY rfl (by rfl) (by rfl) (by rfl) (enters_of Tryz.func13 (by kernel_rfl) rfl) (hne)) ?_
          refine LexD.take 2 (by rfl) (by simp only [go_sem, reduceCtorEq, Nat.reduceAdd, Nat.reduceMul, Nat.reduceSub, Nat.reduceLT, Nat.reduceLeDiff, Nat.reduceEqDiff, Nat.reduceBEq, Nat.reducePow, hnk, hk0, hk1, Int.toNat_natCast, hle, Option.getD_some, hbig]; rfl) (LexD.nilE ⟨Marks.nil _, ?_⟩)
          simp only [Vthen, VinBlock, if_true, if_false, Nat.reduceEqDiff, reduceCtorEq]
          refine WpV.cond rfl (fun hb => by cases hb) (fun hb => WpV.skip ?_)
          simp only [Vthen, VinBlock, if_true, if_false, Nat.reduceEqDiff, reduceCtorEq]
          refine WpV.regionE (by simp only [go_sem, reduceCtorEq, Nat.reduceAdd, Nat.reduceMul, Nat.reduceSub, Nat.reduceLT, Nat.reduceLeDiff, Nat.reduceEqDiff, Nat.reduceBEq, Nat.reducePow, hnk]; rfl) (Marks.nil _) ?_
          simp only [Vthen, VinBlock, if_true, if_false, Nat.reduceEqDiff, reduceCtorEq]
          exact ⟨by first | rfl | trivial, hlt', .cons rfl rfl (.cons rfl rfl (.cons rfl rfl (.cons rfl rfl (.cons rfl rfl (.nil _))))), by first | rfl | trivial⟩
        · simp only [Vthen, VinBlock, if_true, if_false, Nat.reduceEqDiff, reduceCtorEq]
          exact ⟨by first | rfl | trivial, by first | rfl | trivial, Sub.cons rfl rfl (Sub.cons rfl rfl (Sub.cons rfl rfl (Sub.cons rfl rfl (Sub.nil _))))⟩
    · have e0 : ((6 : Int) == 0) = false := rfl
      have e6 : ((6 : Int) == 6) = true := rfl
      have l0 : (((0 : Nat) : Int) != 0) = false := rfl
      have hgo : ¬ (nd > n) := by
        obtain ⟨-, -, -, h, -⟩ := left_some hw hfe
        have : withoutF w [] = w := by
          unfold withoutF withoutN
          rw [show ((List.range w.length).filter fun (i : Nat) => !contB [] (i : Int)) = List.range w.length from List.filter_eq_self.2 fun i _ => by rw [show contB [] (i : Int) = false from by rw [Bool.eq_false_iff]; intro hh; have := contB_iff.1 hh; simp at this]; rfl]
          refine eq_getD (by simp) fun i hi => ?_
          have hi' : i < w.length := by simpa using hi
          simp [List.getD_eq_getElem?_getD, hi']
        rw [this, hN] at h
        omega
      refine WpV.seq (WpV.regionE (by simp only [go_sem, reduceCtorEq, Nat.reduceAdd, Nat.reduceMul, Nat.reduceSub, Nat.reduceLT, Nat.reduceLeDiff, Nat.reduceEqDiff, Nat.reduceBEq, Nat.reducePow, e0]; rfl) (Marks.nil _) ?_)
      simp only [Vthen, VinBlock, if_true, if_false, Nat.reduceEqDiff, reduceCtorEq]
      refine WpV.cond rfl (fun hb => by cases hb) (fun hb => ?_)
      refine WpV.seq (WpV.regionE (by simp only [go_sem, reduceCtorEq, Nat.reduceAdd, Nat.reduceMul, Nat.reduceSub, Nat.reduceLT, Nat.reduceLeDiff, Nat.reduceEqDiff, Nat.reduceBEq, Nat.reducePow, e6]; rfl) (Marks.nil _) ?_)
      simp only [Vthen, VinBlock, if_true, if_false, Nat.reduceEqDiff, reduceCtorEq]
      refine WpV.cond rfl (fun hb => ?_) (fun hb => by cases hb)
      refine WpV.seq (WpV.region ?_)
      refine WpOps.take 6 (by simp only [go_sem, reduceCtorEq, Nat.reduceAdd, Nat.reduceMul, Nat.reduceSub, Nat.reduceLT, Nat.reduceLeDiff, Nat.reduceEqDiff, Nat.reduceBEq, Nat.reducePow, l0, hgo]; rfl) ?_
      refine WpOps.step (by rfl) (by rfl) (OpW.callY rfl (by rfl) (by rfl) (by rfl) (enters_of Tryz.func13 (by kernel_rfl) rfl) ((hnd H).mono ?_))
      rintro _ _ ⟨rfl, hH⟩
      replace hH := hH.symm
      subst hH
      refine WpOps.take 3 (by simp only [go_sem, reduceCtorEq, Nat.reduceAdd, Nat.reduceMul, Nat.reduceSub, Nat.reduceLT, Nat.reduceLeDiff, Nat.reduceEqDiff, Nat.reduceBEq, Nat.reducePow, l0, hgo]; rfl) (WpOps.nil ⟨Marks.nil _, ?_⟩)
      simp only [Vthen, VinBlock, if_true, if_false, Nat.reduceEqDiff, reduceCtorEq]
      refine WpV.cond rfl (fun hb => by cases hb) (fun hb => WpV.skip ?_)
      simp only [Vthen, VinBlock, if_true, if_false, Nat.reduceEqDiff, reduceCtorEq]
      exact ⟨by first | rfl | trivial, by first | rfl | trivial, Sub.cons rfl rfl (Sub.cons rfl rfl (Sub.cons rfl rfl (Sub.cons rfl rfl (Sub.nil _))))⟩
    · have e0 : ((0 : Int) == 0) = true := rfl
      obtain ⟨hsub, hol, hrw, hrn, hmin⟩ := left_some hw hfe
      have ho7 : o.length < 1000000 := by omega
      have hup : o.Pairwise (· < ·) := (nums_up _).sublist hsub
      have hom : ∀ i, i < o.length → 0 ≤ o.getD i 0 ∧ o.getD i 0 < w.length := fun i hi => nums_mem.1 (hsub.subset (getD_mem hi))
      have l0 : ((o.length : Int) == 0) = false := by simp; intro e; rw [e] at ho0; simp at ho0
      have l1 : ¬ ((o.length : Int) ≥ (w.length : Int)) := by omega
      refine WpV.seq (WpV.regionE (by simp only [go_sem, reduceCtorEq, Nat.reduceAdd, Nat.reduceMul, Nat.reduceSub, Nat.reduceLT, Nat.reduceLeDiff, Nat.reduceEqDiff, Nat.reduceBEq, Nat.reducePow, e0]; rfl) (Marks.nil _) ?_)
      simp only [Vthen, VinBlock, if_true, if_false, Nat.reduceEqDiff, reduceCtorEq]
      refine WpV.cond rfl (fun hb => ?_) (fun hb => by cases hb)
      refine WpV.seq ?_
      have hr1 := rest_any H 23 [] [.cp [vints nlo clo o] 0] (fun i => contB o (i : Int)) false fl w (by omega) (enters_of Tryz.func23 (by kernel_rfl) rfl) (fun H k _ => but1 nlo clo o ho7 H k)
      rw [show restN w (fun i => contB o (i : Int)) w.length = withoutF w o from rfl] at hr1
      have hn1 := needs_any H c hcV false (decide ((withoutF w o).length = 0)) (withoutF w o) hrw
      have hg1 : ¬ (c.needF [withoutF w o] > n) := by omega
      generalize c.needF [withoutF w o] = m1 at hn1 hg1
      refine WpV.seq (WpV.regionD Tryz.mixed (by kernel_rfl) (by kernel_rfl) ?_)
      refine LexD.take 8 (by rfl) (by simp only [go_sem, reduceCtorEq, Nat.reduceAdd, Nat.reduceMul, Nat.reduceSub, Nat.reduceLT, Nat.reduceLeDiff, Nat.reduceEqDiff, Nat.reduceBEq, Nat.reducePow, l0, l1]; rfl) ?_
      refine LexD.take 6 (by rfl) (by simp only [go_sem, reduceCtorEq, Nat.reduceAdd, Nat.reduceMul, Nat.reduceSub, Nat.reduceLT, Nat.reduceLeDiff, Nat.reduceEqDiff, Nat.reduceBEq, Nat.reducePow, l0, l1]; rfl) ?_
      refine LexD.step (by rfl) (by rfl) (OpW.callY rfl (by rfl) (by rfl) (by rfl) (enters_of Tryz.func22 (by kernel_rfl) rfl) (hr1)) ?_
      refine LexD.step (by rfl) (by rfl) (OpW.callY rfl (by rfl) (by rfl) (by rfl) (enters_of Tryz.func13 (by kernel_rfl) rfl) (hn1)) ?_
      refine LexD.take 3 (by rfl) (by simp only [go_sem, reduceCtorEq, Nat.reduceAdd, Nat.reduceMul, Nat.reduceSub, Nat.reduceLT, Nat.reduceLeDiff, Nat.reduceEqDiff, Nat.reduceBEq, Nat.reducePow, hg1]; rfl) (LexD.nilE ⟨Marks.nil _, ?_⟩)
      simp only [Vthen, VinBlock, if_true, if_false, Nat.reduceEqDiff, reduceCtorEq]
      refine WpV.cond rfl (fun hb => by cases hb) (fun hb => WpV.skip ?_)
      simp only [Vthen, VinBlock, if_true, if_false, Nat.reduceEqDiff, reduceCtorEq]
      refine WpV.seq ?_
      refine WpV.seq (WpV.region ?_)
      refine WpOps.step (by rfl) (by rfl) (OpW.alloc rfl (Tryz.ze3) (fun i13 f13 => ?_))
      refine WpOps.step (by rfl) (by rfl) (OpW.store (ty := 3) (id := i13) (ver := 0) (off := 0) rfl (by simp only [go_sem, reduceCtorEq, Nat.reduceAdd, Nat.reduceMul, Nat.reduceSub, Nat.reduceLT, Nat.reduceLeDiff, Nat.reduceEqDiff, Nat.reduceBEq, Nat.reducePow]; try rfl) (by simp only [go_sem, reduceCtorEq, Nat.reduceAdd, Nat.reduceMul, Nat.reduceSub, Nat.reduceLT, Nat.reduceLeDiff, Nat.reduceEqDiff, Nat.reduceBEq, Nat.reducePow]; try rfl) (Hp.set_eq _ _ _) (by simp only [go_sem, reduceCtorEq, Nat.reduceAdd, Nat.reduceMul, Nat.reduceSub, Nat.reduceLT, Nat.reduceLeDiff, Nat.reduceEqDiff, Nat.reduceBEq, Nat.reducePow]; try rfl) (by exact Tryz.sz3) (by simp) ?_)
      rw [Hp.set_set]
      refine WpOps.nil ⟨Marks.nil _, ?_⟩
      simp only [Vthen, VinBlock, if_true, if_false, Nat.reduceEqDiff, reduceCtorEq]
      refine WpV.block (WpV.loop (ι := { p : Nat × Nat // p.1 ≤ o.length ∧ H p.2 = none }) (fun p => [(5, .cp vc 0), (7, .cp c.cells 0), (8, .cp [vints false fl w] 0), (9, vint n), (10, .cp [vints nlo clo o] 0), (12, .fn (.func 22) [] [.cp [vints false fl w] 0]), (13, .rp p.1.2 0 0)]) (fun p => H.set p.1.2 (some (.cells 3 0 [vint (p.1.1 : Int)]))) (fun p => o.length - p.1.1) ⟨(0, i13), Nat.zero_le _, f13⟩ ?_ rfl ?_)
      · exact Sub.cons rfl rfl (Sub.cons rfl rfl (Sub.cons rfl rfl (Sub.cons rfl rfl (Sub.cons rfl rfl (Sub.cons rfl rfl (Sub.cons rfl rfl (Sub.nil _)))))))
      rintro ⟨⟨k, id⟩, hk, hid⟩
      simp only at hk hid ⊢
      refine WpV.pre (Frz.ptr (t := 13) rfl (Hp.set_eq _ _ _)) (Marks.nil _) ?_
      rw [Hp.set_set, Hp.set_same _ _ _ hid]
      refine WpV.seq ?_
      refine WpV.seq (WpV.regionE (by simp only [go_sem, reduceCtorEq, Nat.reduceAdd, Nat.reduceMul, Nat.reduceSub, Nat.reduceLT, Nat.reduceLeDiff, Nat.reduceEqDiff, Nat.reduceBEq, Nat.reducePow]; rfl) (Marks.nil _) ?_)
      simp only [Vthen, VinBlock, if_true, if_false, Nat.reduceEqDiff, reduceCtorEq]
      refine WpV.cond rfl (fun hb => WpV.skip ?_) (fun hb => WpV.exit ?_)
      · have hlt : (k : Int) < (o.length : Int) := of_decide_eq_true ‹_›
        have hlt' : k < o.length := by omega
        have hnk : IntKind.i64.wrap ((k : Int) + 1) = ((k + 1 : Nat) : Int) := by rw [wrap64 (by omega)]; rfl
        have hok := int_at' (L := o) hlt'
        have hob := hom k hlt'
        have h1 : ¬ (o.getD k 0 < 0) := by omega
        have h2 : ¬ (o.getD k 0 ≥ (w.length : Int)) := by omega
        have hr2 := rest_any H 25 [] [.cp [vints nlo clo o] 0, .cp [vint (k : Int)] 0] (fun i => contB o (i : Int) && ((i : Int) != o.getD k 0)) false fl w (by omega) (enters_of Tryz.func25 (by kernel_rfl) rfl) (fun H i _ => but2 nlo clo o ho7 k hlt' H i)
        rw [rest_congr (q' := fun i => contB (o.eraseIdx k) (i : Int)) (fun i _ => by
          rw [mem_erase hup hlt']
          congr 1
          by_cases e : (i : Int) = o.getD k 0
          · rw [e]; simp
          · rw [bne]; congr 1; rw [Bool.eq_iff_iff]; simp only [beq_iff_eq]; exact ⟨fun h => h.symm, fun h => h.symm⟩), show restN w (fun i => contB (o.eraseIdx k) (i : Int)) w.length = withoutF w (o.eraseIdx k) from rfl] at hr2
        obtain ⟨hw2, hn2⟩ := hmin (o.eraseIdx k) (List.Sublist.trans (List.eraseIdx_sublist _ _) hsub) (by rw [List.length_eraseIdx, if_pos hlt']; omega)
        have hn3 := needs_any H c hcV false (decide ((withoutF w (o.eraseIdx k)).length = 0)) (withoutF w (o.eraseIdx k)) hw2
        have hg2 : ¬ (c.needF [withoutF w (o.eraseIdx k)] ≤ n) := by omega
        have hend : ∀ i2 : Nat, True := fun _ => trivial
        simp only [Vthen, VinBlock, if_true, if_false, Nat.reduceEqDiff, reduceCtorEq]
        have hwm : 0 < k → IntKind.i64.wrap ((k : Int) - 1) = ((k - 1 : Nat) : Int) := fun h => by rw [wrap64 (by omega)]; omega
        refine WpV.seqS [(5, .cp vc 0), (7, .cp c.cells 0), (8, .cp [vints false fl w] 0), (9, vint n), (10, .cp [vints nlo clo o] 0), (12, .fn (.func 22) [] [.cp [vints false fl w] 0]), (13, .cp [vint (k : Int)] 0)] ?_ ?_
        · refine WpV.block ?_
          by_cases hk0 : k = 0
          · have g0 : ¬ ((k : Int) > 0) := by omega
            refine WpV.seq (WpV.regionD Tryz.mixed (by kernel_rfl) (by kernel_rfl) ?_)
            refine LexD.take 8 (by rfl) (by simp only [go_sem, reduceCtorEq, Nat.reduceAdd, Nat.reduceMul, Nat.reduceSub, Nat.reduceLT, Nat.reduceLeDiff, Nat.reduceEqDiff, Nat.reduceBEq, Nat.reducePow, hlt, hok, h1, h2, g0]; rfl) ?_
            refine LexD.take 8 (by rfl) (by simp only [go_sem, reduceCtorEq, Nat.reduceAdd, Nat.reduceMul, Nat.reduceSub, Nat.reduceLT, Nat.reduceLeDiff, Nat.reduceEqDiff, Nat.reduceBEq, Nat.reducePow, hlt, hok, h1, h2, g0]; rfl) ?_
            refine LexD.take 8 (by rfl) (by simp only [go_sem, reduceCtorEq, Nat.reduceAdd, Nat.reduceMul, Nat.reduceSub, Nat.reduceLT, Nat.reduceLeDiff, Nat.reduceEqDiff, Nat.reduceBEq, Nat.reducePow, hlt, hok, h1, h2, g0]; rfl) ?_
            refine LexD.take 8 (by rfl) (by simp only [go_sem, reduceCtorEq, Nat.reduceAdd, Nat.reduceMul, Nat.reduceSub, Nat.reduceLT, Nat.reduceLeDiff, Nat.reduceEqDiff, Nat.reduceBEq, Nat.reducePow, hlt, hok, h1, h2, g0]; rfl) ?_
            refine LexD.take 2 (by rfl) (by simp only [go_sem, reduceCtorEq, Nat.reduceAdd, Nat.reduceMul, Nat.reduceSub, Nat.reduceLT, Nat.reduceLeDiff, Nat.reduceEqDiff, Nat.reduceBEq, Nat.reducePow]; rfl) ?_
            refine LexD.step (by rfl) (by rfl) (OpW.callY rfl (by rfl) (by rfl) (by rfl) (enters_of Tryz.func22 (by kernel_rfl) rfl) (hr2)) ?_
            refine LexD.step (by rfl) (by rfl) (OpW.callY rfl (by rfl) (by rfl) (by rfl) (enters_of Tryz.func13 (by kernel_rfl) rfl) (hn3)) ?_
            refine LexD.take 3 (by rfl) (by simp only [go_sem, reduceCtorEq, Nat.reduceAdd, Nat.reduceMul, Nat.reduceSub, Nat.reduceLT, Nat.reduceLeDiff, Nat.reduceEqDiff, Nat.reduceBEq, Nat.reducePow, hg2]; rfl) (LexD.nilE ⟨Marks.nil _, ?_⟩)
            simp only [Vthen, VinBlock, if_true, if_false, Nat.reduceEqDiff, reduceCtorEq]
            refine WpV.cond rfl (fun hb => by cases hb) (fun hb => WpV.skip ?_)
            simp only [Vthen, VinBlock, if_true, if_false, Nat.reduceEqDiff, reduceCtorEq]
            exact ⟨by first | rfl | trivial, by first | rfl | trivial, Sub.cons rfl rfl (Sub.cons rfl rfl (Sub.cons rfl rfl (Sub.cons rfl rfl (Sub.cons rfl rfl (Sub.cons rfl rfl (Sub.cons rfl rfl (Sub.nil _)))))))⟩
          · have g0 : (k : Int) > 0 := by omega
            have hwm' := hwm (by omega)
            have hlt2 : ((k - 1 : Nat) : Int) < (o.length : Int) := by omega
            have hok2 := int_at' (L := o) (k := k - 1) (by omega)
            have h3 : ¬ (o.getD k 0 ≤ o.getD (k - 1) 0) := by
              have hp := List.pairwise_iff_getElem.1 hup (k - 1) k (by omega) hlt' (by omega)
              rw [List.getD_eq_getElem?_getD, List.getD_eq_getElem?_getD, List.getElem?_eq_getElem hlt', List.getElem?_eq_getElem (show k - 1 < o.length by omega)]
              simp only [Option.getD_some]; omega
            generalize k - 1 = kp at hwm' hlt2 hok2 h3
            refine WpV.seq (WpV.regionD Tryz.mixed (by kernel_rfl) (by kernel_rfl) ?_)
            refine LexD.take 8 (by rfl) (by simp only [go_sem, reduceCtorEq, Nat.reduceAdd, Nat.reduceMul, Nat.reduceSub, Nat.reduceLT, Nat.reduceLeDiff, Nat.reduceEqDiff, Nat.reduceBEq, Nat.reducePow, hlt, hok, h1, h2, g0, hlt2, hwm', hok2, h3]; rfl) ?_
            refine LexD.take 8 (by rfl) (by simp only [go_sem, reduceCtorEq, Nat.reduceAdd, Nat.reduceMul, Nat.reduceSub, Nat.reduceLT, Nat.reduceLeDiff, Nat.reduceEqDiff, Nat.reduceBEq, Nat.reducePow, hlt, hok, h1, h2, g0, hlt2, hwm', hok2, h3]; rfl) ?_
            refine LexD.take 8 (by rfl) (by simp only [go_sem, reduceCtorEq, Nat.reduceAdd, Nat.reduceMul, Nat.reduceSub, Nat.reduceLT, Nat.reduceLeDiff, Nat.reduceEqDiff, Nat.reduceBEq, Nat.reducePow, hlt, hok, h1, h2, g0, hlt2, hwm', hok2, h3]; rfl) ?_
            refine LexD.take 8 (by rfl) (by simp only [go_sem, reduceCtorEq, Nat.reduceAdd, Nat.reduceMul, Nat.reduceSub, Nat.reduceLT, Nat.reduceLeDiff, Nat.reduceEqDiff, Nat.reduceBEq, Nat.reducePow, hlt, hok, h1, h2, g0, hlt2, hwm', hok2, h3]; rfl) ?_
            refine LexD.take 2 (by rfl) (by simp only [go_sem, reduceCtorEq, Nat.reduceAdd, Nat.reduceMul, Nat.reduceSub, Nat.reduceLT, Nat.reduceLeDiff, Nat.reduceEqDiff, Nat.reduceBEq, Nat.reducePow]; rfl) ?_
            refine LexD.step (by rfl) (by rfl) (OpW.callY rfl (by rfl) (by rfl) (by rfl) (enters_of Tryz.func22 (by kernel_rfl) rfl) (hr2)) ?_
            refine LexD.step (by rfl) (by rfl) (OpW.callY rfl (by rfl) (by rfl) (by rfl) (enters_of Tryz.func13 (by kernel_rfl) rfl) (hn3)) ?_
            refine LexD.take 3 (by rfl) (by simp only [go_sem, reduceCtorEq, Nat.reduceAdd, Nat.reduceMul, Nat.reduceSub, Nat.reduceLT, Nat.reduceLeDiff, Nat.reduceEqDiff, Nat.reduceBEq, Nat.reducePow, hg2]; rfl) (LexD.nilE ⟨Marks.nil _, ?_⟩)
            simp only [Vthen, VinBlock, if_true, if_false, Nat.reduceEqDiff, reduceCtorEq]
            refine WpV.cond rfl (fun hb => by cases hb) (fun hb => WpV.skip ?_)
            simp only [Vthen, VinBlock, if_true, if_false, Nat.reduceEqDiff, reduceCtorEq]
            exact ⟨by first | rfl | trivial, by first | rfl | trivial, Sub.cons rfl rfl (Sub.cons rfl rfl (Sub.cons rfl rfl (Sub.cons rfl rfl (Sub.cons rfl rfl (Sub.cons rfl rfl (Sub.cons rfl rfl (Sub.nil _)))))))⟩
        · refine WpV.seq ?_
          refine WpV.seq (WpV.regionE (by simp only [go_sem, reduceCtorEq, Nat.reduceAdd, Nat.reduceMul, Nat.reduceSub, Nat.reduceLT, Nat.reduceLeDiff, Nat.reduceEqDiff, Nat.reduceBEq, Nat.reducePow]; rfl) (Marks.nil _) ?_)
          simp only [Vthen, VinBlock, if_true, if_false, Nat.reduceEqDiff, reduceCtorEq]
          refine WpV.region ?_
          refine WpOps.step (by rfl) (by rfl) (OpW.alloc rfl (Tryz.ze3) (fun ib fb => ?_))
          refine WpOps.step (by rfl) (by rfl) (OpW.store (ty := 3) (id := ib) (ver := 0) (off := 0) rfl (by simp only [go_sem, reduceCtorEq, Nat.reduceAdd, Nat.reduceMul, Nat.reduceSub, Nat.reduceLT, Nat.reduceLeDiff, Nat.reduceEqDiff, Nat.reduceBEq, Nat.reducePow]; try rfl) (by simp only [go_sem, reduceCtorEq, Nat.reduceAdd, Nat.reduceMul, Nat.reduceSub, Nat.reduceLT, Nat.reduceLeDiff, Nat.reduceEqDiff, Nat.reduceBEq, Nat.reducePow]; try rfl) (Hp.set_eq _ _ _) (by simp only [go_sem, reduceCtorEq, Nat.reduceAdd, Nat.reduceMul, Nat.reduceSub, Nat.reduceLT, Nat.reduceLeDiff, Nat.reduceEqDiff, Nat.reduceBEq, Nat.reducePow]; try rfl) (by exact Tryz.sz3) (by simp) ?_)
          rw [Hp.set_set]
          refine WpOps.nil ⟨Marks.nil _, ?_⟩
          simp only [Vthen, VinBlock, if_true, if_false, Nat.reduceEqDiff, reduceCtorEq]
          refine WpV.region ?_
          have hob2 : (H.set ib (some (.cells 3 0 [vint (k : Int)]))) ib = some (.cells 3 0 [vint (k : Int)]) := Hp.set_eq _ _ _
          refine WpOps.take 2 (by simp only [go_sem, reduceCtorEq, Nat.reduceAdd, Nat.reduceMul, Nat.reduceSub, Nat.reduceLT, Nat.reduceLeDiff, Nat.reduceEqDiff, Nat.reduceBEq, Nat.reducePow, hob2, hnk]; rfl) ?_
          refine WpOps.step (by rfl) (by rfl) (OpW.store (ty := 3) (id := ib) (ver := 0) (off := 0) rfl (by simp only [go_sem, reduceCtorEq, Nat.reduceAdd, Nat.reduceMul, Nat.reduceSub, Nat.reduceLT, Nat.reduceLeDiff, Nat.reduceEqDiff, Nat.reduceBEq, Nat.reducePow]; try rfl) (by simp only [go_sem, reduceCtorEq, Nat.reduceAdd, Nat.reduceMul, Nat.reduceSub, Nat.reduceLT, Nat.reduceLeDiff, Nat.reduceEqDiff, Nat.reduceBEq, Nat.reducePow]; try rfl) hob2 (by simp only [go_sem, reduceCtorEq, Nat.reduceAdd, Nat.reduceMul, Nat.reduceSub, Nat.reduceLT, Nat.reduceLeDiff, Nat.reduceEqDiff, Nat.reduceBEq, Nat.reducePow]; try rfl) (by exact Tryz.sz3) (by simp) ?_)
          rw [Hp.set_set]
          refine WpOps.nil ⟨Marks.nil _, ?_⟩
          simp only [Vthen, VinBlock, if_true, if_false, Nat.reduceEqDiff, reduceCtorEq]
          exact ⟨by first | rfl | trivial, ⟨(k + 1, ib), by simp only; omega, fb⟩, by simp only; omega, Sub.cons rfl rfl (Sub.cons rfl rfl (Sub.cons rfl rfl (Sub.cons rfl rfl (Sub.cons rfl rfl (Sub.cons rfl rfl (Sub.cons rfl rfl (Sub.nil _))))))), by first | rfl | trivial⟩
      · simp only [Vthen, VinBlock, if_true, if_false, Nat.reduceEqDiff, reduceCtorEq]
        obtain ⟨fr, hfr, hfrE⟩ : ∃ fr : Nat, fr < w.length ∧ v2 % (w.length : Int) = (fr : Int) := by
          have h1 := Int.emod_nonneg v2 (b := (w.length : Int)) (by omega)
          have h2 := Int.emod_lt_of_pos v2 (b := (w.length : Int)) (by omega)
          exact ⟨(v2 % (w.length : Int)).toNat, by omega, by omega⟩
        have hmod : v2.tmod (w.length : Int) = (fr : Int) := by rw [Int.tmod_eq_emod_of_nonneg b2.1, hfrE]
        have hl0 : ¬ ((w.length : Int) = 0) := by omega
        have hr3 := rest_any H 26 [] [.cp [vint (fr : Int)] 0, .cp [vints false fl w] 0, .cp [vints nlo clo o] 0] _ false fl w (by omega) (enters_of Tryz.func26 (by kernel_rfl) rfl) (fun H i hi => but3 false fl nlo clo w o ⟨hw1, by omega⟩ (by omega) fr hfr H i hi)
        obtain ⟨hw4, hn4⟩ := left_other hw hfe fr hfr ho0 (fun i => decide ((((i + w.length - fr) % w.length : Nat) : Int) < (o.length : Int) - 1)) (fun i _ => rfl)
        have hn5 := needs_any H c hcV false (decide ((restN w (fun i => decide ((((i + w.length - fr) % w.length : Nat) : Int) < (o.length : Int) - 1)) w.length).length = 0)) _ hw4
        have hg4 : ¬ (c.needF [restN w (fun i => decide ((((i + w.length - fr) % w.length : Nat) : Int) < (o.length : Int) - 1)) w.length] ≤ n) := by omega
        refine WpV.seq (WpV.region ?_)
        refine WpOps.take 6 (by simp only [go_sem, reduceCtorEq, Nat.reduceAdd, Nat.reduceMul, Nat.reduceSub, Nat.reduceLT, Nat.reduceLeDiff, Nat.reduceEqDiff, Nat.reduceBEq, Nat.reducePow, z2, t2, hv2, hvl, wb2, hmod, hl0]; rfl) ?_
        refine WpOps.step (by rfl) (by rfl) (OpW.alloc rfl (Tryz.ze3) (fun i14 f14 => ?_))
        refine WpOps.step (by rfl) (by rfl) (OpW.store (ty := 3) (id := i14) (ver := 0) (off := 0) rfl (by simp only [go_sem, reduceCtorEq, Nat.reduceAdd, Nat.reduceMul, Nat.reduceSub, Nat.reduceLT, Nat.reduceLeDiff, Nat.reduceEqDiff, Nat.reduceBEq, Nat.reducePow]; try rfl) (by simp only [go_sem, reduceCtorEq, Nat.reduceAdd, Nat.reduceMul, Nat.reduceSub, Nat.reduceLT, Nat.reduceLeDiff, Nat.reduceEqDiff, Nat.reduceBEq, Nat.reducePow]; try rfl) (Hp.set_eq _ _ _) (by simp only [go_sem, reduceCtorEq, Nat.reduceAdd, Nat.reduceMul, Nat.reduceSub, Nat.reduceLT, Nat.reduceLeDiff, Nat.reduceEqDiff, Nat.reduceBEq, Nat.reducePow]; try rfl) (by exact Tryz.sz3) (by simp) ?_)
        rw [Hp.set_set]
        refine WpOps.nil ⟨Marks.nil _, ?_⟩
        simp only [Vthen, VinBlock, if_true, if_false, Nat.reduceEqDiff, reduceCtorEq]
        refine WpV.pre (Frz.ptr (t := 14) rfl (Hp.set_eq _ _ _)) (Marks.nil _) ?_
        rw [Hp.set_set, Hp.set_same _ _ _ f14]
        refine WpV.seq (WpV.region ?_)
        refine WpOps.take 2 (by simp only [go_sem, reduceCtorEq, Nat.reduceAdd, Nat.reduceMul, Nat.reduceSub, Nat.reduceLT, Nat.reduceLeDiff, Nat.reduceEqDiff, Nat.reduceBEq, Nat.reducePow]; rfl) ?_
        refine WpOps.step (by rfl) (by rfl) (OpW.callY rfl (by rfl) (by rfl) (by rfl) (enters_of Tryz.func22 (by kernel_rfl) rfl) ((hr3).mono ?_))
        rintro _ _ ⟨rfl, hH⟩
        replace hH := hH.symm
        subst hH
        refine WpOps.take 1 (by simp only [go_sem, reduceCtorEq, Nat.reduceAdd, Nat.reduceMul, Nat.reduceSub, Nat.reduceLT, Nat.reduceLeDiff, Nat.reduceEqDiff, Nat.reduceBEq, Nat.reducePow]; rfl) (WpOps.nil ⟨Marks.nil _, ?_⟩)
        simp only [Vthen, VinBlock, if_true, if_false, Nat.reduceEqDiff, reduceCtorEq]
        refine WpV.seq (WpV.region ?_)
        refine WpOps.take 2 (by simp only [go_sem, reduceCtorEq, Nat.reduceAdd, Nat.reduceMul, Nat.reduceSub, Nat.reduceLT, Nat.reduceLeDiff, Nat.reduceEqDiff, Nat.reduceBEq, Nat.reducePow, hg4]; rfl) ?_
        refine WpOps.step (by rfl) (by rfl) (OpW.callY rfl (by rfl) (by rfl) (by rfl) (enters_of Tryz.func13 (by kernel_rfl) rfl) ((hn5).mono ?_))
        rintro _ _ ⟨rfl, hH⟩
        replace hH := hH.symm
        subst hH
        refine WpOps.take 2 (by simp only [go_sem, reduceCtorEq, Nat.reduceAdd, Nat.reduceMul, Nat.reduceSub, Nat.reduceLT, Nat.reduceLeDiff, Nat.reduceEqDiff, Nat.reduceBEq, Nat.reducePow, hg4]; rfl) (WpOps.nil ⟨Marks.nil _, ?_⟩)
        simp only [Vthen, VinBlock, if_true, if_false, Nat.reduceEqDiff, reduceCtorEq]
        refine WpV.cond rfl (fun hb => by cases hb) (fun hb => WpV.skip ?_)
        simp only [Vthen, VinBlock, if_true, if_false, Nat.reduceEqDiff, reduceCtorEq]
        exact ⟨by first | rfl | trivial, by first | rfl | trivial, Sub.cons rfl rfl (Sub.cons rfl rfl (Sub.cons rfl rfl (Sub.cons rfl rfl (Sub.nil _))))⟩
  obtain ⟨a, ha, haE⟩ : ∃ a : Nat, a < w.length ∧ v3 % (w.length : Int) = (a : Int) := by
    have h1 := Int.emod_nonneg v3 (b := (w.length : Int)) (by omega)
    have h2 := Int.emod_lt_of_pos v3 (b := (w.length : Int)) (by omega)
    exact ⟨(v3 % (w.length : Int)).toNat, by omega, by omega⟩
  have hmod : v3.tmod (w.length : Int) = (a : Int) := by rw [Int.tmod_eq_emod_of_nonneg b3.1, haE]
  have hl0 : ¬ ((w.length : Int) = 0) := by omega
  refine WpV.seq (WpV.regionE (by simp only [go_sem, reduceCtorEq, Nat.reduceAdd, Nat.reduceMul, Nat.reduceSub, Nat.reduceLT, Nat.reduceLeDiff, Nat.reduceEqDiff, Nat.reduceBEq, Nat.reducePow, z3, t3, hv3, hvl, wb3, hmod, hl0]; rfl) (Marks.nil _) ?_)
  simp only [Vthen, VinBlock, if_true, if_false, Nat.reduceEqDiff, reduceCtorEq]
  have hWd := Widest_any H c.own (own_valid hcV) (decide (w.length = 0)) w a n (Cs.word_iff.2 hw) ha hn
  rw [show c.own.widestF w a n = c.widestF w a n from rfl] at hWd
  obtain ⟨mo, f, hwv, hwc⟩ := width_cases (c.widestF w a n)
  rw [hwv] at hWd
  refine WpV.seq (WpV.regionD Tryz.mixed (by kernel_rfl) (by kernel_rfl) ?_)
  refine LexD.take 1 (by rfl) (by simp only [go_sem, reduceCtorEq, Nat.reduceAdd, Nat.reduceMul, Nat.reduceSub, Nat.reduceLT, Nat.reduceLeDiff, Nat.reduceEqDiff, Nat.reduceBEq, Nat.reducePow]; rfl) ?_
  refine LexD.step (by rfl) (by rfl) (OpW.callY rfl (by rfl) (by rfl) (by rfl) (enters_of Tryz.func11 (by kernel_rfl) rfl) (hdn H)) ?_
  refine LexD.take 1 (by rfl) (by simp only [go_sem, reduceCtorEq, Nat.reduceAdd, Nat.reduceMul, Nat.reduceSub, Nat.reduceLT, Nat.reduceLeDiff, Nat.reduceEqDiff, Nat.reduceBEq, Nat.reducePow]; rfl) ?_
  refine LexD.step (by rfl) (by rfl) (OpW.callY rfl (by rfl) (by rfl) (by rfl) (enters_of Tryz.func12 (by kernel_rfl) rfl) (hiw H)) ?_
  refine LexD.take 2 (by rfl) (by simp only [go_sem, reduceCtorEq, Nat.reduceAdd, Nat.reduceMul, Nat.reduceSub, Nat.reduceLT, Nat.reduceLeDiff, Nat.reduceEqDiff, Nat.reduceBEq, Nat.reducePow]; rfl) ?_
  refine LexD.step (by rfl) (by rfl) (OpW.callY rfl (by rfl) (by rfl) (by rfl) (enters_of Tryz.func27 (by kernel_rfl) rfl) (hWd)) ?_
  refine LexD.take 5 (by rfl) (by simp only [go_sem, reduceCtorEq, Nat.reduceAdd, Nat.reduceMul, Nat.reduceSub, Nat.reduceLT, Nat.reduceLeDiff, Nat.reduceEqDiff, Nat.reduceBEq, Nat.reducePow]; rfl) (LexD.nilE ⟨Marks.nil _, ?_⟩)
  simp only [Vthen, VinBlock, if_true, if_false, Nat.reduceEqDiff, reduceCtorEq]
  refine WpV.seqS [(7, .cp c.cells 0), (8, .cp [vints false fl w] 0), (9, vint n), (17, vint (a : Int)), (18, vint mo)] ?_ ?_
  · rcases hwc with ⟨rfl, rfl, hx⟩ | ⟨rfl, rfl, hx⟩
    · have a80 : ((8 : Int) != 0) = true := rfl
      have a88 : ((8 : Int) != 8) = false := rfl
      have a8e : ((8 : Int) == 0) = false := rfl
      refine WpV.seq (WpV.region ?_)
      refine WpOps.take 8 (by simp only [go_sem, reduceCtorEq, Nat.reduceAdd, Nat.reduceMul, Nat.reduceSub, Nat.reduceLT, Nat.reduceLeDiff, Nat.reduceEqDiff, Nat.reduceBEq, Nat.reducePow, a80, a88, a8e, n0]; rfl) ?_
      refine WpOps.take 8 (by simp only [go_sem, reduceCtorEq, Nat.reduceAdd, Nat.reduceMul, Nat.reduceSub, Nat.reduceLT, Nat.reduceLeDiff, Nat.reduceEqDiff, Nat.reduceBEq, Nat.reducePow, a80, a88, a8e, n0]; rfl) ?_
      refine WpOps.take 6 (by simp only [go_sem, reduceCtorEq, Nat.reduceAdd, Nat.reduceMul, Nat.reduceSub, Nat.reduceLT, Nat.reduceLeDiff, Nat.reduceEqDiff, Nat.reduceBEq, Nat.reducePow, a80, a88, a8e, n0]; rfl) (WpOps.nil ⟨Marks.nil _, ?_⟩)
      simp only [Vthen, VinBlock, if_true, if_false, Nat.reduceEqDiff, reduceCtorEq]
      refine WpV.cond rfl (fun hb => by cases hb) (fun hb => WpV.skip ?_)
      simp only [Vthen, VinBlock, if_true, if_false, Nat.reduceEqDiff, reduceCtorEq]
      exact ⟨by first | rfl | trivial, by first | rfl | trivial, Sub.cons rfl rfl (Sub.cons rfl rfl (Sub.cons rfl rfl (Sub.cons rfl rfl (Sub.cons rfl rfl (Sub.nil _)))))⟩
    · have e0 : ((0 : Int) == 0) = true := rfl
      have x1 : ¬ (c.widestF w a n < 1) := by omega
      have x30 : ¬ (c.widestF w a n > 30) := by unfold Cs.widestF; split <;> omega
      refine WpV.seq (WpV.region ?_)
      refine WpOps.take 8 (by simp only [go_sem, reduceCtorEq, Nat.reduceAdd, Nat.reduceMul, Nat.reduceSub, Nat.reduceLT, Nat.reduceLeDiff, Nat.reduceEqDiff, Nat.reduceBEq, Nat.reducePow, n0, e0, x1, x30]; rfl) ?_
      refine WpOps.take 8 (by simp only [go_sem, reduceCtorEq, Nat.reduceAdd, Nat.reduceMul, Nat.reduceSub, Nat.reduceLT, Nat.reduceLeDiff, Nat.reduceEqDiff, Nat.reduceBEq, Nat.reducePow, n0, e0, x1, x30]; rfl) ?_
      refine WpOps.take 6 (by simp only [go_sem, reduceCtorEq, Nat.reduceAdd, Nat.reduceMul, Nat.reduceSub, Nat.reduceLT, Nat.reduceLeDiff, Nat.reduceEqDiff, Nat.reduceBEq, Nat.reducePow, n0, e0, x1, x30]; rfl) (WpOps.nil ⟨Marks.nil _, ?_⟩)
      simp only [Vthen, VinBlock, if_true, if_false, Nat.reduceEqDiff, reduceCtorEq]
      refine WpV.cond rfl (fun hb => by cases hb) (fun hb => WpV.skip ?_)
      simp only [Vthen, VinBlock, if_true, if_false, Nat.reduceEqDiff, reduceCtorEq]
      exact ⟨by first | rfl | trivial, by first | rfl | trivial, Sub.cons rfl rfl (Sub.cons rfl rfl (Sub.cons rfl rfl (Sub.cons rfl rfl (Sub.cons rfl rfl (Sub.nil _)))))⟩
  have hmo : 0 ≤ mo ∧ mo ≤ 30 := by
    rcases hwc with ⟨rfl, rfl, hx⟩ | ⟨rfl, rfl, hx⟩
    · omega
    · have : c.widestF w a n ≤ 30 := by unfold Cs.widestF; split <;> omega
      omega
  have hmw : IntKind.i64.wrap (mo + 1) = mo + 1 := wrap64 (by omega)
  refine WpV.seq ?_
  refine WpV.seq (WpV.regionE (by simp only [go_sem, reduceCtorEq, Nat.reduceAdd, Nat.reduceMul, Nat.reduceSub, Nat.reduceLT, Nat.reduceLeDiff, Nat.reduceEqDiff, Nat.reduceBEq, Nat.reducePow]; rfl) (Marks.nil _) ?_)
  simp only [Vthen, VinBlock, if_true, if_false, Nat.reduceEqDiff, reduceCtorEq]
  refine WpV.block (WpV.loopN 2 (fun j => [(7, .cp c.cells 0), (8, .cp [vints false fl w] 0), (9, vint n), (17, vint (a : Int)), (18, vint mo), (20, vint (mo + (j : Int)))]) (fun _ => H) ?_ rfl ?_)
  · exact .cons rfl rfl (.cons rfl rfl (.cons rfl rfl (.cons rfl rfl (.cons rfl rfl (.cons rfl (by first | rfl | (congr 1; omega) | simp) (.nil _))))))
  · intro j hj
    refine WpV.seq ?_
    refine WpV.seq (WpV.regionE (by simp only [go_sem, reduceCtorEq, Nat.reduceAdd, Nat.reduceMul, Nat.reduceSub, Nat.reduceLT, Nat.reduceLeDiff, Nat.reduceEqDiff, Nat.reduceBEq, Nat.reducePow, hmw]; rfl) (Marks.nil _) ?_)
    simp only [Vthen, VinBlock, if_true, if_false, Nat.reduceEqDiff, reduceCtorEq]
    refine WpV.cond rfl (fun hb => WpV.skip ?_) (fun hb => WpV.exit ?_)
    · have hle : mo + (j : Int) ≤ mo + 1 := of_decide_eq_true ‹_›
      have hj2 : j < 2 := by omega
      have hnx : IntKind.i64.wrap (mo + (j : Int) + 1) = mo + ((j + 1 : Nat) : Int) := by rw [wrap64 (by omega)]; omega
      generalize hy : mo + (j : Int) = y at hnx
      simp only [Vthen, VinBlock, if_true, if_false, Nat.reduceEqDiff, reduceCtorEq]
      by_cases y1 : y < 1
      · refine WpV.seq (WpV.block ?_)
        refine WpV.seq ?_
        refine WpV.seq (WpV.regionE (by simp only [go_sem, reduceCtorEq, Nat.reduceAdd, Nat.reduceMul, Nat.reduceSub, Nat.reduceLT, Nat.reduceLeDiff, Nat.reduceEqDiff, Nat.reduceBEq, Nat.reducePow, y1]; rfl) (Marks.nil _) ?_)
        simp only [Vthen, VinBlock, if_true, if_false, Nat.reduceEqDiff, reduceCtorEq]
        refine WpV.cond rfl (fun hb => WpV.exit ?_) (fun hb => by cases hb)
        simp only [Vthen, VinBlock, if_true, if_false, Nat.reduceEqDiff, reduceCtorEq]
        refine WpV.regionE (by simp only [go_sem, reduceCtorEq, Nat.reduceAdd, Nat.reduceMul, Nat.reduceSub, Nat.reduceLT, Nat.reduceLeDiff, Nat.reduceEqDiff, Nat.reduceBEq, Nat.reducePow, hnx]; rfl) (Marks.nil _) ?_
        simp only [Vthen, VinBlock, if_true, if_false, Nat.reduceEqDiff, reduceCtorEq]
        exact ⟨by first | rfl | trivial, hj2, .cons rfl rfl (.cons rfl rfl (.cons rfl rfl (.cons rfl rfl (.cons rfl rfl (.cons rfl rfl (.nil _)))))), by first | rfl | trivial⟩
      by_cases y30 : y > 30
      · refine WpV.seq (WpV.block ?_)
        refine WpV.seq ?_
        refine WpV.seq (WpV.regionE (by simp only [go_sem, reduceCtorEq, Nat.reduceAdd, Nat.reduceMul, Nat.reduceSub, Nat.reduceLT, Nat.reduceLeDiff, Nat.reduceEqDiff, Nat.reduceBEq, Nat.reducePow, y1, y30]; rfl) (Marks.nil _) ?_)
        simp only [Vthen, VinBlock, if_true, if_false, Nat.reduceEqDiff, reduceCtorEq]
        refine WpV.cond rfl (fun hb => WpV.exit ?_) (fun hb => by cases hb)
        simp only [Vthen, VinBlock, if_true, if_false, Nat.reduceEqDiff, reduceCtorEq]
        refine WpV.regionE (by simp only [go_sem, reduceCtorEq, Nat.reduceAdd, Nat.reduceMul, Nat.reduceSub, Nat.reduceLT, Nat.reduceLeDiff, Nat.reduceEqDiff, Nat.reduceBEq, Nat.reducePow, hnx]; rfl) (Marks.nil _) ?_
        simp only [Vthen, VinBlock, if_true, if_false, Nat.reduceEqDiff, reduceCtorEq]
        exact ⟨by first | rfl | trivial, hj2, .cons rfl rfl (.cons rfl rfl (.cons rfl rfl (.cons rfl rfl (.cons rfl rfl (.cons rfl rfl (.nil _)))))), by first | rfl | trivial⟩
      refine WpV.seq (WpV.block ?_)
      refine WpV.seq ?_
      refine WpV.seq (WpV.regionE (by simp only [go_sem, reduceCtorEq, Nat.reduceAdd, Nat.reduceMul, Nat.reduceSub, Nat.reduceLT, Nat.reduceLeDiff, Nat.reduceEqDiff, Nat.reduceBEq, Nat.reducePow, y1, y30]; rfl) (Marks.nil _) ?_)
      simp only [Vthen, VinBlock, if_true, if_false, Nat.reduceEqDiff, reduceCtorEq]
      refine WpV.cond rfl (fun hb => by cases hb) (fun hb => WpV.skip ?_)
      simp only [Vthen, VinBlock, if_true, if_false, Nat.reduceEqDiff, reduceCtorEq]
      have hyr : 1 ≤ y ∧ y ≤ 30 := by omega
      have hneed := needs_any H (c.plus y) (plus_valid hcV hc6 hyr) false false (w.set a (c.ws.length : Int)) (plus_word hw a y)
      rw [plus_need c y ha hw.2.2] at hneed
      have hcut : decide (c.wider.needF [w.set a (c.ws.length : Int)] + y ≤ n) = (y == mo) := by
        rcases hwc with ⟨rfl, rfl, hx⟩ | ⟨rfl, rfl, hx⟩
        · have : c.wider.needF [w.set a (c.ws.length : Int)] ≥ n := by unfold Cs.widestF at hx; split at hx <;> omega
          rw [decide_eq_false (by omega)]
          symm; simp; omega
        · unfold Cs.widestF at hy hx hmo ⊢
          by_cases h30 : (30 : Int) < n - c.wider.needF [w.set a (c.ws.length : Int)]
          · rw [if_pos h30] at hy ⊢
            have : y = 30 := by omega
            subst this
            rw [decide_eq_true (by omega)]; rfl
          · rw [if_neg h30] at hy ⊢
            have : j = 0 ∨ j = 1 := by omega
            rcases this with rfl | rfl
            · rw [decide_eq_true (by omega)]; symm; simp; omega
            · rw [decide_eq_false (by omega)]; symm; simp; omega
      generalize c.wider.needF [w.set a (c.ws.length : Int)] + y = m9 at hneed hcut
      refine WpV.seq (WpV.region ?_)
      refine WpOps.take 1 (by simp only [go_sem, reduceCtorEq, Nat.reduceAdd, Nat.reduceMul, Nat.reduceSub, Nat.reduceLT, Nat.reduceLeDiff, Nat.reduceEqDiff, Nat.reduceBEq, Nat.reducePow]; rfl) ?_
      refine WpOps.step (by rfl) (by rfl) (OpW.callY rfl (by rfl) (by rfl) (by rfl) (enters_of Tryz.func11 (by kernel_rfl) rfl) ((own_own H c hcV.ok (by omega)).mono ?_))
      rintro _ _ ⟨iw, fw, rfl, rfl⟩
      refine WpOps.step (by rfl) (by rfl) (OpW.alloc rfl (Tryz.ze32) (fun i21 f21 => ?_))
      refine WpOps.step (by rfl) (by rfl) (OpW.store (ty := 32) (id := i21) (ver := 0) (off := 0) rfl (by simp only [go_sem, reduceCtorEq, Nat.reduceAdd, Nat.reduceMul, Nat.reduceSub, Nat.reduceLT, Nat.reduceLeDiff, Nat.reduceEqDiff, Nat.reduceBEq, Nat.reducePow]; try rfl) (by simp only [go_sem, reduceCtorEq, Nat.reduceAdd, Nat.reduceMul, Nat.reduceSub, Nat.reduceLT, Nat.reduceLeDiff, Nat.reduceEqDiff, Nat.reduceBEq, Nat.reducePow]; try rfl) (Hp.set_eq _ _ _) (by simp only [go_sem, reduceCtorEq, Nat.reduceAdd, Nat.reduceMul, Nat.reduceSub, Nat.reduceLT, Nat.reduceLeDiff, Nat.reduceEqDiff, Nat.reduceBEq, Nat.reducePow]; try rfl) (by exact Tryz.sz32) (by simp [Cs.cellsG]) ?_)
      rw [Hp.set_set]
      refine WpOps.nil ⟨Marks.nil _, ?_⟩
      simp only [Vthen, VinBlock, if_true, if_false, Nat.reduceEqDiff, reduceCtorEq]
      have hBl : Bld H 3 1 false 6 (c.ws.map vint) (.rs iw 0 1 0 6 false) (H.set iw (some (.cells 3 0 (c.ws.map vint)))) := ⟨by simp [hc6], .inr ⟨by omega, iw, 0, fw, rfl, rfl⟩⟩
      generalize hHw : H.set iw (some (.cells 3 0 (c.ws.map vint))) = Hw at hBl f21 ⊢
      rw [show ∀ p q z : AV, putC [p, q, z, z, z] 0 (c.cellsG iw) = [.rs iw 0 1 0 6 false, .sl c.own.pn c.own.pc c.ps.length (c.ps.flatMap pairC), vint c.rim, vint c.least, vint c.blank] from fun p q z => by simp [putC, Cs.cellsG, hc6]]
      have y21 : (Hw.set i21 (some (.cells 32 0 [.rs iw 0 1 0 6 false, .sl c.own.pn c.own.pc c.ps.length (c.ps.flatMap pairC), vint c.rim, vint c.least, vint c.blank]))) i21 = some (.cells 32 0 [.rs iw 0 1 0 6 false, .sl c.own.pn c.own.pc c.ps.length (c.ps.flatMap pairC), vint c.rim, vint c.least, vint c.blank]) := Hp.set_eq _ _ _
      refine WpV.seq (WpV.region ?_)
      refine WpOps.take 4 (by simp only [go_sem, reduceCtorEq, Nat.reduceAdd, Nat.reduceMul, Nat.reduceSub, Nat.reduceLT, Nat.reduceLeDiff, Nat.reduceEqDiff, Nat.reduceBEq, Nat.reducePow, y21]; rfl) ?_
      refine WpOps.step (by rfl) (by rfl) (OpW.appendBx (m := 1) (ys := [vint y]) rfl hBl f21 (by simp only [go_sem, reduceCtorEq, Nat.reduceAdd, Nat.reduceMul, Nat.reduceSub, Nat.reduceLT, Nat.reduceLeDiff, Nat.reduceEqDiff, Nat.reduceBEq, Nat.reducePow]; try rfl) (by simp only [go_sem, reduceCtorEq, Nat.reduceAdd, Nat.reduceMul, Nat.reduceSub, Nat.reduceLT, Nat.reduceLeDiff, Nat.reduceEqDiff, Nat.reduceBEq, Nat.reducePow]; try rfl) rfl (Tryz.el29 (by omega)) Tryz.underlying29 rfl rfl (by decide) (fun v' H' hB' hi' => ?_))
      refine WpOps.take 1 (by simp only [go_sem, reduceCtorEq, Nat.reduceAdd, Nat.reduceMul, Nat.reduceSub, Nat.reduceLT, Nat.reduceLeDiff, Nat.reduceEqDiff, Nat.reduceBEq, Nat.reducePow]; rfl) ?_
      refine WpOps.step (by rfl) (by rfl) (OpW.store (ty := 32) (id := i21) (ver := 0) (off := 0) (x := v') (xs := [v']) rfl (by simp only [go_sem, reduceCtorEq, Nat.reduceAdd, Nat.reduceMul, Nat.reduceSub, Nat.reduceLT, Nat.reduceLeDiff, Nat.reduceEqDiff, Nat.reduceBEq, Nat.reducePow]; try rfl) (by simp only [go_sem, reduceCtorEq, Nat.reduceAdd, Nat.reduceMul, Nat.reduceSub, Nat.reduceLT, Nat.reduceLeDiff, Nat.reduceEqDiff, Nat.reduceBEq, Nat.reducePow]; try rfl) (Hp.set_eq _ _ _) hB'.cells (by exact Tryz.sz29) (by simp) ?_)
      refine WpOps.nil ⟨Marks.nil _, ?_⟩
      rw [Hp.set_set]
      simp only [Vthen, VinBlock, if_true, if_false, Nat.reduceEqDiff, reduceCtorEq]
      obtain ⟨-, ⟨h70, -⟩ | ⟨-, id2, ver2, fid2, rfl, rfl⟩⟩ := hB'
      · omega
      have hne2 : i21 ≠ id2 := fun e => by rw [e, Hp.set_eq] at hi'; cases hi'
      have hi21 : H i21 = none := by rw [Hp.set_ne _ _ hne2] at hi'; exact hi'
      have hfz := fun fr => Frz.cell (fr := fr) (k := i21) (id := id2) (i := 0) (Hp.set_eq (H.set id2 (some (.cells 3 ver2 (c.ws.map vint ++ [vint y])))) i21 (some (.cells 32 0 [.rs id2 ver2 1 0 (6 + 1) false, .sl c.own.pn c.own.pc c.ps.length (c.ps.flatMap pairC), vint c.rim, vint c.least, vint c.blank]))) hne2 rfl (by rw [Hp.set_ne _ _ hne2.symm]; exact Hp.set_eq _ _ _)
      have e7 : 6 + 1 = (c.ws ++ [y]).length := by simp [hc6]
      rw [show ([.rs id2 ver2 1 0 (6 + 1) false, .sl c.own.pn c.own.pc c.ps.length (c.ps.flatMap pairC), vint c.rim, vint c.least, vint c.blank] : List AV).set 0 (.sl false false (6 + 1) (((c.ws.map vint ++ [vint y]).drop 0).take ((6 + 1) * 1))) = (c.plus y).cells by
        rw [List.drop_zero, List.take_of_length_le (by simp [hc6]), List.set_cons_zero, e7]
        simp [Cs.cells, Cs.plus, Cs.own]] at hfz
      rw [cell_heap hne2 fid2] at hfz
      rw [show ∀ x0 x1 x2 x3 x4 x5 : AV, putC [x0, x1, x2, x3, x4] 0 [x5] = [x5, x1, x2, x3, x4] from fun _ _ _ _ _ _ => rfl]
      refine WpV.pre (hfz _) (Marks.nil _) ?_
      refine WpV.pre (Frz.ptr (t := 21) (id := i21) (ver := 0) (off := 0) rfl (Hp.set_eq _ _ _)) (Marks.nil _) ?_
      rw [Hp.set_set, Hp.set_same _ _ _ hi21]
      clear hfz y21 hi'
      refine WpV.seq (WpV.region ?_)
      refine WpOps.take 1 (by simp only [go_sem, reduceCtorEq, Nat.reduceAdd, Nat.reduceMul, Nat.reduceSub, Nat.reduceLT, Nat.reduceLeDiff, Nat.reduceEqDiff, Nat.reduceBEq, Nat.reducePow]; rfl) ?_
      refine WpOps.step (by rfl) (by rfl) (OpW.callY rfl (by rfl) (by rfl) (by rfl) (enters_of Tryz.func12 (by kernel_rfl) rfl) ((ints_own H false fl w (by omega) hw1).mono ?_))
      rintro _ _ ⟨io, fio, rfl, rfl⟩
      refine WpOps.take 1 (by simp only [go_sem, reduceCtorEq, Nat.reduceAdd, Nat.reduceMul, Nat.reduceSub, Nat.reduceLT, Nat.reduceLeDiff, Nat.reduceEqDiff, Nat.reduceBEq, Nat.reducePow]; rfl) (WpOps.nil ⟨Marks.nil _, ?_⟩)
      simp only [Vthen, VinBlock, if_true, if_false, Nat.reduceEqDiff, reduceCtorEq]
      have hio : (H.set io (some (.cells 3 0 (w.map vint)))) io = some (.cells 3 0 (w.map vint)) := Hp.set_eq _ _ _
      have hal : (a : Int) < (w.length : Int) := by omega
      refine WpV.seq (WpV.region ?_)
      refine WpOps.take 6 (by simp only [go_sem, reduceCtorEq, Nat.reduceAdd, Nat.reduceMul, Nat.reduceSub, Nat.reduceLT, Nat.reduceLeDiff, Nat.reduceEqDiff, Nat.reduceBEq, Nat.reducePow, hio, hal]; rfl) ?_
      refine WpOps.step (by rfl) (by rfl) (OpW.store (ty := 3) (cs := w.map vint) (id := io) (ver := 0) (off := a) rfl (by simp only [go_sem, reduceCtorEq, Nat.reduceAdd, Nat.reduceMul, Nat.reduceSub, Nat.reduceLT, Nat.reduceLeDiff, Nat.reduceEqDiff, Nat.reduceBEq, Nat.reducePow]; try rfl) (by simp only [go_sem, reduceCtorEq, Nat.reduceAdd, Nat.reduceMul, Nat.reduceSub, Nat.reduceLT, Nat.reduceLeDiff, Nat.reduceEqDiff, Nat.reduceBEq, Nat.reducePow]; try rfl) hio (by simp only [go_sem, reduceCtorEq, Nat.reduceAdd, Nat.reduceMul, Nat.reduceSub, Nat.reduceLT, Nat.reduceLeDiff, Nat.reduceEqDiff, Nat.reduceBEq, Nat.reducePow]; try rfl) (by exact Tryz.sz3) (by simp; omega) ?_)
      rw [Hp.set_set, show putC (w.map vint) a [vint (c.ws.length : Int)] = (w.set a (c.ws.length : Int)).map vint by rw [putC_set _ _ _ (by simp; omega), ← List.map_set]]
      refine WpOps.nil ⟨Marks.nil _, ?_⟩
      simp only [Vthen, VinBlock, if_true, if_false, Nat.reduceEqDiff, reduceCtorEq]
      refine WpV.pre (Frz.slice (t := 22) rfl (Hp.set_eq _ _ _)) (Marks.nil _) ?_
      rw [Hp.set_set, Hp.set_same _ _ _ fio]
      rw [show AV.sl false false w.length ((((w.set a (c.ws.length : Int)).map vint).drop 0).take (w.length * 1)) = vints false false (w.set a (c.ws.length : Int)) by rw [List.drop_zero, List.take_of_length_le (by simp), show w.length = (w.set a (c.ws.length : Int)).length by simp]]
      have tt : (true != true) = false := rfl
      have ff : (false != false) = false := rfl
      cases hym : (y == mo)
      · rw [hym, decide_eq_false_iff_not] at hcut
        refine WpV.seq (WpV.region ?_)
        refine WpOps.take 2 (by simp only [go_sem, reduceCtorEq, Nat.reduceAdd, Nat.reduceMul, Nat.reduceSub, Nat.reduceLT, Nat.reduceLeDiff, Nat.reduceEqDiff, Nat.reduceBEq, Nat.reducePow, hcut, hym, ff]; rfl) ?_
        refine WpOps.step (by rfl) (by rfl) (OpW.callY rfl (by rfl) (by rfl) (by rfl) (enters_of Tryz.func13 (by kernel_rfl) rfl) ((hneed).mono ?_))
        rintro _ _ ⟨rfl, hH⟩
        replace hH := hH.symm
        subst hH
        refine WpOps.take 6 (by simp only [go_sem, reduceCtorEq, Nat.reduceAdd, Nat.reduceMul, Nat.reduceSub, Nat.reduceLT, Nat.reduceLeDiff, Nat.reduceEqDiff, Nat.reduceBEq, Nat.reducePow, hcut, hym, ff]; rfl) (WpOps.nil ⟨Marks.nil _, ?_⟩)
        simp only [Vthen, VinBlock, if_true, if_false, Nat.reduceEqDiff, reduceCtorEq]
        refine WpV.cond rfl (fun hb => by cases hb) (fun hb => WpV.skip ?_)
        simp only [Vthen, VinBlock, if_true, if_false, Nat.reduceEqDiff, reduceCtorEq]
        refine WpV.regionE (by simp only [go_sem, reduceCtorEq, Nat.reduceAdd, Nat.reduceMul, Nat.reduceSub, Nat.reduceLT, Nat.reduceLeDiff, Nat.reduceEqDiff, Nat.reduceBEq, Nat.reducePow, hnx]; rfl) (Marks.nil _) ?_
        simp only [Vthen, VinBlock, if_true, if_false, Nat.reduceEqDiff, reduceCtorEq]
        exact ⟨by first | rfl | trivial, hj2, .cons rfl rfl (.cons rfl rfl (.cons rfl rfl (.cons rfl rfl (.cons rfl rfl (.cons rfl rfl (.nil _)))))), by first | rfl | trivial⟩
      · rw [hym, decide_eq_true_eq] at hcut
        refine WpV.seq (WpV.region ?_)
        refine WpOps.take 2 (by simp only [go_sem, reduceCtorEq, Nat.reduceAdd, Nat.reduceMul, Nat.reduceSub, Nat.reduceLT, Nat.reduceLeDiff, Nat.reduceEqDiff, Nat.reduceBEq, Nat.reducePow, hcut, hym, tt]; rfl) ?_
        refine WpOps.step (by rfl) (by rfl) (OpW.callY rfl (by rfl) (by rfl) (by rfl) (enters_of Tryz.func13 (by kernel_rfl) rfl) ((hneed).mono ?_))
        rintro _ _ ⟨rfl, hH⟩
        replace hH := hH.symm
        subst hH
        refine WpOps.take 6 (by simp only [go_sem, reduceCtorEq, Nat.reduceAdd, Nat.reduceMul, Nat.reduceSub, Nat.reduceLT, Nat.reduceLeDiff, Nat.reduceEqDiff, Nat.reduceBEq, Nat.reducePow, hcut, hym, tt]; rfl) (WpOps.nil ⟨Marks.nil _, ?_⟩)
        simp only [Vthen, VinBlock, if_true, if_false, Nat.reduceEqDiff, reduceCtorEq]
        refine WpV.cond rfl (fun hb => by cases hb) (fun hb => WpV.skip ?_)
        simp only [Vthen, VinBlock, if_true, if_false, Nat.reduceEqDiff, reduceCtorEq]
        refine WpV.regionE (by simp only [go_sem, reduceCtorEq, Nat.reduceAdd, Nat.reduceMul, Nat.reduceSub, Nat.reduceLT, Nat.reduceLeDiff, Nat.reduceEqDiff, Nat.reduceBEq, Nat.reducePow, hnx]; rfl) (Marks.nil _) ?_
        simp only [Vthen, VinBlock, if_true, if_false, Nat.reduceEqDiff, reduceCtorEq]
        exact ⟨by first | rfl | trivial, hj2, .cons rfl rfl (.cons rfl rfl (.cons rfl rfl (.cons rfl rfl (.cons rfl rfl (.cons rfl rfl (.nil _)))))), by first | rfl | trivial⟩
    · simp only [Vthen, VinBlock, if_true, if_false, Nat.reduceEqDiff, reduceCtorEq]
      refine WpV.seq (WpV.region ?_)
      refine WpOps.step (by rfl) (by rfl) (OpW.callY rfl (by rfl) (by rfl) (by rfl) (enters_of Tryz.func17 (by kernel_rfl) rfl) ((known_any H).mono ?_))
      rintro _ _ ⟨rfl, hH⟩
      replace hH := hH.symm
      subst hH
      refine WpOps.take 1 (by simp only [go_sem, reduceCtorEq, Nat.reduceAdd, Nat.reduceMul, Nat.reduceSub, Nat.reduceLT, Nat.reduceLeDiff, Nat.reduceEqDiff, Nat.reduceBEq, Nat.reducePow]; rfl) (WpOps.nil ⟨Marks.nil _, ?_⟩)
      simp only [Vthen, VinBlock, if_true, if_false, Nat.reduceEqDiff, reduceCtorEq]
      refine WpV.ret ⟨Marks.nil _, List.nodup_nil, _, by simp only [Tryz.results4]; simp only [go_sem, reduceCtorEq, Nat.reduceAdd, Nat.reduceMul, Nat.reduceSub, Nat.reduceLT, Nat.reduceLeDiff, Nat.reduceEqDiff, Nat.reduceBEq, Nat.reducePow]; rfl, ?_⟩
      exact ⟨rfl, rfl⟩
end Go.Proofs.YtaekibilldjnmaaGreat
namespace Go.Proofs.YtaekibilldjnmaaGreat
open Go.ChangeShapes Go.WideShapes Go.ChangeAt Go.RowKit Go.Deep

theorem Tryz.params4 : Tryz.f4.params = #[26, 27, 50] := by kernel_rfl
theorem Tryz.cells50 : Tryz.prog.cellsOf 50 = 4 * 1 := by kernel_rfl
set_option maxRecDepth 100000 in
theorem four_arg {Hh : Type} {enc : TypeId × Value → Hh} {w : World} {base : Nat} {spare : Nat → Bool} {held : Bool} {r : Reach} {b0 : Nat} {v : Value} {d : DataW Hh} {p : List MemPlace} (hv : Value.okWide Tryz.prog w r b0 50 v) (h : DataW.Trod enc Tryz.prog w base spare held 50 v d p) :
    ∃ l : List Int, l.length = 4 ∧ (∀ n ∈ l, Byte n) ∧ Den ρ0 w (.agg (l.map vbyte)) v := by
  simp only [Value.okWide, Tryz.underlying50] at hv
  obtain ⟨cs, rfl, -⟩ := hv
  obtain ⟨fuel, hf⟩ := h
  obtain ⟨l, ⟨a1, a2⟩, a3⟩ := rd_bytes Tryz.underlying50 Tryz.cells50 _ _ _ hf
  exact ⟨l, a1, a2, CellsD.agg a3⟩

set_option maxRecDepth 100000 in
theorem letterOut_lifted (os : Os) (started : os.Started) (H : Type) (enc : TypeId × Value → H) :
    ReturnsInHanded {} Tryz.checked os 4 .any (Rows.letterOutSpec.pre6 enc Tryz.prog Tryz.f4 Rows.letterOutRow.domain false) (Rows.letterOutSpec.post enc Tryz.prog Tryz.f4 false true false false) := by
  refine returnsInHanded_of_change (C := Tryz.checked) Tryz.ownKnob started (by kernel_rfl) Tryz.func4
    (ChangeSpec.witness6 (enc := enc) (C := Tryz.checked) false ⟨#[], #[.agg #[.int .u8 0, .int .u8 0, .int .u8 0, .int .u8 0, .int .u8 0, .int .u8 0, .slice none 0 0, .int .u8 0, .int .u8 0, .int .u8 0], .slice none 0 0, .agg #[.int .u8 0, .int .u8 0, .int .u8 0, .int .u8 0]], []⟩ 8 (by kernel_rfl) (by kernel_rfl) (by kernel_rfl) (by kernel_rfl)) ?_
  intro W base args ds gs before hval0 hW hcnd _
  have hval : ∀ (j : Nat) t v, Tryz.f4.params[j]? = some t → args[j]? = some v → Value.okWide Tryz.prog W .any base t v := hval0
  have hW' := hW
  obtain ⟨p, q, hA0, hV, rfl, hfz, hnd⟩ := hW
  have hA : DataW.TrodAll enc Tryz.prog W 0 (fun _ => true) true Tryz.f4.params.toList args.toList ds p := hA0
  rw [Tryz.params4] at hA hval
  obtain ⟨v0, vs0, d0, ds0, p0, q0, hargs, rfl, rfl, h0, r0⟩ := trodAll_cons hA
  obtain ⟨v1, vs1, d1, ds1, p1, q1, rfl, rfl, rfl, h1, r1⟩ := trodAll_cons r0
  obtain ⟨v2, vs2, d2, ds2, p2, q2, rfl, rfl, rfl, h2, r2⟩ := trodAll_cons r1
  obtain ⟨rfl, rfl, rfl⟩ := trodAll_nil r2
  obtain rfl : args = #[v0, v1, v2] := by cases args; simp_all
  obtain ⟨rfl, rfl⟩ := trodVars_none hV
  have lt0 : ∀ x ∈ p0, x.block < W.heap.size := by obtain ⟨m, hm⟩ := h0; exact DataW.trod_lt m _ _ _ hm
  have lt1 : ∀ x ∈ p1, x.block < W.heap.size := by obtain ⟨m, hm⟩ := h1; exact DataW.trod_lt m _ _ _ hm
  have lt2 : ∀ x ∈ p2, x.block < W.heap.size := by obtain ⟨m, hm⟩ := h2; exact DataW.trod_lt m _ _ _ hm
  obtain ⟨x, hx, hd0⟩ := type_read (hval 0 26 v0 rfl rfl) h0
  obtain ⟨nl, l, hlb, hll, hd1⟩ := bytes_arg (hval 1 27 v1 rfl rfl) h1
  obtain ⟨v6, hv6, hvb, hd2⟩ := four_arg (hval 2 50 v2 rfl rfl) h2
  clear hA0 hval0
  refine Calls.mono (Out_any (fun _ => none) x hx nl false l hll (fun n hn => by have := hlb n hn; unfold Byte at this; omega) v6 hv6 hvb ρ0 W #[v0, v1, v2] rfl ?_ (ρ0_hd W)) ?_
  · rw [DenL]
    refine ⟨⟨v0, rfl, hd0⟩, ?_⟩
    rw [DenL]
    refine ⟨⟨v1, rfl, hd1⟩, ?_⟩
    rw [DenL]
    refine ⟨⟨v2, rfl, hd2⟩, ?_⟩
    rw [DenL]; trivial
  rintro e W' ⟨v, ρ', x', H', rfl, qx, hvd, -, rfl, -⟩
  rw [Den] at hvd
  subst hvd
  have bel' : Below W.heap.size W W' := ⟨qx.io.1, qx.io.2.2, qx.io.2.1, qx.size, fun k hk => (qx.free k hk (ρ0_free k)).2⟩
  exact ⟨_, rfl, _, _, _, [], _, [], hW', trodAll_mk1 (shut_bool Tryz.underlying4 _), (trodAll_cons_mk (Below.trod Tryz.laidOut (by kernel_rfl) (of_decide_eq_true (by kernel_rfl)) h0 bel' lt0) (trodAll_cons_mk (Below.trod Tryz.laidOut (by kernel_rfl) (of_decide_eq_true (by kernel_rfl)) h1 bel' lt1) (trodAll_cons_mk (Below.trod Tryz.laidOut (by kernel_rfl) (of_decide_eq_true (by kernel_rfl)) h2 bel' lt2) trodAll_mk0))), rfl, bel'.frame _, fun h => by cases h⟩

theorem letterOut_over : Rows.letterOutRow.holds Tryz.pinned (OpenSpec.ofChange Rows.letterOutSpec) :=
  OpenClaim.holds_of_wide 4 Tryz.f4 rfl rfl rfl rfl rfl rfl rfl ⟨rfl, rfl, rfl, rfl, rfl⟩ rfl rfl rfl rfl rfl (by kernel_rfl) Tryz.func4 (by kernel_rfl)
    (of_decide_eq_true (by kernel_rfl)) (by unfold Func.isWrapper; first | (rw [if_pos (by decide +kernel)]; kernel_rfl) | (rw [if_neg (by decide +kernel)]; exact ⟨rfl, rfl⟩))
    (fun os started H enc _ => letterOut_lifted os started H enc)

/-- The statement. -/
theorem letterOut_holds : Rows.LetterOutSaid := letterOut_over
#print axioms letterOut_holds
end Go.Proofs.YtaekibilldjnmaaGreat
