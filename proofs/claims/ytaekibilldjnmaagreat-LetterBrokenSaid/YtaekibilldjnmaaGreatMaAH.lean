/- 'Left', 'Wrong'. 'Widest'; what 'Lines' and 'Pick' check; the lists of plates. The lists of plates, one after another. 'pick': the shortest plates together. -/
import Derived.Test.YtaekibilldjnmaaGreatMaAG
set_option linter.unusedVariables false
set_option linter.unusedSimpArgs false
set_option linter.unusedSectionVars false
namespace Go.Proofs.YtaekibilldjnmaaGreat
open Go.Proofs

theorem withoutF_mem {l b : List Int} {x : Int} (h : x ∈ withoutF l b) : x ∈ l := by
  unfold withoutF withoutN at h
  obtain ⟨i, hi, rfl⟩ := List.mem_map.1 h
  have hi' : i < l.length := by have := (List.mem_filter.1 hi).1; simpa using this
  rw [List.getD_eq_getElem?_getD, List.getElem?_eq_getElem hi']
  exact List.getElem_mem _
def Cs.leftP (c : Cs) (n : Int) (rest : List Int) : Bool := decide ((rest.length : Int) > 0) && decide (c.needF [rest] ≤ n)

theorem left_one (H : Hp) (c : Cs) (hc : c.Fair) (n : Int) (w b : List Int) (hw : c.Word w) :
    CallV Tryz.prog 71 [selfV (withoutF w b), .cp c.box 0, .cp [vint n] 0] H (fun r H' => r = .bool (c.leftP n (withoutF w b)) ∧ H' = H) := by
  have hlen : (withoutF w b).length ≤ w.length := withoutN_len w b w.length
  have hmem : ∀ x ∈ withoutF w b, x ∈ w := fun x hx => withoutF_mem hx
  generalize withoutF w b = rest at hlen hmem
  refine CallV.body Tryz.func71 rfl Tryz.ntmps71 (by rfl) ?_
  refine WpV.seq (WpV.regionE (by simp only [go_sem, reduceCtorEq, Nat.reduceAdd, Nat.reduceMul, Nat.reduceSub, Nat.reduceLT, Nat.reduceLeDiff, Nat.reduceEqDiff, Nat.reduceBEq, Nat.reducePow]; rfl) (Marks.nil _) ?_)
  simp only [Vthen, VinBlock, if_true, if_false, Nat.reduceEqDiff, reduceCtorEq]
  by_cases h0 : (rest.length : Int) > 0
  · have hW : c.Word rest := ⟨by omega, by have := hw.2.1; omega, fun x hx => hw.2.2 x (hmem x hx)⟩
    have e0 : decide (rest.length = 0) = false := by simp; intro e; rw [e] at h0; simp at h0
    have hgo := goes_any H c hc (true && decide (rest.length = 0)) (decide (rest.length = 0)) rest hW n
    refine WpV.seq (WpV.region ?_)
    refine WpOps.take 7 (by simp only [go_sem, reduceCtorEq, Nat.reduceAdd, Nat.reduceMul, Nat.reduceSub, Nat.reduceLT, Nat.reduceLeDiff, Nat.reduceEqDiff, Nat.reduceBEq, Nat.reducePow, h0]; rfl) ?_
    refine WpOps.step (by rfl) (by rfl) (OpW.callY rfl (by rfl) (by rfl) (by rfl) (enters_of Tryz.func38 (by kernel_rfl) rfl) ((hgo).mono ?_))
    rintro _ _ ⟨rfl, hH⟩
    replace hH := hH.symm
    subst hH
    refine WpOps.take 2 (by simp only [go_sem, reduceCtorEq, Nat.reduceAdd, Nat.reduceMul, Nat.reduceSub, Nat.reduceLT, Nat.reduceLeDiff, Nat.reduceEqDiff, Nat.reduceBEq, Nat.reducePow, h0]; rfl) (WpOps.nil ⟨Marks.nil _, ?_⟩)
    simp only [Vthen, VinBlock, if_true, if_false, Nat.reduceEqDiff, reduceCtorEq]
    refine WpV.ret ⟨Marks.nil _, List.nodup_nil, _, by simp only [Tryz.results71]; simp only [go_sem, reduceCtorEq, Nat.reduceAdd, Nat.reduceMul, Nat.reduceSub, Nat.reduceLT, Nat.reduceLeDiff, Nat.reduceEqDiff, Nat.reduceBEq, Nat.reducePow]; rfl, ?_⟩
    exact ⟨by unfold Cs.leftP; rw [decide_eq_true h0, Bool.true_and], rfl⟩
  · refine WpV.seq (WpV.region ?_)
    refine WpOps.take 8 (by simp only [go_sem, reduceCtorEq, Nat.reduceAdd, Nat.reduceMul, Nat.reduceSub, Nat.reduceLT, Nat.reduceLeDiff, Nat.reduceEqDiff, Nat.reduceBEq, Nat.reducePow, h0]; rfl) ?_
    refine WpOps.take 2 (by simp only [go_sem, reduceCtorEq, Nat.reduceAdd, Nat.reduceMul, Nat.reduceSub, Nat.reduceLT, Nat.reduceLeDiff, Nat.reduceEqDiff, Nat.reduceBEq, Nat.reducePow, h0]; rfl) (WpOps.nil ⟨Marks.nil _, ?_⟩)
    simp only [Vthen, VinBlock, if_true, if_false, Nat.reduceEqDiff, reduceCtorEq]
    refine WpV.ret ⟨Marks.nil _, List.nodup_nil, _, by simp only [Tryz.results71]; simp only [go_sem, reduceCtorEq, Nat.reduceAdd, Nat.reduceMul, Nat.reduceSub, Nat.reduceLT, Nat.reduceLeDiff, Nat.reduceEqDiff, Nat.reduceBEq, Nat.reducePow]; rfl, ?_⟩
    exact ⟨by unfold Cs.leftP; rw [decide_eq_false h0, Bool.false_and], rfl⟩

theorem left_any (H : Hp) (c : Cs) (hc : c.Fair) (nl clip : Bool) (w : List Int) (n : Int) (hw : c.Word w) :
    CallV Tryz.prog 48 [.agg c.box, vints nl clip w, vint n] H (fun r H' => r = resF (fewestF w (c.leftP n)) ∧ H' = H) := by
  have h := fewest_any H nl clip w (by have := hw.2.1; omega) 71 [] [.cp c.box 0, .cp [vint n] 0] (c.leftP n) ⟨enters_of Tryz.func71 (by kernel_rfl) rfl, fun b H => left_one H c hc n w b hw⟩
  cases hf : fewestF w (c.leftP n) with
  | none =>
    rw [hf] at h
    unfold resF at h ⊢
    refine CallV.body Tryz.func48 rfl Tryz.ntmps48 (by rfl) ?_
    refine WpV.seq (WpV.regionE (by simp only [go_sem, reduceCtorEq, Nat.reduceAdd, Nat.reduceMul, Nat.reduceSub, Nat.reduceLT, Nat.reduceLeDiff, Nat.reduceEqDiff, Nat.reduceBEq, Nat.reducePow]; rfl) (Marks.nil _) ?_)
    simp only [Vthen, VinBlock, if_true, if_false, Nat.reduceEqDiff, reduceCtorEq]
    refine WpV.seq (WpV.region ?_)
    refine WpOps.take 2 (by simp only [go_sem, reduceCtorEq, Nat.reduceAdd, Nat.reduceMul, Nat.reduceSub, Nat.reduceLT, Nat.reduceLeDiff, Nat.reduceEqDiff, Nat.reduceBEq, Nat.reducePow]; rfl) ?_
    refine WpOps.step (by rfl) (by rfl) (OpW.callY rfl (by rfl) (by rfl) (by rfl) (enters_of Tryz.func70 (by kernel_rfl) rfl) ((h).mono ?_))
    rintro _ _ ⟨rfl, hH⟩
    replace hH := hH.symm
    subst hH
    refine WpOps.take 4 (by simp only [go_sem, reduceCtorEq, Nat.reduceAdd, Nat.reduceMul, Nat.reduceSub, Nat.reduceLT, Nat.reduceLeDiff, Nat.reduceEqDiff, Nat.reduceBEq, Nat.reducePow]; rfl) (WpOps.nil ⟨Marks.nil _, ?_⟩)
    simp only [Vthen, VinBlock, if_true, if_false, Nat.reduceEqDiff, reduceCtorEq]
    refine WpV.ret ⟨Marks.nil _, List.nodup_nil, _, by simp only [Tryz.results48]; simp only [go_sem, reduceCtorEq, Nat.reduceAdd, Nat.reduceMul, Nat.reduceSub, Nat.reduceLT, Nat.reduceLeDiff, Nat.reduceEqDiff, Nat.reduceBEq, Nat.reducePow]; rfl, ?_⟩
    exact ⟨rfl, rfl⟩
  | some b =>
    rw [hf] at h
    unfold resF at h ⊢
    refine CallV.body Tryz.func48 rfl Tryz.ntmps48 (by rfl) ?_
    refine WpV.seq (WpV.regionE (by simp only [go_sem, reduceCtorEq, Nat.reduceAdd, Nat.reduceMul, Nat.reduceSub, Nat.reduceLT, Nat.reduceLeDiff, Nat.reduceEqDiff, Nat.reduceBEq, Nat.reducePow]; rfl) (Marks.nil _) ?_)
    simp only [Vthen, VinBlock, if_true, if_false, Nat.reduceEqDiff, reduceCtorEq]
    refine WpV.seq (WpV.region ?_)
    refine WpOps.take 2 (by simp only [go_sem, reduceCtorEq, Nat.reduceAdd, Nat.reduceMul, Nat.reduceSub, Nat.reduceLT, Nat.reduceLeDiff, Nat.reduceEqDiff, Nat.reduceBEq, Nat.reducePow]; rfl) ?_
    refine WpOps.step (by rfl) (by rfl) (OpW.callY rfl (by rfl) (by rfl) (by rfl) (enters_of Tryz.func70 (by kernel_rfl) rfl) ((h).mono ?_))
    rintro _ _ ⟨rfl, hH⟩
    replace hH := hH.symm
    subst hH
    refine WpOps.take 4 (by simp only [go_sem, reduceCtorEq, Nat.reduceAdd, Nat.reduceMul, Nat.reduceSub, Nat.reduceLT, Nat.reduceLeDiff, Nat.reduceEqDiff, Nat.reduceBEq, Nat.reducePow]; rfl) (WpOps.nil ⟨Marks.nil _, ?_⟩)
    simp only [Vthen, VinBlock, if_true, if_false, Nat.reduceEqDiff, reduceCtorEq]
    refine WpV.ret ⟨Marks.nil _, List.nodup_nil, _, by simp only [Tryz.results48]; simp only [go_sem, reduceCtorEq, Nat.reduceAdd, Nat.reduceMul, Nat.reduceSub, Nat.reduceLT, Nat.reduceLeDiff, Nat.reduceEqDiff, Nat.reduceBEq, Nat.reducePow]; rfl, ?_⟩
    exact ⟨rfl, rfl⟩

def placesF (none9 : Int) (x : Option (List Int)) : AV := match x with
  | none => .tup [.sl true true 0 [], vint none9]
  | some b => if b.length = 0 then .tup [.sl true true 0 [], vint 6] else .tup [rowB b, vint 0]

theorem Left_any (H : Hp) (c : Cs) (hc : c.Valid) (nl clip : Bool) (w : List Int) (n : Int) (hw : c.word w = true) (hn : 1 ≤ n ∧ n ≤ 400) :
    CallV Tryz.prog 21 [.agg c.cells, vints nl clip w, vint n] H (fun r H' => r = placesF 9 (fewestF w (c.leftP n)) ∧ H' = H) := by
  have h := left_any H c hc.fair nl clip w n (Cs.word_iff.1 hw)
  refine CallV.body Tryz.func21 rfl Tryz.ntmps21 (by rfl) ?_
  refine WpV.seq (WpV.regionE (by simp only [go_sem, reduceCtorEq, Nat.reduceAdd, Nat.reduceMul, Nat.reduceSub, Nat.reduceLT, Nat.reduceLeDiff, Nat.reduceEqDiff, Nat.reduceBEq, Nat.reducePow]; rfl) (Marks.nil _) ?_)
  simp only [Vthen, VinBlock, if_true, if_false, Nat.reduceEqDiff, reduceCtorEq]
  refine WpV.seq ?_
  refine WpV.seq (WpV.region ?_)
  refine WpOps.take 3 (by simp only [go_sem, reduceCtorEq, Nat.reduceAdd, Nat.reduceMul, Nat.reduceSub, Nat.reduceLT, Nat.reduceLeDiff, Nat.reduceEqDiff, Nat.reduceBEq, Nat.reducePow]; rfl) ?_
  refine WpOps.step (by rfl) (by rfl) (OpW.callY rfl (by rfl) (by rfl) (by rfl) (enters_of Tryz.func37 (by kernel_rfl) rfl) ((checkLength_ok H c hc nl clip w n hw hn).mono ?_))
  rintro _ _ ⟨rfl, hH⟩
  replace hH := hH.symm
  subst hH
  refine WpOps.take 1 (by simp only [go_sem, reduceCtorEq, Nat.reduceAdd, Nat.reduceMul, Nat.reduceSub, Nat.reduceLT, Nat.reduceLeDiff, Nat.reduceEqDiff, Nat.reduceBEq, Nat.reducePow]; rfl) (WpOps.nil ⟨Marks.nil _, ?_⟩)
  simp only [Vthen, VinBlock, if_true, if_false, Nat.reduceEqDiff, reduceCtorEq]
  refine WpV.seq (WpV.regionE (by simp only [go_sem, reduceCtorEq, Nat.reduceAdd, Nat.reduceMul, Nat.reduceSub, Nat.reduceLT, Nat.reduceLeDiff, Nat.reduceEqDiff, Nat.reduceBEq, Nat.reducePow]; rfl) (Marks.nil _) ?_)
  simp only [Vthen, VinBlock, if_true, if_false, Nat.reduceEqDiff, reduceCtorEq]
  refine WpV.cond rfl (fun hb => by cases hb) (fun hb => WpV.skip ?_)
  simp only [Vthen, VinBlock, if_true, if_false, Nat.reduceEqDiff, reduceCtorEq]
  cases hf : fewestF w (c.leftP n) with
  | none =>
    rw [hf] at h
    unfold resF at h
    refine WpV.seq (WpV.region ?_)
    refine WpOps.take 1 (by simp only [go_sem, reduceCtorEq, Nat.reduceAdd, Nat.reduceMul, Nat.reduceSub, Nat.reduceLT, Nat.reduceLeDiff, Nat.reduceEqDiff, Nat.reduceBEq, Nat.reducePow]; rfl) ?_
    refine WpOps.step (by rfl) (by rfl) (OpW.callY rfl (by rfl) (by rfl) (by rfl) (enters_of Tryz.func35 (by kernel_rfl) rfl) ((box_of H c hc.ok hc.keys).mono ?_))
    rintro _ _ ⟨rfl, hH⟩
    replace hH := hH.symm
    subst hH
    refine WpOps.take 2 (by simp only [go_sem, reduceCtorEq, Nat.reduceAdd, Nat.reduceMul, Nat.reduceSub, Nat.reduceLT, Nat.reduceLeDiff, Nat.reduceEqDiff, Nat.reduceBEq, Nat.reducePow]; rfl) ?_
    refine WpOps.step (by rfl) (by rfl) (OpW.callY rfl (by rfl) (by rfl) (by rfl) (enters_of Tryz.func48 (by kernel_rfl) rfl) ((h).mono ?_))
    rintro _ _ ⟨rfl, hH⟩
    replace hH := hH.symm
    subst hH
    refine WpOps.take 5 (by simp only [go_sem, reduceCtorEq, Nat.reduceAdd, Nat.reduceMul, Nat.reduceSub, Nat.reduceLT, Nat.reduceLeDiff, Nat.reduceEqDiff, Nat.reduceBEq, Nat.reducePow]; rfl) (WpOps.nil ⟨Marks.nil _, ?_⟩)
    simp only [Vthen, VinBlock, if_true, if_false, Nat.reduceEqDiff, reduceCtorEq]
    refine WpV.seq (WpV.block ?_)
    refine WpV.seq (WpV.regionE (by simp only [go_sem, reduceCtorEq, Nat.reduceAdd, Nat.reduceMul, Nat.reduceSub, Nat.reduceLT, Nat.reduceLeDiff, Nat.reduceEqDiff, Nat.reduceBEq, Nat.reducePow]; rfl) (Marks.nil _) ?_)
    simp only [Vthen, VinBlock, if_true, if_false, Nat.reduceEqDiff, reduceCtorEq]
    refine WpV.cond rfl (fun hb => ?_) (fun hb => by cases hb)
    refine WpV.seq (WpV.regionE (by simp only [go_sem, reduceCtorEq, Nat.reduceAdd, Nat.reduceMul, Nat.reduceSub, Nat.reduceLT, Nat.reduceLeDiff, Nat.reduceEqDiff, Nat.reduceBEq, Nat.reducePow]; rfl) (Marks.nil _) ?_)
    simp only [Vthen, VinBlock, if_true, if_false, Nat.reduceEqDiff, reduceCtorEq]
    refine WpV.ret ⟨Marks.nil _, List.nodup_nil, _, by simp only [Tryz.results21]; simp only [go_sem, reduceCtorEq, Nat.reduceAdd, Nat.reduceMul, Nat.reduceSub, Nat.reduceLT, Nat.reduceLeDiff, Nat.reduceEqDiff, Nat.reduceBEq, Nat.reducePow]; rfl, ?_⟩
    exact ⟨rfl, rfl⟩
  | some b =>
    rw [hf] at h
    unfold resF at h
    refine WpV.seq (WpV.region ?_)
    refine WpOps.take 1 (by simp only [go_sem, reduceCtorEq, Nat.reduceAdd, Nat.reduceMul, Nat.reduceSub, Nat.reduceLT, Nat.reduceLeDiff, Nat.reduceEqDiff, Nat.reduceBEq, Nat.reducePow]; rfl) ?_
    refine WpOps.step (by rfl) (by rfl) (OpW.callY rfl (by rfl) (by rfl) (by rfl) (enters_of Tryz.func35 (by kernel_rfl) rfl) ((box_of H c hc.ok hc.keys).mono ?_))
    rintro _ _ ⟨rfl, hH⟩
    replace hH := hH.symm
    subst hH
    refine WpOps.take 2 (by simp only [go_sem, reduceCtorEq, Nat.reduceAdd, Nat.reduceMul, Nat.reduceSub, Nat.reduceLT, Nat.reduceLeDiff, Nat.reduceEqDiff, Nat.reduceBEq, Nat.reducePow]; rfl) ?_
    refine WpOps.step (by rfl) (by rfl) (OpW.callY rfl (by rfl) (by rfl) (by rfl) (enters_of Tryz.func48 (by kernel_rfl) rfl) ((h).mono ?_))
    rintro _ _ ⟨rfl, hH⟩
    replace hH := hH.symm
    subst hH
    refine WpOps.take 5 (by simp only [go_sem, reduceCtorEq, Nat.reduceAdd, Nat.reduceMul, Nat.reduceSub, Nat.reduceLT, Nat.reduceLeDiff, Nat.reduceEqDiff, Nat.reduceBEq, Nat.reducePow]; rfl) (WpOps.nil ⟨Marks.nil _, ?_⟩)
    simp only [Vthen, VinBlock, if_true, if_false, Nat.reduceEqDiff, reduceCtorEq]
    refine WpV.seq (WpV.block ?_)
    refine WpV.seq (WpV.regionE (by simp only [go_sem, reduceCtorEq, Nat.reduceAdd, Nat.reduceMul, Nat.reduceSub, Nat.reduceLT, Nat.reduceLeDiff, Nat.reduceEqDiff, Nat.reduceBEq, Nat.reducePow]; rfl) (Marks.nil _) ?_)
    simp only [Vthen, VinBlock, if_true, if_false, Nat.reduceEqDiff, reduceCtorEq]
    refine WpV.cond rfl (fun hb => by cases hb) (fun hb => ?_)
    by_cases h0 : b.length = 0
    · have e0 : ((b.length : Int) == 0) = true := by rw [h0]; rfl
      refine WpV.seq (WpV.regionE (by simp only [go_sem, reduceCtorEq, Nat.reduceAdd, Nat.reduceMul, Nat.reduceSub, Nat.reduceLT, Nat.reduceLeDiff, Nat.reduceEqDiff, Nat.reduceBEq, Nat.reducePow, e0]; rfl) (Marks.nil _) ?_)
      simp only [Vthen, VinBlock, if_true, if_false, Nat.reduceEqDiff, reduceCtorEq]
      refine WpV.cond rfl (fun hb => ?_) (fun hb => by cases hb)
      refine WpV.seq (WpV.regionE (by simp only [go_sem, reduceCtorEq, Nat.reduceAdd, Nat.reduceMul, Nat.reduceSub, Nat.reduceLT, Nat.reduceLeDiff, Nat.reduceEqDiff, Nat.reduceBEq, Nat.reducePow]; rfl) (Marks.nil _) ?_)
      simp only [Vthen, VinBlock, if_true, if_false, Nat.reduceEqDiff, reduceCtorEq]
      refine WpV.ret ⟨Marks.nil _, List.nodup_nil, _, by simp only [Tryz.results21]; simp only [go_sem, reduceCtorEq, Nat.reduceAdd, Nat.reduceMul, Nat.reduceSub, Nat.reduceLT, Nat.reduceLeDiff, Nat.reduceEqDiff, Nat.reduceBEq, Nat.reducePow]; rfl, ?_⟩
      exact ⟨by simp [placesF, h0], rfl⟩
    · have e0 : ((b.length : Int) == 0) = false := by simp; intro e; exact h0 (by rw [e]; rfl)
      refine WpV.seq (WpV.regionE (by simp only [go_sem, reduceCtorEq, Nat.reduceAdd, Nat.reduceMul, Nat.reduceSub, Nat.reduceLT, Nat.reduceLeDiff, Nat.reduceEqDiff, Nat.reduceBEq, Nat.reducePow, e0]; rfl) (Marks.nil _) ?_)
      simp only [Vthen, VinBlock, if_true, if_false, Nat.reduceEqDiff, reduceCtorEq]
      refine WpV.cond rfl (fun hb => by cases hb) (fun hb => WpV.skip ?_)
      simp only [Vthen, VinBlock, if_true, if_false, Nat.reduceEqDiff, reduceCtorEq]
      refine WpV.seq (WpV.regionE (by simp only [go_sem, reduceCtorEq, Nat.reduceAdd, Nat.reduceMul, Nat.reduceSub, Nat.reduceLT, Nat.reduceLeDiff, Nat.reduceEqDiff, Nat.reduceBEq, Nat.reducePow]; rfl) (Marks.nil _) ?_)
      simp only [Vthen, VinBlock, if_true, if_false, Nat.reduceEqDiff, reduceCtorEq]
      refine WpV.ret ⟨Marks.nil _, List.nodup_nil, _, by simp only [Tryz.results21]; simp only [go_sem, reduceCtorEq, Nat.reduceAdd, Nat.reduceMul, Nat.reduceSub, Nat.reduceLT, Nat.reduceLeDiff, Nat.reduceEqDiff, Nat.reduceBEq, Nat.reducePow]; rfl, ?_⟩
      exact ⟨by simp [placesF, h0], rfl⟩

def wrongP (most : Int) (looks : List Int) : Bool := decide (spreadF looks ≤ most)
theorem wrong_one (H : Hp) (most : Int) (l b : List Int) (hl : Tame l) : CallV Tryz.prog 80 [selfV (withoutF l b), .cp [vint most] 0] H (fun r H' => r = .bool (wrongP most (withoutF l b)) ∧ H' = H) := by
  have hlen : (withoutF l b).length ≤ l.length := withoutN_len l b l.length
  have hmem : ∀ x ∈ withoutF l b, x ∈ l := fun x hx => withoutF_mem hx
  generalize withoutF l b = rest at hlen hmem
  refine CallV.body Tryz.func80 rfl Tryz.ntmps80 (by rfl) ?_
  refine WpV.seq (WpV.regionE (by simp only [go_sem, reduceCtorEq, Nat.reduceAdd, Nat.reduceMul, Nat.reduceSub, Nat.reduceLT, Nat.reduceLeDiff, Nat.reduceEqDiff, Nat.reduceBEq, Nat.reducePow]; rfl) (Marks.nil _) ?_)
  simp only [Vthen, VinBlock, if_true, if_false, Nat.reduceEqDiff, reduceCtorEq]
  refine WpV.seq (WpV.regionD Tryz.mixed (by kernel_rfl) (by kernel_rfl) ?_)
  refine LexD.take 1 (by rfl) (by simp only [go_sem, reduceCtorEq, Nat.reduceAdd, Nat.reduceMul, Nat.reduceSub, Nat.reduceLT, Nat.reduceLeDiff, Nat.reduceEqDiff, Nat.reduceBEq, Nat.reducePow]; rfl) ?_
  refine LexD.step (by rfl) (by rfl) (OpW.callY rfl (by rfl) (by rfl) (by rfl) (enters_of Tryz.func47 (by kernel_rfl) rfl) (spread_any H _ _ rest ⟨by have := hl.1; omega, fun x hx => hl.2 x (hmem x hx)⟩)) ?_
  refine LexD.take 3 (by rfl) (by simp only [go_sem, reduceCtorEq, Nat.reduceAdd, Nat.reduceMul, Nat.reduceSub, Nat.reduceLT, Nat.reduceLeDiff, Nat.reduceEqDiff, Nat.reduceBEq, Nat.reducePow]; rfl) (LexD.nilE ⟨Marks.nil _, ?_⟩)
  simp only [Vthen, VinBlock, if_true, if_false, Nat.reduceEqDiff, reduceCtorEq]
  refine WpV.ret ⟨Marks.nil _, List.nodup_nil, _, by simp only [Tryz.results80]; simp only [go_sem, reduceCtorEq, Nat.reduceAdd, Nat.reduceMul, Nat.reduceSub, Nat.reduceLT, Nat.reduceLeDiff, Nat.reduceEqDiff, Nat.reduceBEq, Nat.reducePow]; rfl, ?_⟩
  exact ⟨rfl, rfl⟩

def rowO (x : Option (List Int)) : AV := match x with | some b => rowB b | none => .sl true true 0 []
theorem wrong_any (H : Hp) (c : Cs) (hc : c.Fair) (nl clip nl2 clip2 : Bool) (w gs : List Int) (most : Int) (hw : c.Word w) (hgl : gs.length = w.length - 1) (hgs : ∀ x ∈ gs, 0 ≤ x ∧ x ≤ 400) :
    CallV Tryz.prog 56 [.agg c.box, vints nl clip w, vints nl2 clip2 gs, vint most] H (fun r H' => r = rowO (fewestF (c.looksF w gs) (wrongP most)) ∧ H' = H) := by
  have ht := Cs.looks_tame hc hw hgl hgs
  have hll := Cs.looks_len (c := c) hgl
  have h := fewest_any H (true && decide ((c.looksF w gs).length = 0)) (decide ((c.looksF w gs).length = 0)) (c.looksF w gs) (by have := hw.2.1; omega) 80 [] [.cp [vint most] 0] (wrongP most) ⟨enters_of Tryz.func80 (by kernel_rfl) rfl, fun b H => wrong_one H most _ b ht⟩
  cases hf : fewestF (c.looksF w gs) (wrongP most) with
  | none =>
    rw [hf] at h
    unfold resF at h
    refine CallV.body Tryz.func56 rfl Tryz.ntmps56 (by rfl) ?_
    refine WpV.seq (WpV.regionE (by simp only [go_sem, reduceCtorEq, Nat.reduceAdd, Nat.reduceMul, Nat.reduceSub, Nat.reduceLT, Nat.reduceLeDiff, Nat.reduceEqDiff, Nat.reduceBEq, Nat.reducePow]; rfl) (Marks.nil _) ?_)
    simp only [Vthen, VinBlock, if_true, if_false, Nat.reduceEqDiff, reduceCtorEq]
    refine WpV.seq (WpV.region ?_)
    refine WpOps.take 3 (by simp only [go_sem, reduceCtorEq, Nat.reduceAdd, Nat.reduceMul, Nat.reduceSub, Nat.reduceLT, Nat.reduceLeDiff, Nat.reduceEqDiff, Nat.reduceBEq, Nat.reducePow]; rfl) ?_
    refine WpOps.step (by rfl) (by rfl) (OpW.callY rfl (by rfl) (by rfl) (by rfl) (enters_of Tryz.func46 (by kernel_rfl) rfl) ((looks_call H c hc nl clip nl2 clip2 w gs hw hgl hgs).mono ?_))
    rintro _ _ ⟨rfl, hH⟩
    replace hH := hH.symm
    subst hH
    refine WpOps.take 1 (by simp only [go_sem, reduceCtorEq, Nat.reduceAdd, Nat.reduceMul, Nat.reduceSub, Nat.reduceLT, Nat.reduceLeDiff, Nat.reduceEqDiff, Nat.reduceBEq, Nat.reducePow]; rfl) ?_
    refine WpOps.step (by rfl) (by rfl) (OpW.callY rfl (by rfl) (by rfl) (by rfl) (enters_of Tryz.func70 (by kernel_rfl) rfl) ((h).mono ?_))
    rintro _ _ ⟨rfl, hH⟩
    replace hH := hH.symm
    subst hH
    refine WpOps.take 5 (by simp only [go_sem, reduceCtorEq, Nat.reduceAdd, Nat.reduceMul, Nat.reduceSub, Nat.reduceLT, Nat.reduceLeDiff, Nat.reduceEqDiff, Nat.reduceBEq, Nat.reducePow]; rfl) (WpOps.nil ⟨Marks.nil _, ?_⟩)
    simp only [Vthen, VinBlock, if_true, if_false, Nat.reduceEqDiff, reduceCtorEq]
    refine WpV.seq (WpV.regionE (by simp only [go_sem, reduceCtorEq, Nat.reduceAdd, Nat.reduceMul, Nat.reduceSub, Nat.reduceLT, Nat.reduceLeDiff, Nat.reduceEqDiff, Nat.reduceBEq, Nat.reducePow]; rfl) (Marks.nil _) ?_)
    simp only [Vthen, VinBlock, if_true, if_false, Nat.reduceEqDiff, reduceCtorEq]
    refine WpV.ret ⟨Marks.nil _, List.nodup_nil, _, by simp only [Tryz.results56]; simp only [go_sem, reduceCtorEq, Nat.reduceAdd, Nat.reduceMul, Nat.reduceSub, Nat.reduceLT, Nat.reduceLeDiff, Nat.reduceEqDiff, Nat.reduceBEq, Nat.reducePow]; rfl, ?_⟩
    exact ⟨rfl, rfl⟩
  | some b =>
    rw [hf] at h
    unfold resF at h
    refine CallV.body Tryz.func56 rfl Tryz.ntmps56 (by rfl) ?_
    refine WpV.seq (WpV.regionE (by simp only [go_sem, reduceCtorEq, Nat.reduceAdd, Nat.reduceMul, Nat.reduceSub, Nat.reduceLT, Nat.reduceLeDiff, Nat.reduceEqDiff, Nat.reduceBEq, Nat.reducePow]; rfl) (Marks.nil _) ?_)
    simp only [Vthen, VinBlock, if_true, if_false, Nat.reduceEqDiff, reduceCtorEq]
    refine WpV.seq (WpV.region ?_)
    refine WpOps.take 3 (by simp only [go_sem, reduceCtorEq, Nat.reduceAdd, Nat.reduceMul, Nat.reduceSub, Nat.reduceLT, Nat.reduceLeDiff, Nat.reduceEqDiff, Nat.reduceBEq, Nat.reducePow]; rfl) ?_
    refine WpOps.step (by rfl) (by rfl) (OpW.callY rfl (by rfl) (by rfl) (by rfl) (enters_of Tryz.func46 (by kernel_rfl) rfl) ((looks_call H c hc nl clip nl2 clip2 w gs hw hgl hgs).mono ?_))
    rintro _ _ ⟨rfl, hH⟩
    replace hH := hH.symm
    subst hH
    refine WpOps.take 1 (by simp only [go_sem, reduceCtorEq, Nat.reduceAdd, Nat.reduceMul, Nat.reduceSub, Nat.reduceLT, Nat.reduceLeDiff, Nat.reduceEqDiff, Nat.reduceBEq, Nat.reducePow]; rfl) ?_
    refine WpOps.step (by rfl) (by rfl) (OpW.callY rfl (by rfl) (by rfl) (by rfl) (enters_of Tryz.func70 (by kernel_rfl) rfl) ((h).mono ?_))
    rintro _ _ ⟨rfl, hH⟩
    replace hH := hH.symm
    subst hH
    refine WpOps.take 5 (by simp only [go_sem, reduceCtorEq, Nat.reduceAdd, Nat.reduceMul, Nat.reduceSub, Nat.reduceLT, Nat.reduceLeDiff, Nat.reduceEqDiff, Nat.reduceBEq, Nat.reducePow]; rfl) (WpOps.nil ⟨Marks.nil _, ?_⟩)
    simp only [Vthen, VinBlock, if_true, if_false, Nat.reduceEqDiff, reduceCtorEq]
    refine WpV.seq (WpV.regionE (by simp only [go_sem, reduceCtorEq, Nat.reduceAdd, Nat.reduceMul, Nat.reduceSub, Nat.reduceLT, Nat.reduceLeDiff, Nat.reduceEqDiff, Nat.reduceBEq, Nat.reducePow]; rfl) (Marks.nil _) ?_)
    simp only [Vthen, VinBlock, if_true, if_false, Nat.reduceEqDiff, reduceCtorEq]
    refine WpV.ret ⟨Marks.nil _, List.nodup_nil, _, by simp only [Tryz.results56]; simp only [go_sem, reduceCtorEq, Nat.reduceAdd, Nat.reduceMul, Nat.reduceSub, Nat.reduceLT, Nat.reduceLeDiff, Nat.reduceEqDiff, Nat.reduceBEq, Nat.reducePow]; rfl, ?_⟩
    exact ⟨rfl, rfl⟩

def orTwice (x : Option (List Int)) : AV := match x with
  | none => .tup [.sl true true 0 [], vint 6]
  | some b => if b.length = 0 then .tup [.sl true true 0 [], vint 6] else .tup [rowB b, vint 0]
theorem Wrong_any (H : Hp) (c : Cs) (hc : c.Valid) (nl clip nl2 clip2 : Bool) (w gs : List Int) (most : Int) (hw : c.word w = true) (hg : gapsB w gs = true) (hm : 0 ≤ most ∧ most ≤ 400) :
    CallV Tryz.prog 33 [.agg c.cells, vints nl clip w, vints nl2 clip2 gs, vint most] H (fun r H' => r = orTwice (fewestF (c.looksF w gs) (wrongP most)) ∧ H' = H) := by
  have hW := Cs.word_iff.1 hw
  obtain ⟨hg1, hg2⟩ := gaps_iff.1 hg
  have h7 := hW.2.1
  have h1 := hW.1
  have h := wrong_any H c hc.fair nl clip nl2 clip2 w gs most hW (by omega) hg2
  have hmo := within_any H 0 400 false true [most] (by simp)
  rw [show insB 0 400 [most] = true by rw [insB_iff]; simpa using hm] at hmo
  refine CallV.body Tryz.func33 rfl Tryz.ntmps33 (by rfl) ?_
  refine WpV.seq (WpV.regionE (by simp only [go_sem, reduceCtorEq, Nat.reduceAdd, Nat.reduceMul, Nat.reduceSub, Nat.reduceLT, Nat.reduceLeDiff, Nat.reduceEqDiff, Nat.reduceBEq, Nat.reducePow]; rfl) (Marks.nil _) ?_)
  simp only [Vthen, VinBlock, if_true, if_false, Nat.reduceEqDiff, reduceCtorEq]
  refine WpV.seq ?_
  refine WpV.seq (WpV.region ?_)
  refine WpOps.take 3 (by simp only [go_sem, reduceCtorEq, Nat.reduceAdd, Nat.reduceMul, Nat.reduceSub, Nat.reduceLT, Nat.reduceLeDiff, Nat.reduceEqDiff, Nat.reduceBEq, Nat.reducePow]; rfl) ?_
  refine WpOps.step (by rfl) (by rfl) (OpW.callY rfl (by rfl) (by rfl) (by rfl) (enters_of Tryz.func45 (by kernel_rfl) rfl) ((checkGaps_ok H c hc nl clip nl2 clip2 w gs hw hg (by omega)).mono ?_))
  rintro _ _ ⟨rfl, hH⟩
  replace hH := hH.symm
  subst hH
  refine WpOps.take 1 (by simp only [go_sem, reduceCtorEq, Nat.reduceAdd, Nat.reduceMul, Nat.reduceSub, Nat.reduceLT, Nat.reduceLeDiff, Nat.reduceEqDiff, Nat.reduceBEq, Nat.reducePow]; rfl) (WpOps.nil ⟨Marks.nil _, ?_⟩)
  simp only [Vthen, VinBlock, if_true, if_false, Nat.reduceEqDiff, reduceCtorEq]
  refine WpV.seq (WpV.regionE (by simp only [go_sem, reduceCtorEq, Nat.reduceAdd, Nat.reduceMul, Nat.reduceSub, Nat.reduceLT, Nat.reduceLeDiff, Nat.reduceEqDiff, Nat.reduceBEq, Nat.reducePow]; rfl) (Marks.nil _) ?_)
  simp only [Vthen, VinBlock, if_true, if_false, Nat.reduceEqDiff, reduceCtorEq]
  refine WpV.cond rfl (fun hb => by cases hb) (fun hb => WpV.skip ?_)
  simp only [Vthen, VinBlock, if_true, if_false, Nat.reduceEqDiff, reduceCtorEq]
  refine WpV.seq ?_
  refine WpV.seq (WpV.region ?_)
  refine WpOps.take 2 (by simp only [go_sem, reduceCtorEq, Nat.reduceAdd, Nat.reduceMul, Nat.reduceSub, Nat.reduceLT, Nat.reduceLeDiff, Nat.reduceEqDiff, Nat.reduceBEq, Nat.reducePow]; rfl) ?_
  refine WpOps.step (by rfl) (by rfl) (OpW.callY rfl (by rfl) (by rfl) (by rfl) (enters_of Tryz.func49 (by kernel_rfl) rfl) ((hmo).mono ?_))
  rintro _ _ ⟨rfl, hH⟩
  replace hH := hH.symm
  subst hH
  refine WpOps.take 1 (by simp only [go_sem, reduceCtorEq, Nat.reduceAdd, Nat.reduceMul, Nat.reduceSub, Nat.reduceLT, Nat.reduceLeDiff, Nat.reduceEqDiff, Nat.reduceBEq, Nat.reducePow]; rfl) (WpOps.nil ⟨Marks.nil _, ?_⟩)
  simp only [Vthen, VinBlock, if_true, if_false, Nat.reduceEqDiff, reduceCtorEq]
  refine WpV.cond rfl (fun hb => by cases hb) (fun hb => WpV.skip ?_)
  simp only [Vthen, VinBlock, if_true, if_false, Nat.reduceEqDiff, reduceCtorEq]
  cases hf : fewestF (c.looksF w gs) (wrongP most) with
  | none =>
    rw [hf] at h
    unfold rowO at h
    refine WpV.seq (WpV.region ?_)
    refine WpOps.take 1 (by simp only [go_sem, reduceCtorEq, Nat.reduceAdd, Nat.reduceMul, Nat.reduceSub, Nat.reduceLT, Nat.reduceLeDiff, Nat.reduceEqDiff, Nat.reduceBEq, Nat.reducePow]; rfl) ?_
    refine WpOps.step (by rfl) (by rfl) (OpW.callY rfl (by rfl) (by rfl) (by rfl) (enters_of Tryz.func35 (by kernel_rfl) rfl) ((box_of H c hc.ok hc.keys).mono ?_))
    rintro _ _ ⟨rfl, hH⟩
    replace hH := hH.symm
    subst hH
    refine WpOps.take 3 (by simp only [go_sem, reduceCtorEq, Nat.reduceAdd, Nat.reduceMul, Nat.reduceSub, Nat.reduceLT, Nat.reduceLeDiff, Nat.reduceEqDiff, Nat.reduceBEq, Nat.reducePow]; rfl) ?_
    refine WpOps.step (by rfl) (by rfl) (OpW.callY rfl (by rfl) (by rfl) (by rfl) (enters_of Tryz.func56 (by kernel_rfl) rfl) ((h).mono ?_))
    rintro _ _ ⟨rfl, hH⟩
    replace hH := hH.symm
    subst hH
    refine WpOps.take 1 (by simp only [go_sem, reduceCtorEq, Nat.reduceAdd, Nat.reduceMul, Nat.reduceSub, Nat.reduceLT, Nat.reduceLeDiff, Nat.reduceEqDiff, Nat.reduceBEq, Nat.reducePow]; rfl) (WpOps.nil ⟨Marks.nil _, ?_⟩)
    simp only [Vthen, VinBlock, if_true, if_false, Nat.reduceEqDiff, reduceCtorEq]
    refine WpV.seq ?_
    refine WpV.seq (WpV.regionE (by simp only [go_sem, reduceCtorEq, Nat.reduceAdd, Nat.reduceMul, Nat.reduceSub, Nat.reduceLT, Nat.reduceLeDiff, Nat.reduceEqDiff, Nat.reduceBEq, Nat.reducePow]; rfl) (Marks.nil _) ?_)
    simp only [Vthen, VinBlock, if_true, if_false, Nat.reduceEqDiff, reduceCtorEq]
    refine WpV.cond rfl (fun hb => ?_) (fun hb => by cases hb)
    refine WpV.seq (WpV.regionE (by simp only [go_sem, reduceCtorEq, Nat.reduceAdd, Nat.reduceMul, Nat.reduceSub, Nat.reduceLT, Nat.reduceLeDiff, Nat.reduceEqDiff, Nat.reduceBEq, Nat.reducePow]; rfl) (Marks.nil _) ?_)
    simp only [Vthen, VinBlock, if_true, if_false, Nat.reduceEqDiff, reduceCtorEq]
    refine WpV.ret ⟨Marks.nil _, List.nodup_nil, _, by simp only [Tryz.results33]; simp only [go_sem, reduceCtorEq, Nat.reduceAdd, Nat.reduceMul, Nat.reduceSub, Nat.reduceLT, Nat.reduceLeDiff, Nat.reduceEqDiff, Nat.reduceBEq, Nat.reducePow]; rfl, ?_⟩
    exact ⟨rfl, rfl⟩
  | some b =>
    rw [hf] at h
    unfold rowO at h
    refine WpV.seq (WpV.region ?_)
    refine WpOps.take 1 (by simp only [go_sem, reduceCtorEq, Nat.reduceAdd, Nat.reduceMul, Nat.reduceSub, Nat.reduceLT, Nat.reduceLeDiff, Nat.reduceEqDiff, Nat.reduceBEq, Nat.reducePow]; rfl) ?_
    refine WpOps.step (by rfl) (by rfl) (OpW.callY rfl (by rfl) (by rfl) (by rfl) (enters_of Tryz.func35 (by kernel_rfl) rfl) ((box_of H c hc.ok hc.keys).mono ?_))
    rintro _ _ ⟨rfl, hH⟩
    replace hH := hH.symm
    subst hH
    refine WpOps.take 3 (by simp only [go_sem, reduceCtorEq, Nat.reduceAdd, Nat.reduceMul, Nat.reduceSub, Nat.reduceLT, Nat.reduceLeDiff, Nat.reduceEqDiff, Nat.reduceBEq, Nat.reducePow]; rfl) ?_
    refine WpOps.step (by rfl) (by rfl) (OpW.callY rfl (by rfl) (by rfl) (by rfl) (enters_of Tryz.func56 (by kernel_rfl) rfl) ((h).mono ?_))
    rintro _ _ ⟨rfl, hH⟩
    replace hH := hH.symm
    subst hH
    refine WpOps.take 1 (by simp only [go_sem, reduceCtorEq, Nat.reduceAdd, Nat.reduceMul, Nat.reduceSub, Nat.reduceLT, Nat.reduceLeDiff, Nat.reduceEqDiff, Nat.reduceBEq, Nat.reducePow]; rfl) (WpOps.nil ⟨Marks.nil _, ?_⟩)
    simp only [Vthen, VinBlock, if_true, if_false, Nat.reduceEqDiff, reduceCtorEq]
    refine WpV.seq ?_
    by_cases h0 : b.length = 0
    · have e0 : ((b.length : Int) == 0) = true := by rw [h0]; rfl
      refine WpV.seq (WpV.regionE (by simp only [go_sem, reduceCtorEq, Nat.reduceAdd, Nat.reduceMul, Nat.reduceSub, Nat.reduceLT, Nat.reduceLeDiff, Nat.reduceEqDiff, Nat.reduceBEq, Nat.reducePow, e0]; rfl) (Marks.nil _) ?_)
      simp only [Vthen, VinBlock, if_true, if_false, Nat.reduceEqDiff, reduceCtorEq]
      refine WpV.cond rfl (fun hb => ?_) (fun hb => by cases hb)
      refine WpV.seq (WpV.regionE (by simp only [go_sem, reduceCtorEq, Nat.reduceAdd, Nat.reduceMul, Nat.reduceSub, Nat.reduceLT, Nat.reduceLeDiff, Nat.reduceEqDiff, Nat.reduceBEq, Nat.reducePow]; rfl) (Marks.nil _) ?_)
      simp only [Vthen, VinBlock, if_true, if_false, Nat.reduceEqDiff, reduceCtorEq]
      refine WpV.ret ⟨Marks.nil _, List.nodup_nil, _, by simp only [Tryz.results33]; simp only [go_sem, reduceCtorEq, Nat.reduceAdd, Nat.reduceMul, Nat.reduceSub, Nat.reduceLT, Nat.reduceLeDiff, Nat.reduceEqDiff, Nat.reduceBEq, Nat.reducePow]; rfl, ?_⟩
      exact ⟨by simp [orTwice, h0], rfl⟩
    · have e0 : ((b.length : Int) == 0) = false := by simp; intro e; exact h0 (by rw [e]; rfl)
      refine WpV.seq (WpV.regionE (by simp only [go_sem, reduceCtorEq, Nat.reduceAdd, Nat.reduceMul, Nat.reduceSub, Nat.reduceLT, Nat.reduceLeDiff, Nat.reduceEqDiff, Nat.reduceBEq, Nat.reducePow, e0]; rfl) (Marks.nil _) ?_)
      simp only [Vthen, VinBlock, if_true, if_false, Nat.reduceEqDiff, reduceCtorEq]
      refine WpV.cond rfl (fun hb => by cases hb) (fun hb => WpV.skip ?_)
      simp only [Vthen, VinBlock, if_true, if_false, Nat.reduceEqDiff, reduceCtorEq]
      refine WpV.seq (WpV.regionE (by simp only [go_sem, reduceCtorEq, Nat.reduceAdd, Nat.reduceMul, Nat.reduceSub, Nat.reduceLT, Nat.reduceLeDiff, Nat.reduceEqDiff, Nat.reduceBEq, Nat.reducePow]; rfl) (Marks.nil _) ?_)
      simp only [Vthen, VinBlock, if_true, if_false, Nat.reduceEqDiff, reduceCtorEq]
      refine WpV.ret ⟨Marks.nil _, List.nodup_nil, _, by simp only [Tryz.results33]; simp only [go_sem, reduceCtorEq, Nat.reduceAdd, Nat.reduceMul, Nat.reduceSub, Nat.reduceLT, Nat.reduceLeDiff, Nat.reduceEqDiff, Nat.reduceBEq, Nat.reducePow]; rfl, ?_⟩
      exact ⟨by simp [orTwice, h0], rfl⟩
end Go.Proofs.YtaekibilldjnmaaGreat
namespace Go.Proofs.YtaekibilldjnmaaGreat
open Go.Proofs

def widthV (x : Int) : AV := if x < 1 then .tup [vint 0, vint 8] else .tup [vint x, vint 0]
theorem Widest_any (H : Hp) (c : Cs) (hc : c.Valid) (clip : Bool) (w : List Int) (k : Nat) (n : Int) (hw : c.word w = true) (hk : k < w.length) (hn : 1 ≤ n ∧ n ≤ 400) :
    CallV Tryz.prog 27 [.agg c.cells, vints false clip w, vint k, vint n] H (fun r H' => r = widthV (c.widestF w k n) ∧ H' = H) := by
  have hW := Cs.word_iff.1 hw
  have hl : w.length < 1000000 := by have := hW.2.1; omega
  have h1 := within_any H 0 (IntKind.i64.wrap ((w.length : Int) - 1)) false true [(k : Int)] (by simp)
  rw [show insB 0 (IntKind.i64.wrap ((w.length : Int) - 1)) [(k : Int)] = true by rw [insB_iff, wrap64 (by omega)]; simp; omega] at h1
  have h2 := lengths_any H false true [n] (by simp)
  rw [show insB 1 400 [n] = true by rw [insB_iff]; simpa using hn] at h2
  refine CallV.body Tryz.func27 rfl Tryz.ntmps27 (by rfl) ?_
  refine WpV.seq (WpV.regionE (by simp only [go_sem, reduceCtorEq, Nat.reduceAdd, Nat.reduceMul, Nat.reduceSub, Nat.reduceLT, Nat.reduceLeDiff, Nat.reduceEqDiff, Nat.reduceBEq, Nat.reducePow]; rfl) (Marks.nil _) ?_)
  simp only [Vthen, VinBlock, if_true, if_false, Nat.reduceEqDiff, reduceCtorEq]
  refine WpV.seq ?_
  refine WpV.seq (WpV.region ?_)
  refine WpOps.take 2 (by simp only [go_sem, reduceCtorEq, Nat.reduceAdd, Nat.reduceMul, Nat.reduceSub, Nat.reduceLT, Nat.reduceLeDiff, Nat.reduceEqDiff, Nat.reduceBEq, Nat.reducePow]; rfl) ?_
  refine WpOps.step (by rfl) (by rfl) (OpW.callY rfl (by rfl) (by rfl) (by rfl) (enters_of Tryz.func34 (by kernel_rfl) rfl) ((checkWord_ok H c hc false clip w hl hw).mono ?_))
  rintro _ _ ⟨rfl, hH⟩
  replace hH := hH.symm
  subst hH
  refine WpOps.take 1 (by simp only [go_sem, reduceCtorEq, Nat.reduceAdd, Nat.reduceMul, Nat.reduceSub, Nat.reduceLT, Nat.reduceLeDiff, Nat.reduceEqDiff, Nat.reduceBEq, Nat.reducePow]; rfl) (WpOps.nil ⟨Marks.nil _, ?_⟩)
  simp only [Vthen, VinBlock, if_true, if_false, Nat.reduceEqDiff, reduceCtorEq]
  refine WpV.seq (WpV.regionE (by simp only [go_sem, reduceCtorEq, Nat.reduceAdd, Nat.reduceMul, Nat.reduceSub, Nat.reduceLT, Nat.reduceLeDiff, Nat.reduceEqDiff, Nat.reduceBEq, Nat.reducePow]; rfl) (Marks.nil _) ?_)
  simp only [Vthen, VinBlock, if_true, if_false, Nat.reduceEqDiff, reduceCtorEq]
  refine WpV.cond rfl (fun hb => by cases hb) (fun hb => WpV.skip ?_)
  simp only [Vthen, VinBlock, if_true, if_false, Nat.reduceEqDiff, reduceCtorEq]
  refine WpV.seq ?_
  refine WpV.seq (WpV.region ?_)
  refine WpOps.take 5 (by simp only [go_sem, reduceCtorEq, Nat.reduceAdd, Nat.reduceMul, Nat.reduceSub, Nat.reduceLT, Nat.reduceLeDiff, Nat.reduceEqDiff, Nat.reduceBEq, Nat.reducePow]; rfl) ?_
  refine WpOps.step (by rfl) (by rfl) (OpW.callY rfl (by rfl) (by rfl) (by rfl) (enters_of Tryz.func49 (by kernel_rfl) rfl) ((h1).mono ?_))
  rintro _ _ ⟨rfl, hH⟩
  replace hH := hH.symm
  subst hH
  refine WpOps.take 1 (by simp only [go_sem, reduceCtorEq, Nat.reduceAdd, Nat.reduceMul, Nat.reduceSub, Nat.reduceLT, Nat.reduceLeDiff, Nat.reduceEqDiff, Nat.reduceBEq, Nat.reducePow]; rfl) (WpOps.nil ⟨Marks.nil _, ?_⟩)
  simp only [Vthen, VinBlock, if_true, if_false, Nat.reduceEqDiff, reduceCtorEq]
  refine WpV.cond rfl (fun hb => by cases hb) (fun hb => WpV.skip ?_)
  simp only [Vthen, VinBlock, if_true, if_false, Nat.reduceEqDiff, reduceCtorEq]
  refine WpV.seq ?_
  refine WpV.seq (WpV.region ?_)
  refine WpOps.take 2 (by simp only [go_sem, reduceCtorEq, Nat.reduceAdd, Nat.reduceMul, Nat.reduceSub, Nat.reduceLT, Nat.reduceLeDiff, Nat.reduceEqDiff, Nat.reduceBEq, Nat.reducePow]; rfl) ?_
  refine WpOps.step (by rfl) (by rfl) (OpW.callY rfl (by rfl) (by rfl) (by rfl) (enters_of Tryz.func50 (by kernel_rfl) rfl) ((h2).mono ?_))
  rintro _ _ ⟨rfl, hH⟩
  replace hH := hH.symm
  subst hH
  refine WpOps.take 1 (by simp only [go_sem, reduceCtorEq, Nat.reduceAdd, Nat.reduceMul, Nat.reduceSub, Nat.reduceLT, Nat.reduceLeDiff, Nat.reduceEqDiff, Nat.reduceBEq, Nat.reducePow]; rfl) (WpOps.nil ⟨Marks.nil _, ?_⟩)
  simp only [Vthen, VinBlock, if_true, if_false, Nat.reduceEqDiff, reduceCtorEq]
  refine WpV.cond rfl (fun hb => by cases hb) (fun hb => WpV.skip ?_)
  simp only [Vthen, VinBlock, if_true, if_false, Nat.reduceEqDiff, reduceCtorEq]
  refine WpV.seq (WpV.region ?_)
  refine WpOps.take 1 (by simp only [go_sem, reduceCtorEq, Nat.reduceAdd, Nat.reduceMul, Nat.reduceSub, Nat.reduceLT, Nat.reduceLeDiff, Nat.reduceEqDiff, Nat.reduceBEq, Nat.reducePow]; rfl) ?_
  refine WpOps.step (by rfl) (by rfl) (OpW.callY rfl (by rfl) (by rfl) (by rfl) (enters_of Tryz.func35 (by kernel_rfl) rfl) ((box_of H c hc.ok hc.keys).mono ?_))
  rintro _ _ ⟨rfl, hH⟩
  replace hH := hH.symm
  subst hH
  refine WpOps.take 3 (by simp only [go_sem, reduceCtorEq, Nat.reduceAdd, Nat.reduceMul, Nat.reduceSub, Nat.reduceLT, Nat.reduceLeDiff, Nat.reduceEqDiff, Nat.reduceBEq, Nat.reducePow]; rfl) ?_
  refine WpOps.step (by rfl) (by rfl) (OpW.callY rfl (by rfl) (by rfl) (by rfl) (enters_of Tryz.func51 (by kernel_rfl) rfl) ((widest_any H c hc clip w hW k hk n hn).mono ?_))
  rintro _ _ ⟨rfl, hH⟩
  replace hH := hH.symm
  subst hH
  refine WpOps.take 1 (by simp only [go_sem, reduceCtorEq, Nat.reduceAdd, Nat.reduceMul, Nat.reduceSub, Nat.reduceLT, Nat.reduceLeDiff, Nat.reduceEqDiff, Nat.reduceBEq, Nat.reducePow]; rfl) (WpOps.nil ⟨Marks.nil _, ?_⟩)
  simp only [Vthen, VinBlock, if_true, if_false, Nat.reduceEqDiff, reduceCtorEq]
  refine WpV.seq ?_
  by_cases h0 : c.widestF w k n < 1
  · refine WpV.seq (WpV.regionE (by simp only [go_sem, reduceCtorEq, Nat.reduceAdd, Nat.reduceMul, Nat.reduceSub, Nat.reduceLT, Nat.reduceLeDiff, Nat.reduceEqDiff, Nat.reduceBEq, Nat.reducePow, h0]; rfl) (Marks.nil _) ?_)
    simp only [Vthen, VinBlock, if_true, if_false, Nat.reduceEqDiff, reduceCtorEq]
    refine WpV.cond rfl (fun hb => ?_) (fun hb => by cases hb)
    refine WpV.seq (WpV.regionE (by simp only [go_sem, reduceCtorEq, Nat.reduceAdd, Nat.reduceMul, Nat.reduceSub, Nat.reduceLT, Nat.reduceLeDiff, Nat.reduceEqDiff, Nat.reduceBEq, Nat.reducePow]; rfl) (Marks.nil _) ?_)
    simp only [Vthen, VinBlock, if_true, if_false, Nat.reduceEqDiff, reduceCtorEq]
    refine WpV.ret ⟨Marks.nil _, List.nodup_nil, _, by simp only [Tryz.results27]; simp only [go_sem, reduceCtorEq, Nat.reduceAdd, Nat.reduceMul, Nat.reduceSub, Nat.reduceLT, Nat.reduceLeDiff, Nat.reduceEqDiff, Nat.reduceBEq, Nat.reducePow]; rfl, ?_⟩
    exact ⟨by simp [widthV, h0], rfl⟩
  · refine WpV.seq (WpV.regionE (by simp only [go_sem, reduceCtorEq, Nat.reduceAdd, Nat.reduceMul, Nat.reduceSub, Nat.reduceLT, Nat.reduceLeDiff, Nat.reduceEqDiff, Nat.reduceBEq, Nat.reducePow, h0]; rfl) (Marks.nil _) ?_)
    simp only [Vthen, VinBlock, if_true, if_false, Nat.reduceEqDiff, reduceCtorEq]
    refine WpV.cond rfl (fun hb => by cases hb) (fun hb => WpV.skip ?_)
    simp only [Vthen, VinBlock, if_true, if_false, Nat.reduceEqDiff, reduceCtorEq]
    refine WpV.seq (WpV.regionE (by simp only [go_sem, reduceCtorEq, Nat.reduceAdd, Nat.reduceMul, Nat.reduceSub, Nat.reduceLT, Nat.reduceLeDiff, Nat.reduceEqDiff, Nat.reduceBEq, Nat.reducePow]; rfl) (Marks.nil _) ?_)
    simp only [Vthen, VinBlock, if_true, if_false, Nat.reduceEqDiff, reduceCtorEq]
    refine WpV.ret ⟨Marks.nil _, List.nodup_nil, _, by simp only [Tryz.results27]; simp only [go_sem, reduceCtorEq, Nat.reduceAdd, Nat.reduceMul, Nat.reduceSub, Nat.reduceLT, Nat.reduceLeDiff, Nat.reduceEqDiff, Nat.reduceBEq, Nat.reducePow]; rfl, ?_⟩
    exact ⟨by simp [widthV, h0], rfl⟩

def Cs.wordsB (c : Cs) (rs : List Row) : Bool := rs.all fun r => c.word r.2.2
theorem Cs.wordsB_mem {c : Cs} {rs : List Row} (h : c.wordsB rs = true) : ∀ r ∈ rs, c.Word r.2.2 := fun r hr => Cs.word_iff.1 (List.all_eq_true.1 h r hr)
theorem rows_ok {c : Cs} {rs : List Row} (h : c.wordsB rs = true) (h5 : rs.length ≤ 5) : RowsOk rs := ⟨by omega, fun r hr => by have := (Cs.wordsB_mem h r hr).2.1; omega⟩
theorem checkLines_ok (H : Hp) (c : Cs) (hc : c.Valid) (nl clip : Bool) (rs : List Row) (n : Int) (h1 : 1 ≤ rs.length) (h5 : rs.length ≤ 5) (hw : c.wordsB rs = true) (hn : 1 ≤ n ∧ n ≤ 400) : CallV Tryz.prog 52 [.agg c.cells, vrows nl clip rs, vint n] H (fun r H' => r = vint 0 ∧ H' = H) := by
  have hws := words_any H c hc.ok nl clip rs (rows_ok hw h5)
  rw [show (rs.all fun r => c.word r.2.2) = true from hw] at hws
  have h2 := lengths_any H false true [n] (by simp)
  rw [show insB 1 400 [n] = true by rw [insB_iff]; simpa using hn] at h2
  have e0 : ((rs.length : Int) == 0) = false := by simp; intro e; rw [e] at h1; simp at h1
  have e5 : ¬ ((5 : Int) < (rs.length : Int)) := by omega
  refine CallV.body Tryz.func52 rfl Tryz.ntmps52 (by rfl) ?_
  refine WpV.seq (WpV.regionE (by simp only [go_sem, reduceCtorEq, Nat.reduceAdd, Nat.reduceMul, Nat.reduceSub, Nat.reduceLT, Nat.reduceLeDiff, Nat.reduceEqDiff, Nat.reduceBEq, Nat.reducePow]; rfl) (Marks.nil _) ?_)
  simp only [Vthen, VinBlock, if_true, if_false, Nat.reduceEqDiff, reduceCtorEq]
  refine WpV.seq (WpV.region ?_)
  refine WpOps.take 1 (by simp only [go_sem, reduceCtorEq, Nat.reduceAdd, Nat.reduceMul, Nat.reduceSub, Nat.reduceLT, Nat.reduceLeDiff, Nat.reduceEqDiff, Nat.reduceBEq, Nat.reducePow]; rfl) ?_
  refine WpOps.step (by rfl) (by rfl) (OpW.callY rfl (by rfl) (by rfl) (by rfl) (enters_of Tryz.func57 (by kernel_rfl) rfl) ((check_ok H c hc).mono ?_))
  rintro _ _ ⟨rfl, hH⟩
  replace hH := hH.symm
  subst hH
  refine WpOps.take 1 (by simp only [go_sem, reduceCtorEq, Nat.reduceAdd, Nat.reduceMul, Nat.reduceSub, Nat.reduceLT, Nat.reduceLeDiff, Nat.reduceEqDiff, Nat.reduceBEq, Nat.reducePow]; rfl) (WpOps.nil ⟨Marks.nil _, ?_⟩)
  simp only [Vthen, VinBlock, if_true, if_false, Nat.reduceEqDiff, reduceCtorEq]
  refine WpV.seq (WpV.block ?_)
  refine WpV.seq (WpV.regionE (by simp only [go_sem, reduceCtorEq, Nat.reduceAdd, Nat.reduceMul, Nat.reduceSub, Nat.reduceLT, Nat.reduceLeDiff, Nat.reduceEqDiff, Nat.reduceBEq, Nat.reducePow]; rfl) (Marks.nil _) ?_)
  simp only [Vthen, VinBlock, if_true, if_false, Nat.reduceEqDiff, reduceCtorEq]
  refine WpV.cond rfl (fun hb => by cases hb) (fun hb => ?_)
  refine WpV.seq (WpV.regionE (by simp only [go_sem, reduceCtorEq, Nat.reduceAdd, Nat.reduceMul, Nat.reduceSub, Nat.reduceLT, Nat.reduceLeDiff, Nat.reduceEqDiff, Nat.reduceBEq, Nat.reducePow, e0]; rfl) (Marks.nil _) ?_)
  simp only [Vthen, VinBlock, if_true, if_false, Nat.reduceEqDiff, reduceCtorEq]
  refine WpV.cond rfl (fun hb => by cases hb) (fun hb => ?_)
  refine WpV.seq (WpV.regionE (by simp only [go_sem, reduceCtorEq, Nat.reduceAdd, Nat.reduceMul, Nat.reduceSub, Nat.reduceLT, Nat.reduceLeDiff, Nat.reduceEqDiff, Nat.reduceBEq, Nat.reducePow, e5, gt_iff_lt]; rfl) (Marks.nil _) ?_)
  simp only [Vthen, VinBlock, if_true, if_false, Nat.reduceEqDiff, reduceCtorEq]
  refine WpV.cond rfl (fun hb => by cases hb) (fun hb => ?_)
  refine WpV.seq (WpV.region ?_)
  refine WpOps.take 2 (by simp only [go_sem, reduceCtorEq, Nat.reduceAdd, Nat.reduceMul, Nat.reduceSub, Nat.reduceLT, Nat.reduceLeDiff, Nat.reduceEqDiff, Nat.reduceBEq, Nat.reducePow]; rfl) ?_
  refine WpOps.step (by rfl) (by rfl) (OpW.callY rfl (by rfl) (by rfl) (by rfl) (enters_of Tryz.func76 (by kernel_rfl) rfl) ((hws).mono ?_))
  rintro _ _ ⟨rfl, hH⟩
  replace hH := hH.symm
  subst hH
  refine WpOps.take 2 (by simp only [go_sem, reduceCtorEq, Nat.reduceAdd, Nat.reduceMul, Nat.reduceSub, Nat.reduceLT, Nat.reduceLeDiff, Nat.reduceEqDiff, Nat.reduceBEq, Nat.reducePow]; rfl) (WpOps.nil ⟨Marks.nil _, ?_⟩)
  simp only [Vthen, VinBlock, if_true, if_false, Nat.reduceEqDiff, reduceCtorEq]
  refine WpV.cond rfl (fun hb => by cases hb) (fun hb => ?_)
  refine WpV.seq (WpV.region ?_)
  refine WpOps.take 2 (by simp only [go_sem, reduceCtorEq, Nat.reduceAdd, Nat.reduceMul, Nat.reduceSub, Nat.reduceLT, Nat.reduceLeDiff, Nat.reduceEqDiff, Nat.reduceBEq, Nat.reducePow]; rfl) ?_
  refine WpOps.step (by rfl) (by rfl) (OpW.callY rfl (by rfl) (by rfl) (by rfl) (enters_of Tryz.func50 (by kernel_rfl) rfl) ((h2).mono ?_))
  rintro _ _ ⟨rfl, hH⟩
  replace hH := hH.symm
  subst hH
  refine WpOps.take 2 (by simp only [go_sem, reduceCtorEq, Nat.reduceAdd, Nat.reduceMul, Nat.reduceSub, Nat.reduceLT, Nat.reduceLeDiff, Nat.reduceEqDiff, Nat.reduceBEq, Nat.reducePow]; rfl) (WpOps.nil ⟨Marks.nil _, ?_⟩)
  simp only [Vthen, VinBlock, if_true, if_false, Nat.reduceEqDiff, reduceCtorEq]
  refine WpV.cond rfl (fun hb => by cases hb) (fun hb => WpV.skip ?_)
  simp only [Vthen, VinBlock, if_true, if_false, Nat.reduceEqDiff, reduceCtorEq]
  refine WpV.seq (WpV.regionE (by simp only [go_sem, reduceCtorEq, Nat.reduceAdd, Nat.reduceMul, Nat.reduceSub, Nat.reduceLT, Nat.reduceLeDiff, Nat.reduceEqDiff, Nat.reduceBEq, Nat.reducePow]; rfl) (Marks.nil _) ?_)
  simp only [Vthen, VinBlock, if_true, if_false, Nat.reduceEqDiff, reduceCtorEq]
  refine WpV.ret ⟨Marks.nil _, List.nodup_nil, _, by simp only [Tryz.results52]; simp only [go_sem, reduceCtorEq, Nat.reduceAdd, Nat.reduceMul, Nat.reduceSub, Nat.reduceLT, Nat.reduceLeDiff, Nat.reduceEqDiff, Nat.reduceBEq, Nat.reducePow]; rfl, ?_⟩
  exact ⟨rfl, rfl⟩

theorem checkPlates_ok (H : Hp) (c : Cs) (hc : c.Valid) (nl clip nl2 clip2 : Bool) (rs : List Row) (ps : List Int) (h5 : rs.length ≤ 5) (h6 : ps.length ≤ 6) (hw : c.wordsB rs = true) (hp : ∀ x ∈ ps, 1 ≤ x ∧ x ≤ 400) : CallV Tryz.prog 54 [.agg c.cells, vrows nl clip rs, vints nl2 clip2 ps] H (fun r H' => r = vint 0 ∧ H' = H) := by
  have hws := words_any H c hc.ok nl clip rs (rows_ok hw h5)
  rw [show (rs.all fun r => c.word r.2.2) = true from hw] at hws
  have h2 := lengths_any H nl2 clip2 ps (by omega)
  rw [show insB 1 400 ps = true by rw [insB_iff]; exact hp] at h2
  have e5 : ¬ ((5 : Int) < (rs.length : Int)) := by omega
  have e6 : ¬ ((6 : Int) < (ps.length : Int)) := by omega
  refine CallV.body Tryz.func54 rfl Tryz.ntmps54 (by rfl) ?_
  refine WpV.seq (WpV.regionE (by simp only [go_sem, reduceCtorEq, Nat.reduceAdd, Nat.reduceMul, Nat.reduceSub, Nat.reduceLT, Nat.reduceLeDiff, Nat.reduceEqDiff, Nat.reduceBEq, Nat.reducePow]; rfl) (Marks.nil _) ?_)
  simp only [Vthen, VinBlock, if_true, if_false, Nat.reduceEqDiff, reduceCtorEq]
  refine WpV.seq (WpV.region ?_)
  refine WpOps.take 1 (by simp only [go_sem, reduceCtorEq, Nat.reduceAdd, Nat.reduceMul, Nat.reduceSub, Nat.reduceLT, Nat.reduceLeDiff, Nat.reduceEqDiff, Nat.reduceBEq, Nat.reducePow]; rfl) ?_
  refine WpOps.step (by rfl) (by rfl) (OpW.callY rfl (by rfl) (by rfl) (by rfl) (enters_of Tryz.func57 (by kernel_rfl) rfl) ((check_ok H c hc).mono ?_))
  rintro _ _ ⟨rfl, hH⟩
  replace hH := hH.symm
  subst hH
  refine WpOps.take 1 (by simp only [go_sem, reduceCtorEq, Nat.reduceAdd, Nat.reduceMul, Nat.reduceSub, Nat.reduceLT, Nat.reduceLeDiff, Nat.reduceEqDiff, Nat.reduceBEq, Nat.reducePow]; rfl) (WpOps.nil ⟨Marks.nil _, ?_⟩)
  simp only [Vthen, VinBlock, if_true, if_false, Nat.reduceEqDiff, reduceCtorEq]
  refine WpV.seq (WpV.block ?_)
  refine WpV.seq (WpV.regionE (by simp only [go_sem, reduceCtorEq, Nat.reduceAdd, Nat.reduceMul, Nat.reduceSub, Nat.reduceLT, Nat.reduceLeDiff, Nat.reduceEqDiff, Nat.reduceBEq, Nat.reducePow]; rfl) (Marks.nil _) ?_)
  simp only [Vthen, VinBlock, if_true, if_false, Nat.reduceEqDiff, reduceCtorEq]
  refine WpV.cond rfl (fun hb => by cases hb) (fun hb => ?_)
  refine WpV.seq (WpV.regionE (by simp only [go_sem, reduceCtorEq, Nat.reduceAdd, Nat.reduceMul, Nat.reduceSub, Nat.reduceLT, Nat.reduceLeDiff, Nat.reduceEqDiff, Nat.reduceBEq, Nat.reducePow, e5, e6, gt_iff_lt]; rfl) (Marks.nil _) ?_)
  simp only [Vthen, VinBlock, if_true, if_false, Nat.reduceEqDiff, reduceCtorEq]
  refine WpV.cond rfl (fun hb => by cases hb) (fun hb => ?_)
  refine WpV.seq (WpV.region ?_)
  refine WpOps.take 2 (by simp only [go_sem, reduceCtorEq, Nat.reduceAdd, Nat.reduceMul, Nat.reduceSub, Nat.reduceLT, Nat.reduceLeDiff, Nat.reduceEqDiff, Nat.reduceBEq, Nat.reducePow]; rfl) ?_
  refine WpOps.step (by rfl) (by rfl) (OpW.callY rfl (by rfl) (by rfl) (by rfl) (enters_of Tryz.func76 (by kernel_rfl) rfl) ((hws).mono ?_))
  rintro _ _ ⟨rfl, hH⟩
  replace hH := hH.symm
  subst hH
  refine WpOps.take 2 (by simp only [go_sem, reduceCtorEq, Nat.reduceAdd, Nat.reduceMul, Nat.reduceSub, Nat.reduceLT, Nat.reduceLeDiff, Nat.reduceEqDiff, Nat.reduceBEq, Nat.reducePow]; rfl) (WpOps.nil ⟨Marks.nil _, ?_⟩)
  simp only [Vthen, VinBlock, if_true, if_false, Nat.reduceEqDiff, reduceCtorEq]
  refine WpV.cond rfl (fun hb => by cases hb) (fun hb => ?_)
  refine WpV.seq (WpV.region ?_)
  refine WpOps.take 1 (by simp only [go_sem, reduceCtorEq, Nat.reduceAdd, Nat.reduceMul, Nat.reduceSub, Nat.reduceLT, Nat.reduceLeDiff, Nat.reduceEqDiff, Nat.reduceBEq, Nat.reducePow]; rfl) ?_
  refine WpOps.step (by rfl) (by rfl) (OpW.callY rfl (by rfl) (by rfl) (by rfl) (enters_of Tryz.func50 (by kernel_rfl) rfl) ((h2).mono ?_))
  rintro _ _ ⟨rfl, hH⟩
  replace hH := hH.symm
  subst hH
  refine WpOps.take 2 (by simp only [go_sem, reduceCtorEq, Nat.reduceAdd, Nat.reduceMul, Nat.reduceSub, Nat.reduceLT, Nat.reduceLeDiff, Nat.reduceEqDiff, Nat.reduceBEq, Nat.reducePow]; rfl) (WpOps.nil ⟨Marks.nil _, ?_⟩)
  simp only [Vthen, VinBlock, if_true, if_false, Nat.reduceEqDiff, reduceCtorEq]
  refine WpV.cond rfl (fun hb => by cases hb) (fun hb => WpV.skip ?_)
  simp only [Vthen, VinBlock, if_true, if_false, Nat.reduceEqDiff, reduceCtorEq]
  refine WpV.seq (WpV.regionE (by simp only [go_sem, reduceCtorEq, Nat.reduceAdd, Nat.reduceMul, Nat.reduceSub, Nat.reduceLT, Nat.reduceLeDiff, Nat.reduceEqDiff, Nat.reduceBEq, Nat.reducePow]; rfl) (Marks.nil _) ?_)
  simp only [Vthen, VinBlock, if_true, if_false, Nat.reduceEqDiff, reduceCtorEq]
  refine WpV.ret ⟨Marks.nil _, List.nodup_nil, _, by simp only [Tryz.results54]; simp only [go_sem, reduceCtorEq, Nat.reduceAdd, Nat.reduceMul, Nat.reduceSub, Nat.reduceLT, Nat.reduceLeDiff, Nat.reduceEqDiff, Nat.reduceBEq, Nat.reducePow]; rfl, ?_⟩
  exact ⟨rfl, rfl⟩

/-- The function value of 'picks'. -/
theorem picks_any (H : Hp) (c : Cs) (nl clip nl2 clip2 : Bool) (b : List Int) (rs : List Row) (ps : List Int) :
    CallV Tryz.prog 79 [.agg c.box, rowB b, vrows nl clip rs, vints nl2 clip2 ps] H (fun r H' => r = .fn (.func 100) [] [.cp [rowB b] 0, .cp [vrows nl clip rs] 0, .cp [vints nl2 clip2 ps] 0, .cp c.box 0] ∧ H' = H) := by
  refine CallV.body Tryz.func79 rfl Tryz.ntmps79 (by rfl) ?_
  refine WpV.seq (WpV.regionE (by simp only [go_sem, reduceCtorEq, Nat.reduceAdd, Nat.reduceMul, Nat.reduceSub, Nat.reduceLT, Nat.reduceLeDiff, Nat.reduceEqDiff, Nat.reduceBEq, Nat.reducePow]; rfl) (Marks.nil _) ?_)
  simp only [Vthen, VinBlock, if_true, if_false, Nat.reduceEqDiff, reduceCtorEq]
  refine WpV.seq (WpV.regionE (by simp only [go_sem, reduceCtorEq, Nat.reduceAdd, Nat.reduceMul, Nat.reduceSub, Nat.reduceLT, Nat.reduceLeDiff, Nat.reduceEqDiff, Nat.reduceBEq, Nat.reducePow]; rfl) (Marks.nil _) ?_)
  simp only [Vthen, VinBlock, if_true, if_false, Nat.reduceEqDiff, reduceCtorEq]
  refine WpV.ret ⟨Marks.nil _, List.nodup_nil, _, by simp only [Tryz.results79]; simp only [go_sem, reduceCtorEq, Nat.reduceAdd, Nat.reduceMul, Nat.reduceSub, Nat.reduceLT, Nat.reduceLeDiff, Nat.reduceEqDiff, Nat.reduceBEq, Nat.reducePow]; rfl, ?_⟩
  exact ⟨rfl, rfl⟩
end Go.Proofs.YtaekibilldjnmaaGreat
namespace Go.Proofs.YtaekibilldjnmaaGreat
open Go.Proofs

theorem itemsB_append (a b : List (List Int)) : itemsB (a ++ b) = itemsB a ++ itemsB b := List.map_append
def Cs.fits (c : Cs) (ws : List (List Int)) (ps : List Int) (b : List Int) (i : Nat) : Bool := !contB b (i : Int) && decide (c.needF [ws.getD b.length []] ≤ ps.getD i 0)
def picksN (c : Cs) (ws : List (List Int)) (ps : List Int) : Nat → List Int → List (List Int)
  | 0, b => [b]
  | n + 1, b => (List.range ps.length).flatMap fun i => if c.fits ws ps b i = true then picksN c ws ps n (b ++ [(i : Int)]) else []
def picksR (c : Cs) (ws : List (List Int)) (ps : List Int) (n : Nat) (b : List Int) (k : Nat) : List (List Int) := ((List.range ps.length).drop k).flatMap fun i => if c.fits ws ps b i = true then picksN c ws ps n (b ++ [(i : Int)]) else []
theorem picksR_step (c : Cs) (ws : List (List Int)) (ps : List Int) (n : Nat) (b : List Int) {k : Nat} (hk : k < ps.length) : picksR c ws ps n b k = (if c.fits ws ps b k = true then picksN c ws ps n (b ++ [(k : Int)]) else []) ++ picksR c ws ps n b (k + 1) := by
  unfold picksR
  rw [List.drop_eq_getElem_cons (by simpa using hk), List.flatMap_cons, List.getElem_range]
theorem picksR_end (c : Cs) (ws : List (List Int)) (ps : List Int) (n : Nat) (b : List Int) : picksR c ws ps n b ps.length = [] := by
  unfold picksR; rw [List.drop_of_length_le (by simp)]; rfl

set_option maxHeartbeats 4000000 in
theorem picks_seq (c : Cs) (hc : c.Fair) (nl clip nl2 clip2 : Bool) (rs : List Row) (ps : List Int) (h5 : rs.length ≤ 5) (h6 : ps.length ≤ 6) (hrs : ∀ r ∈ rs, c.Word r.2.2) : ∀ (n : Nat) (b : List Int), b.length + n = rs.length →
    Seqs Tryz.prog 100 [] [.cp [rowB b] 0, .cp [vrows nl clip rs] 0, .cp [vints nl2 clip2 ps] 0, .cp c.box 0] (itemsB (picksN c (rs.map (·.2.2)) ps n b))
  | 0, b, hb => by
    rintro y J Dn H ⟨yid, rfl⟩ hy hJ
    show CallV Tryz.prog 100 [.yl yid, .cp [rowB b] 0, .cp [vrows nl clip rs] 0, .cp [vints nl2 clip2 ps] 0, .cp c.box 0] H _
    have e0 : ((b.length : Int) == (rs.length : Int)) = true := by simp; omega
    refine CallV.body Tryz.func100 rfl Tryz.ntmps100 (by rfl) ?_
    refine WpV.seq (WpV.regionE (by simp only [go_sem, reduceCtorEq, Nat.reduceAdd, Nat.reduceMul, Nat.reduceSub, Nat.reduceLT, Nat.reduceLeDiff, Nat.reduceEqDiff, Nat.reduceBEq, Nat.reducePow]; rfl) (Marks.nil _) ?_)
    simp only [Vthen, VinBlock, if_true, if_false, Nat.reduceEqDiff, reduceCtorEq]
    refine WpV.seq ?_
    refine WpV.seq (WpV.regionE (by simp only [go_sem, reduceCtorEq, Nat.reduceAdd, Nat.reduceMul, Nat.reduceSub, Nat.reduceLT, Nat.reduceLeDiff, Nat.reduceEqDiff, Nat.reduceBEq, Nat.reducePow, e0]; rfl) (Marks.nil _) ?_)
    simp only [Vthen, VinBlock, if_true, if_false, Nat.reduceEqDiff, reduceCtorEq]
    refine WpV.cond rfl (fun hb => ?_) (fun hb => by cases hb)
    refine WpV.seq (WpV.region ?_)
    refine WpOps.take 2 (by simp only [go_sem, reduceCtorEq, Nat.reduceAdd, Nat.reduceMul, Nat.reduceSub, Nat.reduceLT, Nat.reduceLeDiff, Nat.reduceEqDiff, Nat.reduceBEq, Nat.reducePow]; rfl) ?_
    refine WpOps.step (by rfl) (by rfl) (OpW.mono (hy.now hJ _ _ (.tmp 14) #[.tmp 15] #[29] (by rfl) (by rfl) (by rfl)) ?_)
    rintro r H' hw
    refine WpOps.nil ⟨Marks.nil _, ?_⟩
    simp only [Vthen, VinBlock, if_true, if_false, Nat.reduceEqDiff, reduceCtorEq]
    refine WpV.ret ⟨Marks.nil _, List.nodup_nil, .tup [], by simp only [Tryz.results100]; rfl, ?_⟩
    rcases hw with ⟨-, h⟩ | ⟨-, h⟩
    · exact .inl h
    · exact .inr h
  | n + 1, b, hb => by
    rintro y J Dn H ⟨yid, rfl⟩ hy hJ
    show CallV Tryz.prog 100 [.yl yid, .cp [rowB b] 0, .cp [vrows nl clip rs] 0, .cp [vints nl2 clip2 ps] 0, .cp c.box 0] H _
    have e0 : ((b.length : Int) == (rs.length : Int)) = false := by simp; omega
    have hbl : b.length < rs.length := by omega
    have hblI : (b.length : Int) < (rs.length : Int) := by omega
    have hgr : (rs.map rowV)[b.length]? = some (rowV rs[b.length]) := by simp [hbl]
    have hwr := hrs rs[b.length] (List.getElem_mem _)
    have hwd : (rs.map (·.2.2)).getD b.length [] = rs[b.length].2.2 := by simp [List.getD_eq_getElem?_getD, hbl]
    refine CallV.body Tryz.func100 rfl Tryz.ntmps100 (by rfl) ?_
    refine WpV.seq (WpV.regionE (by simp only [go_sem, reduceCtorEq, Nat.reduceAdd, Nat.reduceMul, Nat.reduceSub, Nat.reduceLT, Nat.reduceLeDiff, Nat.reduceEqDiff, Nat.reduceBEq, Nat.reducePow]; rfl) (Marks.nil _) ?_)
    simp only [Vthen, VinBlock, if_true, if_false, Nat.reduceEqDiff, reduceCtorEq]
    refine WpV.seq ?_
    refine WpV.seq (WpV.regionE (by simp only [go_sem, reduceCtorEq, Nat.reduceAdd, Nat.reduceMul, Nat.reduceSub, Nat.reduceLT, Nat.reduceLeDiff, Nat.reduceEqDiff, Nat.reduceBEq, Nat.reducePow, e0]; rfl) (Marks.nil _) ?_)
    simp only [Vthen, VinBlock, if_true, if_false, Nat.reduceEqDiff, reduceCtorEq]
    refine WpV.cond rfl (fun hb => by cases hb) (fun hb => WpV.skip ?_)
    simp only [Vthen, VinBlock, if_true, if_false, Nat.reduceEqDiff, reduceCtorEq]
    refine WpV.seq (WpV.regionE (by simp only [go_sem, reduceCtorEq, Nat.reduceAdd, Nat.reduceMul, Nat.reduceSub, Nat.reduceLT, Nat.reduceLeDiff, Nat.reduceEqDiff, Nat.reduceBEq, Nat.reducePow]; rfl) (Marks.nil _) ?_)
    simp only [Vthen, VinBlock, if_true, if_false, Nat.reduceEqDiff, reduceCtorEq]
    refine WpV.block (WpV.loopD (ι := { q : Nat × List Nat × Hp × Hp // q.1 ≤ ps.length ∧ MarksOn q.2.1 q.2.2.1 q.2.2.2 ∧ J (itemsB (picksR c (rs.map (·.2.2)) ps n b q.1)) q.2.2.1 })
      (fun q => [(1, .cp [rowB b] 0), (2, .cp [vrows nl clip rs] 0), (3, .cp [vints nl2 clip2 ps] 0), (4, .cp c.box 0), (5, .cp [.yl yid] 0), (17, vints nl2 clip2 ps), (18, vint ps.length), (19, vint q.1.1)]) (fun q => q.1.2.2.2) (fun q => q.1.2.1) (fun q => ps.length - q.1.1) ⟨(0, [], H, H), Nat.zero_le _, rfl, hJ⟩ ?_ rfl rfl ?_)
    · exact Sub.cons rfl rfl (Sub.cons rfl rfl (Sub.cons rfl rfl (Sub.cons rfl rfl (Sub.cons rfl rfl (Sub.cons rfl rfl (Sub.cons rfl rfl (Sub.cons rfl rfl (Sub.nil _))))))))
    rintro ⟨⟨k, D, B, H1⟩, hk, hM, hJ1⟩
    simp only at hk hM hJ1 ⊢
    refine WpV.seq (WpV.regionE (by simp only [go_sem, reduceCtorEq, Nat.reduceAdd, Nat.reduceMul, Nat.reduceSub, Nat.reduceLT, Nat.reduceLeDiff, Nat.reduceEqDiff, Nat.reduceBEq, Nat.reducePow]; rfl) (hM.marks.1) ?_)
    simp only [Vthen, VinBlock, if_true, if_false, Nat.reduceEqDiff, reduceCtorEq]
    refine WpV.seq (WpV.cond rfl (fun hb => WpV.skip ?_) (fun hb => WpV.exit ?_))
    · have hlt : (k : Int) < (ps.length : Int) := of_decide_eq_true ‹_›
      have hlt' : k < ps.length := by omega
      have hg := ints_get ps hlt'
      have hgd : ps.getD k 0 = ps[k] := by simp [List.getD_eq_getElem?_getD, hlt']
      rw [picksR_step c _ ps n b hlt'] at hJ1
      have hct := contains_any H1 b.isEmpty b.isEmpty b (by omega) (k : Int)
      have hgo := goes_any H1 c hc rs[b.length].1 rs[b.length].2.1 rs[b.length].2.2 hwr ps[k]
      have skipCase : c.fits (rs.map (·.2.2)) ps b k = false → J (itemsB (picksR c (rs.map (·.2.2)) ps n b (k + 1))) B := by
        intro h; rw [h, if_neg (by decide), List.nil_append] at hJ1; exact hJ1
      simp only [Vthen, VinBlock, if_true, if_false, Nat.reduceEqDiff, reduceCtorEq]
      refine WpV.seq (WpV.block ?_)
      refine WpV.seq (WpV.regionE (by simp only [go_sem, reduceCtorEq, Nat.reduceAdd, Nat.reduceMul, Nat.reduceSub, Nat.reduceLT, Nat.reduceLeDiff, Nat.reduceEqDiff, Nat.reduceBEq, Nat.reducePow, hlt, hg]; rfl) (hM.marks.1) ?_)
      simp only [Vthen, VinBlock, if_true, if_false, Nat.reduceEqDiff, reduceCtorEq]
      refine WpV.seq ?_
      cases hcb : contB b (k : Int)
      · rw [hcb] at hct
        refine WpV.seq (WpV.regionD Tryz.mixed (by kernel_rfl) (by kernel_rfl) ?_)
        refine LexD.take 2 (by rfl) (by simp only [go_sem, reduceCtorEq, Nat.reduceAdd, Nat.reduceMul, Nat.reduceSub, Nat.reduceLT, Nat.reduceLeDiff, Nat.reduceEqDiff, Nat.reduceBEq, Nat.reducePow, hblI, hgr]; rfl) ?_
        refine LexD.step (by rfl) (by rfl) (OpW.callY rfl (by rfl) (by rfl) (by rfl) (enters_of Tryz.func101 (by kernel_rfl) rfl) (hct)) ?_
        refine LexD.take 8 (by rfl) (by simp only [go_sem, reduceCtorEq, Nat.reduceAdd, Nat.reduceMul, Nat.reduceSub, Nat.reduceLT, Nat.reduceLeDiff, Nat.reduceEqDiff, Nat.reduceBEq, Nat.reducePow, hblI, hgr]; rfl) ?_
        refine LexD.step (by rfl) (by rfl) (OpW.callY rfl (by rfl) (by rfl) (by rfl) (enters_of Tryz.func38 (by kernel_rfl) rfl) (hgo)) ?_
        refine LexD.take 2 (by rfl) (by simp only [go_sem, reduceCtorEq, Nat.reduceAdd, Nat.reduceMul, Nat.reduceSub, Nat.reduceLT, Nat.reduceLeDiff, Nat.reduceEqDiff, Nat.reduceBEq, Nat.reducePow, hblI, hgr]; rfl) (LexD.nilE ⟨hM.marks.1, ?_⟩)
        simp only [Vthen, VinBlock, if_true, if_false, Nat.reduceEqDiff, reduceCtorEq]
        refine WpV.cond rfl (fun hb => WpV.exit ?_) (fun hb => WpV.skip ?_)
        · simp only [Vthen, VinBlock, if_true, if_false, Nat.reduceEqDiff, reduceCtorEq]
          refine WpV.regionE (by simp only [go_sem, reduceCtorEq, Nat.reduceAdd, Nat.reduceMul, Nat.reduceSub, Nat.reduceLT, Nat.reduceLeDiff, Nat.reduceEqDiff, Nat.reduceBEq, Nat.reducePow]; rfl) (hM.marks.1) ?_
          simp only [Vthen, VinBlock, if_true, if_false, Nat.reduceEqDiff, reduceCtorEq]
          refine ⟨⟨(k + 1, D, B, H1), by simp only; omega, hM, skipCase (by unfold Cs.fits; rw [hcb, hwd, hgd]; simpa using hb)⟩, by simp only; omega, Sub.cons rfl rfl (Sub.cons rfl rfl (Sub.cons rfl rfl (Sub.cons rfl rfl (Sub.cons rfl rfl (Sub.cons rfl rfl (Sub.cons rfl rfl (Sub.cons rfl ?_ (Sub.nil _)))))))), rfl, rfl⟩
          rw [wrap64 (by omega)]; rfl
        · have hfit : c.fits (rs.map (·.2.2)) ps b k = true := by unfold Cs.fits; rw [hcb, hwd, hgd]; simpa using hb
          rw [hfit, if_pos rfl, itemsB_append] at hJ1
          have hrb : rowB (b ++ [(k : Int)]) = vints false false (b ++ [(k : Int)]) := by simp [rowB]
          have hpk := picks_any H1 c nl clip nl2 clip2 (b ++ [(k : Int)]) rs ps
          have ih := picks_seq c hc nl clip nl2 clip2 rs ps h5 h6 hrs n (b ++ [(k : Int)]) (by simp; omega)
          rw [hrb] at hpk ih
          simp only [Vthen, VinBlock, if_true, if_false, Nat.reduceEqDiff, reduceCtorEq]
          refine WpV.seq (WpV.regionD Tryz.mixed (by kernel_rfl) (by kernel_rfl) ?_)
          refine LexD.take 3 (by rfl) (by simp only [go_sem, reduceCtorEq, Nat.reduceAdd, Nat.reduceMul, Nat.reduceSub, Nat.reduceLT, Nat.reduceLeDiff, Nat.reduceEqDiff, Nat.reduceBEq, Nat.reducePow]; rfl) ?_
          refine LexD.step (by rfl) (by rfl) (OpW.callY rfl (by rfl) (by rfl) (by rfl) (enters_of Tryz.func74 (by kernel_rfl) rfl) (with_any H1 b.isEmpty b.isEmpty b k (by omega))) ?_
          refine LexD.take 2 (by rfl) (by simp only [go_sem, reduceCtorEq, Nat.reduceAdd, Nat.reduceMul, Nat.reduceSub, Nat.reduceLT, Nat.reduceLeDiff, Nat.reduceEqDiff, Nat.reduceBEq, Nat.reducePow]; rfl) ?_
          refine LexD.step (by rfl) (by rfl) (OpW.callY rfl (by rfl) (by rfl) (by rfl) (enters_of Tryz.func79 (by kernel_rfl) rfl) (hpk)) ?_
          refine LexD.nilE ⟨hM.marks.1, ?_⟩
          simp only [Vthen, VinBlock, if_true, if_false, Nat.reduceEqDiff, reduceCtorEq]
          refine WpV.block (WpV.rangeS (items := itemsB (picksN c (rs.map (·.2.2)) ps n (b ++ [(k : Int)]))) rfl (enters_of Tryz.func100 (by kernel_rfl) rfl) hM.marks.1 (by rfl) ih ?_)
          intro idm idl hne hm0 hl0
          have hMm : MarksOn (idm :: D) B (H1.set idm (some .mark)) := ⟨H1, hM, hm0, rfl⟩
          refine ⟨fun l H' => ∃ B' todo, MarksOn (idm :: D) B' H' ∧ l = itemsB todo ∧ J (l ++ itemsB (picksR c (rs.map (·.2.2)) ps n b (k + 1))) B',
            fun cc H' => cc = .ret ∧ ∃ B', MarksOn (idm :: D) B' H' ∧ Dn B', ⟨B, _, hMm, rfl, hJ1⟩, ?_, ?_, ?_⟩
          · rintro L x rest Bx Hx hx hLx ⟨B', todo, hM1, e2, hJ2⟩
            cases todo with
            | nil => simp at e2
            | cons bb todo =>
              simp only [itemsB, List.map_cons, List.cons.injEq] at e2
              obtain ⟨rfl, rfl⟩ := e2
              refine ⟨rfl, ?_⟩
              show WpV Tryz.prog (some idl) 51 _ _ ((45, rowB bb) :: _) [] Hx
              refine WpV.regionE (by simp only [go_sem, reduceCtorEq, Nat.reduceAdd, Nat.reduceMul, Nat.reduceSub, Nat.reduceLT, Nat.reduceLeDiff, Nat.reduceEqDiff, Nat.reduceBEq, Nat.reducePow]; rfl) (Marks.nil _) ?_
              simp only [Vthen, VinBlock, if_true, if_false, Nat.reduceEqDiff, reduceCtorEq]
              refine ⟨none, hx, WpV.block ?_⟩
              have hLy := (layOn_marks.2 hM1).trans hLx
              generalize hob : (Ob.loop 51 _ _ _ _ .busy none) = ob
              have hLb : LayOn ((idl, ob) :: (L ++ marksL (idm :: D))) B' (Hx.set idl (some ob)) := ⟨_, hLy, Hp.set_eq _ _ _, by rw [Hp.set_set]⟩
              refine WpV.seq (WpV.region ?_)
              refine WpOps.take 2 (by simp only [go_sem, reduceCtorEq, Nat.reduceAdd, Nat.reduceMul, Nat.reduceSub, Nat.reduceLT, Nat.reduceLeDiff, Nat.reduceEqDiff, Nat.reduceBEq, Nat.reducePow]; rfl) ?_
              refine WpOps.step (by rfl) (by rfl) (OpW.mono (hy _ _ _ _ _ hLb hJ2 _ _ (.tmp 46) #[.tmp 47] #[29] (by rfl) (by rfl) (by rfl)) ?_)
              rintro r H2 ⟨B2, ⟨H3, h3, h3n, rfl⟩, hw⟩
              obtain ⟨B3, e5, e6⟩ := LayOn.split h3
              have hback : (H3.set idl (some ob)).set idl none = H3 := by rw [Hp.set_set, Hp.set_same _ _ _ h3n]
              rcases hw with ⟨rfl, hJ3⟩ | ⟨rfl, hD⟩
              · refine WpOps.take 1 (by simp only [go_sem, reduceCtorEq, Nat.reduceAdd, Nat.reduceMul, Nat.reduceSub, Nat.reduceLT, Nat.reduceLeDiff, Nat.reduceEqDiff, Nat.reduceBEq, Nat.reducePow]; rfl) (WpOps.nil ⟨Marks.nil _, ?_⟩)
                simp only [Vthen, VinBlock, if_true, if_false, Nat.reduceEqDiff, reduceCtorEq]
                refine WpV.cond rfl (fun hb => by cases hb) (fun hb => WpV.skip ?_)
                refine ⟨⟨none, by rw [Hp.set_eq, hob]⟩, B3, by rw [hback]; exact e6, B2, todo, layOn_marks.1 e5, rfl, hJ3⟩
              · refine WpOps.take 1 (by simp only [go_sem, reduceCtorEq, Nat.reduceAdd, Nat.reduceMul, Nat.reduceSub, Nat.reduceLT, Nat.reduceLeDiff, Nat.reduceEqDiff, Nat.reduceBEq, Nat.reducePow]; rfl) (WpOps.nil ⟨Marks.nil _, ?_⟩)
                simp only [Vthen, VinBlock, if_true, if_false, Nat.reduceEqDiff, reduceCtorEq]
                refine WpV.cond rfl (fun hb => ?_) (fun hb => by cases hb)
                refine WpV.ret ⟨⟨none, by rw [Hp.set_eq, hob]⟩, B3, by rw [hback]; exact e6, rfl, B2, layOn_marks.1 e5, hD⟩
          · rintro H' ⟨B', todo, hM1, e2, hJ2⟩
            refine ⟨hM1.marks.1, ?_⟩
            simp only [Vthen, VinBlock, if_true, if_false, Nat.reduceEqDiff, reduceCtorEq]
            refine WpV.regionE (by simp only [go_sem, reduceCtorEq, Nat.reduceAdd, Nat.reduceMul, Nat.reduceSub, Nat.reduceLT, Nat.reduceLeDiff, Nat.reduceEqDiff, Nat.reduceBEq, Nat.reducePow]; rfl) (hM1.marks.1) ?_
            simp only [Vthen, VinBlock, if_true, if_false, Nat.reduceEqDiff, reduceCtorEq]
            refine ⟨⟨(k + 1, idm :: D, B', H'), by simp only; omega, hM1, hJ2⟩, by simp only; omega, Sub.cons rfl rfl (Sub.cons rfl rfl (Sub.cons rfl rfl (Sub.cons rfl rfl (Sub.cons rfl rfl (Sub.cons rfl rfl (Sub.cons rfl rfl (Sub.cons rfl ?_ (Sub.nil _)))))))), rfl, rfl⟩
            rw [wrap64 (by omega)]; rfl
          · rintro cc H' ⟨rfl, B', hM1, hD⟩
            refine ⟨hM1.marks.1, WpV.ret ?_⟩
            simp only [Vthen, VinBlock]
            refine ⟨hM1.marks.1, hM1.marks.2, .tup [], by simp only [Tryz.results100]; rfl, .inr ?_⟩
            rw [hM1.kill]; exact hD
      · rw [hcb] at hct
        refine WpV.seq (WpV.regionD Tryz.mixed (by kernel_rfl) (by kernel_rfl) ?_)
        refine LexD.take 2 (by rfl) (by simp only [go_sem, reduceCtorEq, Nat.reduceAdd, Nat.reduceMul, Nat.reduceSub, Nat.reduceLT, Nat.reduceLeDiff, Nat.reduceEqDiff, Nat.reduceBEq, Nat.reducePow]; rfl) ?_
        refine LexD.step (by rfl) (by rfl) (OpW.callY rfl (by rfl) (by rfl) (by rfl) (enters_of Tryz.func101 (by kernel_rfl) rfl) (hct)) ?_
        refine LexD.take 8 (by rfl) (by simp only [go_sem, reduceCtorEq, Nat.reduceAdd, Nat.reduceMul, Nat.reduceSub, Nat.reduceLT, Nat.reduceLeDiff, Nat.reduceEqDiff, Nat.reduceBEq, Nat.reducePow]; rfl) ?_
        refine LexD.take 3 (by rfl) (by simp only [go_sem, reduceCtorEq, Nat.reduceAdd, Nat.reduceMul, Nat.reduceSub, Nat.reduceLT, Nat.reduceLeDiff, Nat.reduceEqDiff, Nat.reduceBEq, Nat.reducePow]; rfl) (LexD.nilE ⟨hM.marks.1, ?_⟩)
        simp only [Vthen, VinBlock, if_true, if_false, Nat.reduceEqDiff, reduceCtorEq]
        refine WpV.cond rfl (fun hb => WpV.exit ?_) (fun hb => by cases hb)
        simp only [Vthen, VinBlock, if_true, if_false, Nat.reduceEqDiff, reduceCtorEq]
        refine WpV.regionE (by simp only [go_sem, reduceCtorEq, Nat.reduceAdd, Nat.reduceMul, Nat.reduceSub, Nat.reduceLT, Nat.reduceLeDiff, Nat.reduceEqDiff, Nat.reduceBEq, Nat.reducePow]; rfl) (hM.marks.1) ?_
        simp only [Vthen, VinBlock, if_true, if_false, Nat.reduceEqDiff, reduceCtorEq]
        refine ⟨⟨(k + 1, D, B, H1), by simp only; omega, hM, skipCase (by unfold Cs.fits; rw [hcb]; rfl)⟩, by simp only; omega, Sub.cons rfl rfl (Sub.cons rfl rfl (Sub.cons rfl rfl (Sub.cons rfl rfl (Sub.cons rfl rfl (Sub.cons rfl rfl (Sub.cons rfl rfl (Sub.cons rfl ?_ (Sub.nil _)))))))), rfl, rfl⟩
        rw [wrap64 (by omega)]; rfl
    · have hge : k = ps.length := by have := of_decide_eq_false ‹_›; omega
      subst hge
      rw [picksR_end] at hJ1
      simp only [Vthen, VinBlock, if_true, if_false, Nat.reduceEqDiff, reduceCtorEq]
      refine ⟨hM.marks.1, hM.marks.2, .tup [], by simp only [Tryz.results100]; rfl, .inl ?_⟩
      rw [hM.kill]; exact hJ1
end Go.Proofs.YtaekibilldjnmaaGreat
namespace Go.Proofs.YtaekibilldjnmaaGreat
open Go.Proofs

def plateOf (ps : List Int) (x : Int) : Int := ps.getD x.toNat 0
def pickLen (ps b : List Int) : Int := (b.map (plateOf ps)).sum
def pickStep (ps : List Int) (st : Option (List Int × Int)) (b : List Int) : Option (List Int × Int) := match st with
  | none => some (b, pickLen ps b)
  | some (best, least) => if pickLen ps b < least then some (b, pickLen ps b) else some (best, least)
def pickF (ps : List Int) (items : List (List Int)) : Option (List Int × Int) := items.foldl (pickStep ps) none
theorem picksN_mem (c : Cs) (ws : List (List Int)) (ps : List Int) : ∀ (n : Nat) (b x : List Int), x ∈ picksN c ws ps n b → x.length = b.length + n ∧ ∀ y ∈ x, y ∈ b ∨ (0 ≤ y ∧ y < ps.length)
  | 0, b, x, h => by
    have : x = b := by simpa [picksN] using h
    subst this
    exact ⟨rfl, fun y hy => .inl hy⟩
  | n + 1, b, x, h => by
    rw [picksN, List.mem_flatMap] at h
    obtain ⟨i, hi, h⟩ := h
    have hil : i < ps.length := by simpa using hi
    split at h
    · obtain ⟨h1, h2⟩ := picksN_mem c ws ps n _ x h
      refine ⟨by rw [h1]; simp; omega, fun y hy => ?_⟩
      rcases h2 y hy with h3 | h3
      · rcases List.mem_append.1 h3 with h4 | h4
        · exact .inl h4
        · have : y = (i : Int) := by simpa using h4
          exact .inr (by omega)
      · exact .inr h3
    · cases h

def stRow (st : Option (List Int × Int)) : AV := match st with | some (b, _) => rowB b | none => .sl true true 0 []
def stLeast (st : Option (List Int × Int)) : Int := match st with | some (_, n) => n | none => 0
def stObs (H : Hp) (i6 i7 i8 : Nat) (st : Option (List Int × Int)) : Hp := ((H.set i6 (some (.cells 29 0 [stRow st]))).set i8 (some (.cells 3 0 [vint (stLeast st)]))).set i7 (some (.cells 4 0 [.bool st.isSome]))
theorem stObs_get {H : Hp} {i6 i7 i8 : Nat} (n67 : i6 ≠ i7) (n68 : i6 ≠ i8) (n78 : i7 ≠ i8) (st : Option (List Int × Int)) :
    stObs H i6 i7 i8 st i6 = some (.cells 29 0 [stRow st]) ∧ stObs H i6 i7 i8 st i8 = some (.cells 3 0 [vint (stLeast st)]) ∧ stObs H i6 i7 i8 st i7 = some (.cells 4 0 [.bool st.isSome]) := by
  unfold stObs
  refine ⟨?_, ?_, Hp.set_eq _ _ _⟩
  · rw [Hp.set_ne _ _ n67, Hp.set_ne _ _ n68, Hp.set_eq]
  · rw [Hp.set_ne _ _ n78.symm, Hp.set_eq]
theorem stObs_put {H : Hp} {i6 i7 i8 : Nat} (n67 : i6 ≠ i7) (n68 : i6 ≠ i8) (n78 : i7 ≠ i8) (st st' : Option (List Int × Int)) :
    (((stObs H i6 i7 i8 st).set i6 (some (.cells 29 0 [stRow st']))).set i8 (some (.cells 3 0 [vint (stLeast st')]))).set i7 (some (.cells 4 0 [.bool st'.isSome])) = stObs H i6 i7 i8 st' := by
  funext k
  simp only [stObs, Hp.set]
  by_cases e7 : k = i7
  · simp [e7]
  · by_cases e8 : k = i8
    · simp [e8, n78.symm]
    · by_cases e6 : k = i6
      · simp [e6, n67, n68]
      · simp [e6, e7, e8]
theorem stObs_drop {H : Hp} {i6 i7 i8 : Nat} (h6 : H i6 = none) (h7 : H i7 = none) (h8 : H i8 = none) (st : Option (List Int × Int)) : ((((stObs H i6 i7 i8 st).set i8 none).set i6 none).set i7 none) = H := by
  funext k
  simp only [stObs, Hp.set]
  by_cases e7 : k = i7
  · subst e7; simp [h7]
  · by_cases e6 : k = i6
    · subst e6; simp [h6, e7]
    · by_cases e8 : k = i8
      · subst e8; simp [h8, e6, e7]
      · simp [e6, e7, e8]

set_option maxHeartbeats 4000000 in
theorem pick_any (H : Hp) (c : Cs) (hc : c.Fair) (nl clip nl2 clip2 : Bool) (rs : List Row) (ps : List Int) (h5 : rs.length ≤ 5) (h6 : ps.length ≤ 6) (hrs : ∀ r ∈ rs, c.Word r.2.2) (hps : ∀ x ∈ ps, 1 ≤ x ∧ x ≤ 400) :
    CallV Tryz.prog 55 [.agg c.box, vrows nl clip rs, vints nl2 clip2 ps] H (fun r H' => r = .tup [stRow (pickF ps (picksN c (rs.map (·.2.2)) ps rs.length [])), .bool (pickF ps (picksN c (rs.map (·.2.2)) ps rs.length [])).isSome] ∧ H' = H) := by
  generalize hit : picksN c (rs.map (·.2.2)) ps rs.length [] = items
  have hgood : ∀ b ∈ items, b.length ≤ 5 ∧ ∀ y ∈ b, 0 ≤ y ∧ y < ps.length := fun b hb => by
    rw [← hit] at hb
    obtain ⟨h1, h2⟩ := picksN_mem c _ ps _ _ b hb
    refine ⟨by simp at h1; omega, fun y hy => ?_⟩
    rcases h2 y hy with h | h
    · cases h
    · exact h
  refine CallV.body Tryz.func55 rfl Tryz.ntmps55 (by rfl) ?_
  refine WpV.seq (WpV.region ?_)
  refine WpOps.take 2 (by simp only [go_sem, reduceCtorEq, Nat.reduceAdd, Nat.reduceMul, Nat.reduceSub, Nat.reduceLT, Nat.reduceLeDiff, Nat.reduceEqDiff, Nat.reduceBEq, Nat.reducePow]; rfl) ?_
  refine WpOps.step (by rfl) (by rfl) (OpW.alloc rfl (Tryz.ze29) (fun i6 f6 => ?_))
  refine WpOps.step (by rfl) (by rfl) (OpW.alloc rfl (Tryz.ze4) (fun i7 f7 => ?_))
  refine WpOps.nil ⟨Marks.nil _, ?_⟩
  simp only [Vthen, VinBlock, if_true, if_false, Nat.reduceEqDiff, reduceCtorEq]
  refine WpV.seq (WpV.region ?_)
  refine WpOps.step (by rfl) (by rfl) (OpW.alloc rfl (Tryz.ze3) (fun i8 f8 => ?_))
  obtain ⟨n76, f7'⟩ := fresh_ne f7
  obtain ⟨n87, f8'⟩ := fresh_ne f8
  obtain ⟨n86, f8''⟩ := fresh_ne f8'
  refine WpOps.step (by rfl) (by rfl) (OpW.store (ty := 3) rfl (by simp only [go_sem, reduceCtorEq, Nat.reduceAdd, Nat.reduceMul, Nat.reduceSub, Nat.reduceLT, Nat.reduceLeDiff, Nat.reduceEqDiff, Nat.reduceBEq, Nat.reducePow]; try rfl) (by simp only [go_sem, reduceCtorEq, Nat.reduceAdd, Nat.reduceMul, Nat.reduceSub, Nat.reduceLT, Nat.reduceLeDiff, Nat.reduceEqDiff, Nat.reduceBEq, Nat.reducePow]; try rfl) (Hp.set_eq _ _ _) (by simp only [go_sem, reduceCtorEq, Nat.reduceAdd, Nat.reduceMul, Nat.reduceSub, Nat.reduceLT, Nat.reduceLeDiff, Nat.reduceEqDiff, Nat.reduceBEq, Nat.reducePow]; try rfl) (by exact Tryz.sz3) (by simp) ?_)
  simp only [go_sem, reduceCtorEq, Nat.reduceAdd, Nat.reduceMul, Nat.reduceSub, Nat.reduceLT, Nat.reduceLeDiff, Nat.reduceEqDiff, Nat.reduceBEq, Nat.reducePow, Hp.set_set]
  refine WpOps.nil ⟨Marks.nil _, ?_⟩
  simp only [Vthen, VinBlock, if_true, if_false, Nat.reduceEqDiff, reduceCtorEq]
  have hst0 : ((H.set i6 (some (.cells 29 0 [.sl true true 0 []]))).set i7 (some (.cells 4 0 [.bool false]))).set i8 (some (.cells 3 0 [.int .i64 0])) = stObs H i6 i7 i8 none := by
    unfold stObs
    rw [Hp.set_comm _ _ _ n87.symm]; rfl
  rw [hst0]
  refine WpV.seq ?_
  have hpk := picks_any (stObs H i6 i7 i8 none) c nl clip nl2 clip2 [] rs ps
  refine WpV.seq (WpV.region ?_)
  refine WpOps.take 3 (by simp only [go_sem, reduceCtorEq, Nat.reduceAdd, Nat.reduceMul, Nat.reduceSub, Nat.reduceLT, Nat.reduceLeDiff, Nat.reduceEqDiff, Nat.reduceBEq, Nat.reducePow]; rfl) ?_
  refine WpOps.step (by rfl) (by rfl) (OpW.callY rfl (by rfl) (by rfl) (by rfl) (enters_of Tryz.func79 (by kernel_rfl) rfl) ((hpk).mono ?_))
  rintro _ _ ⟨rfl, hH⟩
  replace hH := hH.symm
  subst hH
  refine WpOps.nil ⟨Marks.nil _, ?_⟩
  simp only [Vthen, VinBlock, if_true, if_false, Nat.reduceEqDiff, reduceCtorEq]
  refine WpV.block (WpV.rangeS (items := itemsB items) rfl (enters_of Tryz.func100 (by kernel_rfl) rfl) (Marks.nil _) (by rfl) (by rw [← hit]; exact picks_seq c hc nl clip nl2 clip2 rs ps h5 h6 hrs rs.length [] (by simp)) ?_)
  intro idm idl hne hm0 hl0
  have hM0 : MarksOn [idm] (stObs H i6 i7 i8 none) ((stObs H i6 i7 i8 none).set idm (some .mark)) := ⟨_, rfl, hm0, rfl⟩
  refine ⟨fun l H' => ∃ todo st, l = itemsB todo ∧ MarksOn [idm] (stObs H i6 i7 i8 st) H' ∧ todo.foldl (pickStep ps) st = pickF ps items ∧ ∀ b ∈ todo, b.length ≤ 5 ∧ ∀ y ∈ b, 0 ≤ y ∧ y < ps.length,
    fun _ _ => False, ⟨items, none, rfl, hM0, rfl, hgood⟩, ?_, ?_, fun cc H' h => h.elim⟩
  · rintro L x rest Bx Hx hx hLx ⟨todo, st, e1, hM1, e2, e3⟩
    cases todo with
    | nil => simp at e1
    | cons b todo =>
      simp only [itemsB, List.map_cons, List.cons.injEq] at e1
      obtain ⟨rfl, rfl⟩ := e1
      obtain ⟨hb5, hbx⟩ := e3 b (by simp)
      obtain ⟨o6, o8, o7⟩ := stObs_get (H := H) n76.symm n86.symm n87.symm st
      have m6 := (hM1.get o6).1
      have m7 := (hM1.get o7).1
      have m8 := (hM1.get o8).1
      have x6 := set_none_get (hLx.get m6)
      have x7 := set_none_get (hLx.get m7)
      have x8 := set_none_get (hLx.get m8)
      refine ⟨rfl, ?_⟩
      show WpV Tryz.prog (some idl) 42 _ _ ((17, rowB b) :: _) [] Hx
      refine WpV.regionE (by simp only [go_sem, reduceCtorEq, Nat.reduceAdd, Nat.reduceMul, Nat.reduceSub, Nat.reduceLT, Nat.reduceLeDiff, Nat.reduceEqDiff, Nat.reduceBEq, Nat.reducePow]; rfl) (Marks.nil _) ?_
      simp only [Vthen, VinBlock, if_true, if_false, Nat.reduceEqDiff, reduceCtorEq]
      refine ⟨none, hx, WpV.block ?_⟩
      generalize hHb : Hx.set idl _ = Hb
      have y6 : Hb i6 = some (.cells 29 0 [stRow st]) := by rw [← hHb, Hp.set_ne _ _ x6.1]; exact x6.2
      have y7 : Hb i7 = some (.cells 4 0 [.bool st.isSome]) := by rw [← hHb, Hp.set_ne _ _ x7.1]; exact x7.2
      have y8 : Hb i8 = some (.cells 3 0 [vint (stLeast st)]) := by rw [← hHb, Hp.set_ne _ _ x8.1]; exact x8.2
      have yl := Hp.set_eq Hx idl
      refine WpV.seq (WpV.regionE (by simp only [go_sem, reduceCtorEq, Nat.reduceAdd, Nat.reduceMul, Nat.reduceSub, Nat.reduceLT, Nat.reduceLeDiff, Nat.reduceEqDiff, Nat.reduceBEq, Nat.reducePow]; rfl) (Marks.nil _) ?_)
      simp only [Vthen, VinBlock, if_true, if_false, Nat.reduceEqDiff, reduceCtorEq]
      refine WpV.seq ?_
      refine WpV.seq (WpV.regionE (by simp only [go_sem, reduceCtorEq, Nat.reduceAdd, Nat.reduceMul, Nat.reduceSub, Nat.reduceLT, Nat.reduceLeDiff, Nat.reduceEqDiff, Nat.reduceBEq, Nat.reducePow]; rfl) (Marks.nil _) ?_)
      simp only [Vthen, VinBlock, if_true, if_false, Nat.reduceEqDiff, reduceCtorEq]
      have hpl : ∀ y ∈ b.map (plateOf ps), 0 ≤ y ∧ y ≤ 400 := fun y hy => by
        obtain ⟨x, hx', rfl⟩ := List.mem_map.1 hy
        have hxb := hbx x hx'
        have hxl : x.toNat < ps.length := by omega
        have : plateOf ps x = ps[x.toNat] := by simp [plateOf, List.getD_eq_getElem?_getD, hxl]
        rw [this]
        have := hps _ (List.getElem_mem hxl)
        omega
      refine WpV.block (WpV.loopN b.length (fun j => [(5, .cp [vints nl2 clip2 ps] 0), (6, .rp i6 0 0), (7, .rp i7 0 0), (8, .rp i8 0 0), (9, rowB b), (10, vint (((b.map (plateOf ps)).take j).sum)), (18, rowB b), (19, vint b.length), (20, vint j)]) (fun _ => Hb) ?_ rfl ?_)
      · exact .cons rfl rfl (.cons rfl rfl (.cons rfl rfl (.cons rfl rfl (.cons rfl rfl (.cons rfl rfl (.cons rfl rfl (.cons rfl rfl (.cons rfl rfl (.nil _)))))))))
      · intro j hj
        refine WpV.seq (WpV.regionE (by simp only [go_sem, reduceCtorEq, Nat.reduceAdd, Nat.reduceMul, Nat.reduceSub, Nat.reduceLT, Nat.reduceLeDiff, Nat.reduceEqDiff, Nat.reduceBEq, Nat.reducePow]; rfl) (Marks.nil _) ?_)
        simp only [Vthen, VinBlock, if_true, if_false, Nat.reduceEqDiff, reduceCtorEq]
        refine WpV.seq (WpV.cond rfl (fun hb => WpV.skip ?_) (fun hb => WpV.exit ?_))
        · have hlt : (j : Int) < (b.length : Int) := of_decide_eq_true ‹_›
          have hlt' : j < b.length := by omega
          have hg := ints_get b hlt'
          have hxb := hbx b[j] (List.getElem_mem _)
          have hx1 := hxb.1
          have hx2 := hxb.2
          have hxl : b[j].toNat < ps.length := by omega
          have hgp : (ps.map vint)[b[j].toNat]? = some (vint (plateOf ps b[j])) := by
            rw [ints_get _ hxl]; simp [plateOf, List.getD_eq_getElem?_getD, hxl]
          simp only [Vthen, VinBlock, if_true, if_false, Nat.reduceEqDiff, reduceCtorEq]
          refine WpV.seq (WpV.block ?_)
          refine WpV.seq (WpV.regionE (by simp only [go_sem, reduceCtorEq, Nat.reduceAdd, Nat.reduceMul, Nat.reduceSub, Nat.reduceLT, Nat.reduceLeDiff, Nat.reduceEqDiff, Nat.reduceBEq, Nat.reducePow, hlt, hg]; rfl) (Marks.nil _) ?_)
          simp only [Vthen, VinBlock, if_true, if_false, Nat.reduceEqDiff, reduceCtorEq]
          refine WpV.regionE (by simp only [go_sem, reduceCtorEq, Nat.reduceAdd, Nat.reduceMul, Nat.reduceSub, Nat.reduceLT, Nat.reduceLeDiff, Nat.reduceEqDiff, Nat.reduceBEq, Nat.reducePow, hx1, hx2, hgp]; rfl) (Marks.nil _) ?_
          simp only [Vthen, VinBlock, if_true, if_false, Nat.reduceEqDiff, reduceCtorEq]
          refine WpV.regionE (by simp only [go_sem, reduceCtorEq, Nat.reduceAdd, Nat.reduceMul, Nat.reduceSub, Nat.reduceLT, Nat.reduceLeDiff, Nat.reduceEqDiff, Nat.reduceBEq, Nat.reducePow]; rfl) (Marks.nil _) ?_
          simp only [Vthen, VinBlock, if_true, if_false, Nat.reduceEqDiff, reduceCtorEq]
          have s1 := sum_bound (xs := (b.map (plateOf ps)).take j) (a := 0) (b := 400) (fun x hx => hpl x (List.mem_of_mem_take hx))
          have s2 : ((b.map (plateOf ps)).take j).length ≤ 5 := by simp; omega
          have s3 := hpl (plateOf ps b[j]) (List.mem_map.2 ⟨_, List.getElem_mem _, rfl⟩)
          refine ⟨by first | rfl | trivial, hlt', .cons rfl rfl (.cons rfl rfl (.cons rfl rfl (.cons rfl rfl (.cons rfl rfl (.cons rfl ?_ (.cons rfl rfl (.cons rfl rfl (.cons rfl ?_ (.nil _))))))))), by first | rfl | trivial⟩
          · rw [sum_take _ _ (by simpa using hlt'), wrap64 (by omega), List.getElem_map]
          · rw [wrap64 (by omega)]; rfl
        · have hge : j = b.length := by have := of_decide_eq_false ‹_›; omega
          subst hge
          rw [List.take_of_length_le (by simp)]
          rw [show (b.map (plateOf ps)).sum = pickLen ps b from rfl]
          simp only [Vthen, VinBlock, if_true, if_false, Nat.reduceEqDiff, reduceCtorEq]
          have onward : ∀ (st' : Option (List Int × Int)), pickStep ps st b = st' → ∀ (H2 : Hp), H2 = ((Hb.set i6 (some (.cells 29 0 [stRow st']))).set i8 (some (.cells 3 0 [vint (stLeast st')]))).set i7 (some (.cells 4 0 [.bool st'.isSome])) →
              H2 idl = Hb idl ∧ ∃ B, LayOn L B (H2.set idl none) ∧ ∃ todo' st'', itemsB todo = itemsB todo' ∧ MarksOn [idm] (stObs H i6 i7 i8 st'') B ∧ todo'.foldl (pickStep ps) st'' = pickF ps items ∧ ∀ b ∈ todo', b.length ≤ 5 ∧ ∀ y ∈ b, 0 ≤ y ∧ y < ps.length := by
            rintro st' hst' H2 rfl
            have l1 := ((hLx.set (some (.cells 29 0 [stRow st'])) m6).set (k := i8) (o := .cells 3 0 [vint (stLeast st)]) (some (.cells 3 0 [vint (stLeast st')])) (by rw [Hp.set_ne _ _ n86]; exact m8)).set (k := i7) (o := .cells 4 0 [.bool st.isSome]) (some (.cells 4 0 [.bool st'.isSome])) (by rw [Hp.set_ne _ _ n87.symm, Hp.set_ne _ _ n76]; exact m7)
            have l2 := ((hM1.set (some (.cells 29 0 [stRow st'])) o6).set (k := i8) (o := .cells 3 0 [vint (stLeast st)]) (some (.cells 3 0 [vint (stLeast st')])) (by rw [Hp.set_ne _ _ n86]; exact o8)).set (k := i7) (o := .cells 4 0 [.bool st.isSome]) (some (.cells 4 0 [.bool st'.isSome])) (by rw [Hp.set_ne _ _ n87.symm, Hp.set_ne _ _ n76]; exact o7)
            rw [stObs_put n76.symm n86.symm n87.symm] at l2
            refine ⟨by rw [Hp.set_ne _ _ x7.1.symm, Hp.set_ne _ _ x8.1.symm, Hp.set_ne _ _ x6.1.symm], _, ?_, todo, st', rfl, l2, ?_, fun b' hb' => e3 b' (by simp [hb'])⟩
            · rw [Hp.set_comm _ _ _ x7.1, Hp.set_comm _ _ _ x8.1, Hp.set_comm _ _ _ x6.1, ← hHb, Hp.set_set]; exact l1
            · rw [← hst']; exact e2
          cases st with
          | none =>
            refine WpV.seq (WpV.regionE (by simp only [go_sem, reduceCtorEq, Nat.reduceAdd, Nat.reduceMul, Nat.reduceSub, Nat.reduceLT, Nat.reduceLeDiff, Nat.reduceEqDiff, Nat.reduceBEq, Nat.reducePow, y7]; rfl) (Marks.nil _) ?_)
            simp only [Vthen, VinBlock, if_true, if_false, Nat.reduceEqDiff, reduceCtorEq]
            refine WpV.cond rfl (fun hb => ?_) (fun hb => by cases hb)
            refine WpV.region ?_
            refine WpOps.take 2 (by simp only [go_sem, reduceCtorEq, Nat.reduceAdd, Nat.reduceMul, Nat.reduceSub, Nat.reduceLT, Nat.reduceLeDiff, Nat.reduceEqDiff, Nat.reduceBEq, Nat.reducePow]; rfl) ?_
            refine WpOps.step (by rfl) (by rfl) (OpW.store (ty := 29) (id := i6) (ver := 0) (off := 0) rfl (by simp only [go_sem, reduceCtorEq, Nat.reduceAdd, Nat.reduceMul, Nat.reduceSub, Nat.reduceLT, Nat.reduceLeDiff, Nat.reduceEqDiff, Nat.reduceBEq, Nat.reducePow]) (by simp only [go_sem, reduceCtorEq, Nat.reduceAdd, Nat.reduceMul, Nat.reduceSub, Nat.reduceLT, Nat.reduceLeDiff, Nat.reduceEqDiff, Nat.reduceBEq, Nat.reducePow]; try rfl) y6 (by simp only [go_sem, reduceCtorEq, Nat.reduceAdd, Nat.reduceMul, Nat.reduceSub, Nat.reduceLT, Nat.reduceLeDiff, Nat.reduceEqDiff, Nat.reduceBEq, Nat.reducePow]; try rfl) (by exact Tryz.sz29) (by simp) ?_)
            refine WpOps.step (by rfl) (by rfl) (OpW.store (ty := 3) (id := i8) (ver := 0) (off := 0) rfl (by simp only [go_sem, reduceCtorEq, Nat.reduceAdd, Nat.reduceMul, Nat.reduceSub, Nat.reduceLT, Nat.reduceLeDiff, Nat.reduceEqDiff, Nat.reduceBEq, Nat.reducePow]) (by simp only [go_sem, reduceCtorEq, Nat.reduceAdd, Nat.reduceMul, Nat.reduceSub, Nat.reduceLT, Nat.reduceLeDiff, Nat.reduceEqDiff, Nat.reduceBEq, Nat.reducePow]; try rfl) (by rw [Hp.set_ne _ _ n86]; exact y8) (by simp only [go_sem, reduceCtorEq, Nat.reduceAdd, Nat.reduceMul, Nat.reduceSub, Nat.reduceLT, Nat.reduceLeDiff, Nat.reduceEqDiff, Nat.reduceBEq, Nat.reducePow]; try rfl) (by exact Tryz.sz3) (by simp) ?_)
            refine WpOps.step (by rfl) (by rfl) (OpW.store (ty := 4) (id := i7) (ver := 0) (off := 0) rfl (by simp only [go_sem, reduceCtorEq, Nat.reduceAdd, Nat.reduceMul, Nat.reduceSub, Nat.reduceLT, Nat.reduceLeDiff, Nat.reduceEqDiff, Nat.reduceBEq, Nat.reducePow]) (by simp only [go_sem, reduceCtorEq, Nat.reduceAdd, Nat.reduceMul, Nat.reduceSub, Nat.reduceLT, Nat.reduceLeDiff, Nat.reduceEqDiff, Nat.reduceBEq, Nat.reducePow]; try rfl) (by rw [Hp.set_ne _ _ n87.symm, Hp.set_ne _ _ n76]; exact y7) (by simp only [go_sem, reduceCtorEq, Nat.reduceAdd, Nat.reduceMul, Nat.reduceSub, Nat.reduceLT, Nat.reduceLeDiff, Nat.reduceEqDiff, Nat.reduceBEq, Nat.reducePow]; try rfl) (by exact Tryz.sz4) (by simp) ?_)
            simp only [go_sem, reduceCtorEq, Nat.reduceAdd, Nat.reduceMul, Nat.reduceSub, Nat.reduceLT, Nat.reduceLeDiff, Nat.reduceEqDiff, Nat.reduceBEq, Nat.reducePow]
            refine WpOps.nil ⟨Marks.nil _, ?_⟩
            simp only [Vthen, VinBlock, if_true, if_false, Nat.reduceEqDiff, reduceCtorEq]
            obtain ⟨q1, q2⟩ := onward (some (b, pickLen ps b)) rfl _ rfl
            exact ⟨⟨none, q1.trans (by rw [← hHb]; exact yl _)⟩, q2⟩
          | some bl =>
            obtain ⟨best, least⟩ := bl
            by_cases hless : pickLen ps b < least
            · have hless' : (b.map (plateOf ps)).sum < least := hless
              refine WpV.seq (WpV.regionE (by simp only [go_sem, reduceCtorEq, Nat.reduceAdd, Nat.reduceMul, Nat.reduceSub, Nat.reduceLT, Nat.reduceLeDiff, Nat.reduceEqDiff, Nat.reduceBEq, Nat.reducePow, y7, y8, stLeast, hless']; rfl) (Marks.nil _) ?_)
              simp only [Vthen, VinBlock, if_true, if_false, Nat.reduceEqDiff, reduceCtorEq]
              refine WpV.cond rfl (fun hb => ?_) (fun hb => by cases hb)
              refine WpV.region ?_
              refine WpOps.take 2 (by simp only [go_sem, reduceCtorEq, Nat.reduceAdd, Nat.reduceMul, Nat.reduceSub, Nat.reduceLT, Nat.reduceLeDiff, Nat.reduceEqDiff, Nat.reduceBEq, Nat.reducePow]; rfl) ?_
              refine WpOps.step (by rfl) (by rfl) (OpW.store (ty := 29) (id := i6) (ver := 0) (off := 0) rfl (by simp only [go_sem, reduceCtorEq, Nat.reduceAdd, Nat.reduceMul, Nat.reduceSub, Nat.reduceLT, Nat.reduceLeDiff, Nat.reduceEqDiff, Nat.reduceBEq, Nat.reducePow]) (by simp only [go_sem, reduceCtorEq, Nat.reduceAdd, Nat.reduceMul, Nat.reduceSub, Nat.reduceLT, Nat.reduceLeDiff, Nat.reduceEqDiff, Nat.reduceBEq, Nat.reducePow]; try rfl) y6 (by simp only [go_sem, reduceCtorEq, Nat.reduceAdd, Nat.reduceMul, Nat.reduceSub, Nat.reduceLT, Nat.reduceLeDiff, Nat.reduceEqDiff, Nat.reduceBEq, Nat.reducePow]; try rfl) (by exact Tryz.sz29) (by simp) ?_)
              refine WpOps.step (by rfl) (by rfl) (OpW.store (ty := 3) (id := i8) (ver := 0) (off := 0) rfl (by simp only [go_sem, reduceCtorEq, Nat.reduceAdd, Nat.reduceMul, Nat.reduceSub, Nat.reduceLT, Nat.reduceLeDiff, Nat.reduceEqDiff, Nat.reduceBEq, Nat.reducePow]) (by simp only [go_sem, reduceCtorEq, Nat.reduceAdd, Nat.reduceMul, Nat.reduceSub, Nat.reduceLT, Nat.reduceLeDiff, Nat.reduceEqDiff, Nat.reduceBEq, Nat.reducePow]; try rfl) (by rw [Hp.set_ne _ _ n86]; exact y8) (by simp only [go_sem, reduceCtorEq, Nat.reduceAdd, Nat.reduceMul, Nat.reduceSub, Nat.reduceLT, Nat.reduceLeDiff, Nat.reduceEqDiff, Nat.reduceBEq, Nat.reducePow]; try rfl) (by exact Tryz.sz3) (by simp) ?_)
              refine WpOps.step (by rfl) (by rfl) (OpW.store (ty := 4) (id := i7) (ver := 0) (off := 0) rfl (by simp only [go_sem, reduceCtorEq, Nat.reduceAdd, Nat.reduceMul, Nat.reduceSub, Nat.reduceLT, Nat.reduceLeDiff, Nat.reduceEqDiff, Nat.reduceBEq, Nat.reducePow]) (by simp only [go_sem, reduceCtorEq, Nat.reduceAdd, Nat.reduceMul, Nat.reduceSub, Nat.reduceLT, Nat.reduceLeDiff, Nat.reduceEqDiff, Nat.reduceBEq, Nat.reducePow]; try rfl) (by rw [Hp.set_ne _ _ n87.symm, Hp.set_ne _ _ n76]; exact y7) (by simp only [go_sem, reduceCtorEq, Nat.reduceAdd, Nat.reduceMul, Nat.reduceSub, Nat.reduceLT, Nat.reduceLeDiff, Nat.reduceEqDiff, Nat.reduceBEq, Nat.reducePow]; try rfl) (by exact Tryz.sz4) (by simp) ?_)
              simp only [go_sem, reduceCtorEq, Nat.reduceAdd, Nat.reduceMul, Nat.reduceSub, Nat.reduceLT, Nat.reduceLeDiff, Nat.reduceEqDiff, Nat.reduceBEq, Nat.reducePow]
              refine WpOps.nil ⟨Marks.nil _, ?_⟩
              simp only [Vthen, VinBlock, if_true, if_false, Nat.reduceEqDiff, reduceCtorEq]
              obtain ⟨q1, q2⟩ := onward (some (b, pickLen ps b)) (by simp [pickStep, hless]) _ rfl
              exact ⟨⟨none, q1.trans (by rw [← hHb]; exact yl _)⟩, q2⟩
            · have hless' : ¬ (b.map (plateOf ps)).sum < least := hless
              refine WpV.seq (WpV.regionE (by simp only [go_sem, reduceCtorEq, Nat.reduceAdd, Nat.reduceMul, Nat.reduceSub, Nat.reduceLT, Nat.reduceLeDiff, Nat.reduceEqDiff, Nat.reduceBEq, Nat.reducePow, y7, y8, stLeast, hless']; rfl) (Marks.nil _) ?_)
              simp only [Vthen, VinBlock, if_true, if_false, Nat.reduceEqDiff, reduceCtorEq]
              refine WpV.cond rfl (fun hb => by cases hb) (fun hb => WpV.skip ?_)
              have hsame : pickStep ps (some (best, least)) b = some (best, least) := by simp [pickStep, hless]
              refine ⟨⟨none, by rw [← hHb]; exact yl _⟩, Bx, by rw [← hHb, Hp.set_set]; exact hLx, todo, some (best, least), rfl, hM1, ?_, fun b' hb' => e3 b' (by simp [hb'])⟩
              rw [List.foldl_cons, hsame] at e2; exact e2
  · rintro H' ⟨todo, st, e1, hM1, e2, e3⟩
    have e4 : todo = [] := by cases todo with
      | nil => rfl
      | cons b todo => simp at e1
    subst e4
    have e2' : st = pickF ps items := e2
    refine ⟨hM1.marks.1, ?_⟩
    obtain ⟨o6, o8, o7⟩ := stObs_get (H := H) n76.symm n86.symm n87.symm st
    have m6 := (hM1.get o6).1
    have m7 := (hM1.get o7).1
    have m8 := (hM1.get o8).1
    simp only [Vthen, VinBlock, if_true, if_false, Nat.reduceEqDiff, reduceCtorEq]
    refine WpV.seq (WpV.regionD Tryz.mixed (by kernel_rfl) (by kernel_rfl) ?_)
    refine LexD.take 2 (by rfl) (by simp only [go_sem, reduceCtorEq, Nat.reduceAdd, Nat.reduceMul, Nat.reduceSub, Nat.reduceLT, Nat.reduceLeDiff, Nat.reduceEqDiff, Nat.reduceBEq, Nat.reducePow, m6, m7]; rfl) ?_
    refine LexD.step (x := .any) (by rfl) (by rfl) (OpW.store (ty := 29) (id := i6) (ver := 0) (off := 0) (x := stRow st) (xs := [stRow st]) rfl (by simp only [go_sem, reduceCtorEq, Nat.reduceAdd, Nat.reduceMul, Nat.reduceSub, Nat.reduceLT, Nat.reduceLeDiff, Nat.reduceEqDiff, Nat.reduceBEq, Nat.reducePow]) (by simp only [go_sem, reduceCtorEq, Nat.reduceAdd, Nat.reduceMul, Nat.reduceSub, Nat.reduceLT, Nat.reduceLeDiff, Nat.reduceEqDiff, Nat.reduceBEq, Nat.reducePow]; try rfl) m6 (by cases st <;> rfl) (by exact Tryz.sz29) (by simp) ⟨rfl, Hp.set_same _ _ _ (by simp only [go_sem, reduceCtorEq, Nat.reduceAdd, Nat.reduceMul, Nat.reduceSub, Nat.reduceLT, Nat.reduceLeDiff, Nat.reduceEqDiff, Nat.reduceBEq, Nat.reducePow]; exact m6)⟩) ?_
    refine LexD.step (x := .any) (by rfl) (by rfl) (OpW.store (ty := 4) (id := i7) (ver := 0) (off := 0) rfl (by simp only [go_sem, reduceCtorEq, Nat.reduceAdd, Nat.reduceMul, Nat.reduceSub, Nat.reduceLT, Nat.reduceLeDiff, Nat.reduceEqDiff, Nat.reduceBEq, Nat.reducePow]) (by simp only [go_sem, reduceCtorEq, Nat.reduceAdd, Nat.reduceMul, Nat.reduceSub, Nat.reduceLT, Nat.reduceLeDiff, Nat.reduceEqDiff, Nat.reduceBEq, Nat.reducePow]; try rfl) m7 (by simp only [go_sem, reduceCtorEq, Nat.reduceAdd, Nat.reduceMul, Nat.reduceSub, Nat.reduceLT, Nat.reduceLeDiff, Nat.reduceEqDiff, Nat.reduceBEq, Nat.reducePow]; try rfl) (by exact Tryz.sz4) (by simp) ⟨rfl, Hp.set_same _ _ _ (by simp only [go_sem, reduceCtorEq, Nat.reduceAdd, Nat.reduceMul, Nat.reduceSub, Nat.reduceLT, Nat.reduceLeDiff, Nat.reduceEqDiff, Nat.reduceBEq, Nat.reducePow]; exact m7)⟩) ?_
    refine LexD.nilE ⟨hM1.marks.1, ?_⟩
    simp only [Vthen, VinBlock, if_true, if_false, Nat.reduceEqDiff, reduceCtorEq]
    have hMa := hM1.set (k := i8) none o8
    have p6 : ((stObs H i6 i7 i8 st).set i8 none) i6 = some (.cells 29 0 [stRow st]) := by rw [Hp.set_ne _ _ n86.symm]; exact o6
    have hMb := hMa.set (k := i6) none p6
    have p7 : (((stObs H i6 i7 i8 st).set i8 none).set i6 none) i7 = some (.cells 4 0 [.bool st.isSome]) := by rw [Hp.set_ne _ _ n76, Hp.set_ne _ _ n87.symm]; exact o7
    have hMc := hMb.set (k := i7) none p7
    refine WpV.pre (Frz.drop _ _ i8) hMa.marks.1 ?_
    refine WpV.pre (Frz.ptr (t := 6) (id := i6) (ver := 0) (off := 0) rfl (hMa.get p6).1) hMb.marks.1 ?_
    refine WpV.pre (Frz.ptr (t := 7) (id := i7) (ver := 0) (off := 0) rfl (hMb.get p7).1) hMc.marks.1 ?_
    refine WpV.ret ⟨hMc.marks.1, hMc.marks.2, .tup [stRow st, .bool st.isSome], by simp only [Tryz.results55]; simp only [go_sem, reduceCtorEq, Nat.reduceAdd, Nat.reduceMul, Nat.reduceSub, Nat.reduceLT, Nat.reduceLeDiff, Nat.reduceEqDiff, Nat.reduceBEq, Nat.reducePow], by rw [e2'], ?_⟩
    rw [hMc.kill, stObs_drop f6 f7' f8'']
end Go.Proofs.YtaekibilldjnmaaGreat
