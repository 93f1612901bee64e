/- LetterBroken: for every case in bytes, every list of words in bytes and every two bytes the function returns true, and what it was handed reads as it did. No conditions. -/
import Derived.Test.YtaekibilldjnmaaGreatMaAM
import Derived.Test.YtaekibilldjnmaaGreatRows
import Derived.WalkKit
import Derived.ProofKit
import Derived.OpenShut
import Derived.ShutString
import Derived.ChangeOld
import Derived.Below
set_option linter.unusedVariables false
set_option linter.unusedSimpArgs false
set_option linter.unusedSectionVars false
namespace Go.Proofs.YtaekibilldjnmaaGreat
open Go.Proofs

theorem checkLines_none (H : Hp) (c : Cs) (hc : c.Valid) (n : Int) : CallV Tryz.prog 52 [.agg c.cells, .sl true true 0 [], vint n] H (fun r H' => r = vint 7 ∧ H' = H) := by
  have e0 : (((0 : Nat) : Int) == 0) = true := rfl
  refine CallV.body Tryz.func52 rfl Tryz.ntmps52 (by rfl) ?_
  refine WpV.seq (WpV.regionE (by simp only [go_sem, reduceCtorEq, Nat.reduceAdd, Nat.reduceMul, Nat.reduceSub, Nat.reduceLT, Nat.reduceLeDiff, Nat.reduceEqDiff, Nat.reduceBEq, Nat.reducePow]; rfl) (Marks.nil _) ?_)
  simp only [Vthen, VinBlock, if_true, if_false, Nat.reduceEqDiff, reduceCtorEq]
  refine WpV.seq (WpV.region ?_)
  refine WpOps.take 1 (by simp only [go_sem, reduceCtorEq, Nat.reduceAdd, Nat.reduceMul, Nat.reduceSub, Nat.reduceLT, Nat.reduceLeDiff, Nat.reduceEqDiff, Nat.reduceBEq, Nat.reducePow]; rfl) ?_
  refine WpOps.step (by rfl) (by rfl) (OpW.callY rfl (by rfl) (by rfl) (by rfl) (enters_of Tryz.func57 (by kernel_rfl) rfl) ((check_ok H c hc).mono ?_))
  rintro _ _ ⟨rfl, hH⟩
  replace hH := hH.symm
  subst hH
  refine WpOps.take 1 (by simp only [go_sem, reduceCtorEq, Nat.reduceAdd, Nat.reduceMul, Nat.reduceSub, Nat.reduceLT, Nat.reduceLeDiff, Nat.reduceEqDiff, Nat.reduceBEq, Nat.reducePow]; rfl) (WpOps.nil ⟨Marks.nil _, ?_⟩)
  simp only [Vthen, VinBlock, if_true, if_false, Nat.reduceEqDiff, reduceCtorEq]
  refine WpV.seq (WpV.block ?_)
  refine WpV.seq (WpV.regionE (by simp only [go_sem, reduceCtorEq, Nat.reduceAdd, Nat.reduceMul, Nat.reduceSub, Nat.reduceLT, Nat.reduceLeDiff, Nat.reduceEqDiff, Nat.reduceBEq, Nat.reducePow]; rfl) (Marks.nil _) ?_)
  simp only [Vthen, VinBlock, if_true, if_false, Nat.reduceEqDiff, reduceCtorEq]
  refine WpV.cond rfl (fun hb => by cases hb) (fun hb => ?_)
  refine WpV.seq (WpV.regionE (by simp only [go_sem, reduceCtorEq, Nat.reduceAdd, Nat.reduceMul, Nat.reduceSub, Nat.reduceLT, Nat.reduceLeDiff, Nat.reduceEqDiff, Nat.reduceBEq, Nat.reducePow, e0]; rfl) (Marks.nil _) ?_)
  simp only [Vthen, VinBlock, if_true, if_false, Nat.reduceEqDiff, reduceCtorEq]
  refine WpV.cond rfl (fun hb => ?_) (fun hb => by cases hb)
  refine WpV.seq (WpV.regionE (by simp only [go_sem, reduceCtorEq, Nat.reduceAdd, Nat.reduceMul, Nat.reduceSub, Nat.reduceLT, Nat.reduceLeDiff, Nat.reduceEqDiff, Nat.reduceBEq, Nat.reducePow]; rfl) (Marks.nil _) ?_)
  simp only [Vthen, VinBlock, if_true, if_false, Nat.reduceEqDiff, reduceCtorEq]
  refine WpV.ret ⟨Marks.nil _, List.nodup_nil, _, by simp only [Tryz.results52]; simp only [go_sem, reduceCtorEq, Nat.reduceAdd, Nat.reduceMul, Nat.reduceSub, Nat.reduceLT, Nat.reduceLeDiff, Nat.reduceEqDiff, Nat.reduceBEq, Nat.reducePow]; rfl, ?_⟩
  exact ⟨rfl, by first | rfl | trivial⟩
theorem Lines_none (H : Hp) (c : Cs) (hc : c.Valid) (n : Int) : CallV Tryz.prog 29 [.agg c.cells, .sl true true 0 [], vint n] H (fun r H' => r = .tup [.sl true true 0 [], vint 0, vint 7] ∧ H' = H) := by
  have e7 : ((7 : Int) != 0) = true := rfl
  refine CallV.body Tryz.func29 rfl Tryz.ntmps29 (by rfl) ?_
  refine WpV.seq (WpV.regionE (by simp only [go_sem, reduceCtorEq, Nat.reduceAdd, Nat.reduceMul, Nat.reduceSub, Nat.reduceLT, Nat.reduceLeDiff, Nat.reduceEqDiff, Nat.reduceBEq, Nat.reducePow]; rfl) (Marks.nil _) ?_)
  simp only [Vthen, VinBlock, if_true, if_false, Nat.reduceEqDiff, reduceCtorEq]
  refine WpV.seq ?_
  refine WpV.seq (WpV.region ?_)
  refine WpOps.take 3 (by simp only [go_sem, reduceCtorEq, Nat.reduceAdd, Nat.reduceMul, Nat.reduceSub, Nat.reduceLT, Nat.reduceLeDiff, Nat.reduceEqDiff, Nat.reduceBEq, Nat.reducePow]; rfl) ?_
  refine WpOps.step (by rfl) (by rfl) (OpW.callY rfl (by rfl) (by rfl) (by rfl) (enters_of Tryz.func52 (by kernel_rfl) rfl) ((checkLines_none H c hc n).mono ?_))
  rintro _ _ ⟨rfl, hH⟩
  replace hH := hH.symm
  subst hH
  refine WpOps.take 1 (by simp only [go_sem, reduceCtorEq, Nat.reduceAdd, Nat.reduceMul, Nat.reduceSub, Nat.reduceLT, Nat.reduceLeDiff, Nat.reduceEqDiff, Nat.reduceBEq, Nat.reducePow]; rfl) (WpOps.nil ⟨Marks.nil _, ?_⟩)
  simp only [Vthen, VinBlock, if_true, if_false, Nat.reduceEqDiff, reduceCtorEq]
  refine WpV.seq (WpV.regionE (by simp only [go_sem, reduceCtorEq, Nat.reduceAdd, Nat.reduceMul, Nat.reduceSub, Nat.reduceLT, Nat.reduceLeDiff, Nat.reduceEqDiff, Nat.reduceBEq, Nat.reducePow, e7]; rfl) (Marks.nil _) ?_)
  simp only [Vthen, VinBlock, if_true, if_false, Nat.reduceEqDiff, reduceCtorEq]
  refine WpV.cond rfl (fun hb => ?_) (fun hb => by cases hb)
  refine WpV.seq (WpV.regionE (by simp only [go_sem, reduceCtorEq, Nat.reduceAdd, Nat.reduceMul, Nat.reduceSub, Nat.reduceLT, Nat.reduceLeDiff, Nat.reduceEqDiff, Nat.reduceBEq, Nat.reducePow]; rfl) (Marks.nil _) ?_)
  simp only [Vthen, VinBlock, if_true, if_false, Nat.reduceEqDiff, reduceCtorEq]
  refine WpV.ret ⟨Marks.nil _, List.nodup_nil, _, by simp only [Tryz.results29]; simp only [go_sem, reduceCtorEq, Nat.reduceAdd, Nat.reduceMul, Nat.reduceSub, Nat.reduceLT, Nat.reduceLeDiff, Nat.reduceEqDiff, Nat.reduceBEq, Nat.reducePow]; rfl, ?_⟩
  exact ⟨rfl, by first | rfl | trivial⟩

theorem lines_own (c : Cs) (rs : List Row) (n : Int) : ∀ (l : List (List Int)) (st : Option (List Int × Int)), c.own.linesF rs n l st = c.linesF rs n l st
  | [], _ => rfl
  | b :: l, st => by
    rw [Cs.linesF, Cs.linesF, lines_own c rs n l]
    rfl
theorem most_ge {xs : List Int} (hp : 0 < xs.length) (h : ∀ x ∈ xs, 0 ≤ x) : 0 ≤ maxL xs xs.length := by
  cases xs with
  | nil => simp at hp
  | cons a l =>
    have e : maxL (a :: l) (a :: l).length = l.foldl (fun a b => if b > a then b else a) a := by simp [maxL]
    rw [e]
    have key : ∀ (l : List Int) (a : Int), 0 ≤ a → 0 ≤ l.foldl (fun a b => if b > a then b else a) a := by
      intro l
      induction l with
      | nil => intro a h; exact h
      | cons b l ih =>
        intro a h
        rw [List.foldl_cons]
        refine ih _ ?_
        split <;> omega
    exact key l a (h a (by simp))
theorem begs_all {m : Nat} (hm : 0 < m) : Begs m (numsF 0 m) := by
  refine ⟨by rw [numsF_len]; exact hm, ?_, numsF_pair 0 m, fun x hx => by have := numsF_mem hx; omega⟩
  simp [numsF, List.getD_eq_getElem?_getD, hm]
/-- If each word goes on a line by itself, there are lines. -/
theorem lines_are {c : Cs} (hc : c.Fair) {rs : List Row} (hw : ∀ r ∈ rs, c.Word r.2.2) {n : Int} (h0 : 0 < rs.length) (hn : ∀ r ∈ rs, c.needF [r.2.2] ≤ n) : 0 ≤ c.leastR rs n (numsF 0 rs.length) := by
  have hB := begs_all h0
  have hl := numsF_len 0 rs.length
  have hrl := Cs.restN_len c rs (numsF 0 rs.length) n (numsF 0 rs.length).length
  have hmin := minL_ge (xs := c.restN rs (numsF 0 rs.length) n (numsF 0 rs.length).length) (by omega)
  rw [hrl] at hmin
  refine hmin.2 fun x hx => ?_
  unfold Cs.restN at hx
  obtain ⟨k, hk, rfl⟩ := List.mem_map.1 hx
  have hkl := List.mem_range.1 hk
  have hkm : k < rs.length := by omega
  rw [rest_seg c rs n hB hkl]
  have e1 : ∀ j, j ≤ rs.length → bAt rs.length (numsF 0 rs.length) j = j := by
    intro j hj
    unfold bAt
    split
    · rename_i h
      rw [hl] at h
      simp [numsF, List.getD_eq_getElem?_getD, h]
    · omega
  rw [e1 k (by omega), e1 (k + 1) (by omega)]
  unfold Cs.segN
  have e2 : ((rs.map (·.2.2)).drop k).take (k + 1 - k) = [rs[k].2.2] := by
    rw [show k + 1 - k = 1 by omega, List.drop_eq_getElem_cons (by simpa using hkm)]
    simp
  rw [e2]
  have := hn _ (List.getElem_mem hkm)
  omega

set_option maxHeartbeats 4000000 in
theorem great_any (H : Hp) (c : Cs) (hc : c.Valid) (nl clip nl2 clip2 : Bool) (rs : List Row) (bs : List Int) (n : Int) (hrs : ∀ r ∈ rs, c.Word r.2.2) (h5 : rs.length ≤ 5) (hb : bs.length ≤ 1000) (hn : 1 ≤ n ∧ n ≤ 400) :
    CallV Tryz.prog 31 [.agg c.cells, vrows nl clip rs, vints nl2 clip2 bs, vint n] H (fun r H' => r = vint (c.greatF (rs.map (·.2.2)) bs n) ∧ H' = H) := by
  have hF := hc.fair
  have hrim := hF.rim
  have hbl := hF.blank
  have hws : (rs.map (·.2.2)).length = rs.length := List.length_map ..
  have hgd : ∀ i, (hi : i < rs.length) → (rs.map (·.2.2)).getD i [] = rs[i].2.2 := fun i hi => by simp [List.getD_eq_getElem?_getD, hi]
  have hone : (c.cells.all AV.one) = true := by simp [AV.one]
  generalize hw0 : rs.map (·.2.2) = ws at *
  generalize hG : c.greatF ws bs n = G
  have hG0 : c.greatS ws bs n (rs.length - 0) 0 (-1) 0 = G := by rw [← hG, ← hws]; rfl
  have hw2 : IntKind.i64.wrap (2 * c.rim) = 2 * c.rim := wrap64 (by omega)
  refine CallV.body Tryz.func31 rfl Tryz.ntmps31 (by rfl) ?_
  refine WpV.seq (WpV.regionE (by simp only [go_sem, reduceCtorEq, Nat.reduceAdd, Nat.reduceMul, Nat.reduceSub, Nat.reduceLT, Nat.reduceLeDiff, Nat.reduceEqDiff, Nat.reduceBEq, Nat.reducePow]; rfl) (Marks.nil _) ?_)
  simp only [Vthen, VinBlock, if_true, if_false, Nat.reduceEqDiff, reduceCtorEq]
  refine WpV.seq (WpV.regionE (by simp only [go_sem, reduceCtorEq, Nat.reduceAdd, Nat.reduceMul, Nat.reduceSub, Nat.reduceLT, Nat.reduceLeDiff, Nat.reduceEqDiff, Nat.reduceBEq, Nat.reducePow]; rfl) (Marks.nil _) ?_)
  simp only [Vthen, VinBlock, if_true, if_false, Nat.reduceEqDiff, reduceCtorEq]
  refine WpV.seq ?_
  refine WpV.seq (WpV.regionE (by simp only [go_sem, reduceCtorEq, Nat.reduceAdd, Nat.reduceMul, Nat.reduceSub, Nat.reduceLT, Nat.reduceLeDiff, Nat.reduceEqDiff, Nat.reduceBEq, Nat.reducePow]; rfl) (Marks.nil _) ?_)
  simp only [Vthen, VinBlock, if_true, if_false, Nat.reduceEqDiff, reduceCtorEq]
  refine WpV.block (WpV.loop (ι := { q : Nat × Int × Int // q.1 ≤ rs.length ∧ c.greatS ws bs n (rs.length - q.1) q.1 q.2.1 q.2.2 = G ∧ (0 ≤ q.2.2 ∧ q.2.2 ≤ 400) })
    (fun q => [(1, vrows nl clip rs), (2, vints nl2 clip2 bs), (3, vint n), (4, .cp c.cells 0), (9, vint q.1.2.1), (10, vint q.1.2.2), (11, vint q.1.1)]) (fun _ => H) (fun q => rs.length - q.1.1) ⟨(0, -1, 0), Nat.zero_le _, hG0, by decide⟩ ?_ rfl ?_)
  · exact Sub.cons rfl rfl (Sub.cons rfl rfl (Sub.cons rfl rfl (Sub.cons rfl rfl (Sub.cons rfl rfl (Sub.cons rfl rfl (Sub.cons rfl rfl (Sub.nil _)))))))
  rintro ⟨⟨i, most, line⟩, hi, hgS, hln⟩
  simp only at hi hgS hln ⊢
  refine WpV.seq ?_
  refine WpV.seq (WpV.regionE (by simp only [go_sem, reduceCtorEq, Nat.reduceAdd, Nat.reduceMul, Nat.reduceSub, Nat.reduceLT, Nat.reduceLeDiff, Nat.reduceEqDiff, Nat.reduceBEq, Nat.reducePow]; rfl) (Marks.nil _) ?_)
  simp only [Vthen, VinBlock, if_true, if_false, Nat.reduceEqDiff, reduceCtorEq]
  refine WpV.cond rfl (fun hb => WpV.skip ?_) (fun hb => WpV.exit ?_)
  · have hlt : (i : Int) < (rs.length : Int) := of_decide_eq_true ‹_›
    have hlti : i < rs.length := by omega
    have hni : IntKind.i64.wrap ((i : Int) + 1) = ((i + 1 : Nat) : Int) := by rw [wrap64 (by omega)]; rfl
    have hgr : (rs.map rowV)[i]? = some (vints rs[i].1 rs[i].2.1 rs[i].2.2) := by simp [hlti, rowV]
    have hnd := needs_any H c hc rs[i].1 rs[i].2.1 rs[i].2.2 (hrs _ (List.getElem_mem _))
    have hn1 := Cs.need1_le hF (hrs _ (List.getElem_mem hlti))
    have hnE := Cs.need_one c rs[i].2.2
    rw [show rs.length - i = (rs.length - (i + 1)) + 1 by omega, Cs.greatS, hgd i hlti] at hgS
    generalize rs[i].2.2 = w at *
    generalize hbase : (if contB bs (i : Int) = true then 2 * c.rim else line + c.blank) = base at hgS
    have hbr : 0 ≤ base ∧ base ≤ 430 := by rw [← hbase]; split <;> omega
    simp only [Vthen, VinBlock, if_true, if_false, Nat.reduceEqDiff, reduceCtorEq]
    refine WpV.seq (WpV.block ?_)
    refine WpV.seqS [(1, vrows nl clip rs), (2, vints nl2 clip2 bs), (3, vint n), (4, .cp c.cells 0), (9, vint most), (10, vint base), (11, vint i)] ?_ ?_
    · have hh := has_any H nl2 clip2 bs (by omega) (i : Int)
      rw [any_cont] at hh
      cases hcb : contB bs (i : Int)
      · rw [hcb] at hh hbase
        have hwb : IntKind.i64.wrap (line + c.blank) = base := by rw [← hbase]; exact wrap64 (by omega)
        refine WpV.seq (WpV.region ?_)
        refine WpOps.take 2 (by simp only [go_sem, reduceCtorEq, Nat.reduceAdd, Nat.reduceMul, Nat.reduceSub, Nat.reduceLT, Nat.reduceLeDiff, Nat.reduceEqDiff, Nat.reduceBEq, Nat.reducePow]; rfl) ?_
        refine WpOps.step (by rfl) (by rfl) (OpW.callY rfl (by rfl) (by rfl) (by rfl) (enters_of Tryz.func24 (by kernel_rfl) rfl) ((hh).mono ?_))
        rintro _ _ ⟨rfl, hH⟩
        replace hH := hH.symm
        subst hH
        refine WpOps.nil ⟨Marks.nil _, ?_⟩
        simp only [Vthen, VinBlock, if_true, if_false, Nat.reduceEqDiff, reduceCtorEq]
        refine WpV.cond rfl (fun hb => by cases hb) (fun hb => ?_)
        refine WpV.regionE (by simp only [go_sem, reduceCtorEq, Nat.reduceAdd, Nat.reduceMul, Nat.reduceSub, Nat.reduceLT, Nat.reduceLeDiff, Nat.reduceEqDiff, Nat.reduceBEq, Nat.reducePow, hwb]; rfl) (Marks.nil _) ?_
        simp only [Vthen, VinBlock, if_true, if_false, Nat.reduceEqDiff, reduceCtorEq]
        exact ⟨by first | rfl | trivial, by first | rfl | trivial, Sub.cons rfl rfl (Sub.cons rfl rfl (Sub.cons rfl rfl (Sub.cons rfl rfl (Sub.cons rfl rfl (Sub.cons rfl rfl (Sub.cons rfl rfl (Sub.nil _)))))))⟩
      · rw [hcb] at hh hbase
        have hwb : IntKind.i64.wrap (2 * c.rim) = base := by rw [← hbase]; exact hw2
        refine WpV.seq (WpV.region ?_)
        refine WpOps.take 2 (by simp only [go_sem, reduceCtorEq, Nat.reduceAdd, Nat.reduceMul, Nat.reduceSub, Nat.reduceLT, Nat.reduceLeDiff, Nat.reduceEqDiff, Nat.reduceBEq, Nat.reducePow]; rfl) ?_
        refine WpOps.step (by rfl) (by rfl) (OpW.callY rfl (by rfl) (by rfl) (by rfl) (enters_of Tryz.func24 (by kernel_rfl) rfl) ((hh).mono ?_))
        rintro _ _ ⟨rfl, hH⟩
        replace hH := hH.symm
        subst hH
        refine WpOps.nil ⟨Marks.nil _, ?_⟩
        simp only [Vthen, VinBlock, if_true, if_false, Nat.reduceEqDiff, reduceCtorEq]
        refine WpV.cond rfl (fun hb => ?_) (fun hb => by cases hb)
        refine WpV.regionE (by simp only [go_sem, reduceCtorEq, Nat.reduceAdd, Nat.reduceMul, Nat.reduceSub, Nat.reduceLT, Nat.reduceLeDiff, Nat.reduceEqDiff, Nat.reduceBEq, Nat.reducePow, hwb]; rfl) (Marks.nil _) ?_
        simp only [Vthen, VinBlock, if_true, if_false, Nat.reduceEqDiff, reduceCtorEq]
        exact ⟨by first | rfl | trivial, by first | rfl | trivial, Sub.cons rfl rfl (Sub.cons rfl rfl (Sub.cons rfl rfl (Sub.cons rfl rfl (Sub.cons rfl rfl (Sub.cons rfl rfl (Sub.cons rfl rfl (Sub.nil _)))))))⟩
    have hws1 : IntKind.i64.wrap (c.needF [w] - 2 * c.rim) = c.need1 w := by rw [wrap64 (by omega)]; omega
    have hwa : IntKind.i64.wrap (base + c.need1 w) = base + c.need1 w := wrap64 (by omega)
    refine WpV.seq (WpV.regionTN 12 Tryz.mixed (by kernel_rfl) (by kernel_rfl) (by kernel_rfl) ?_)
    refine LexD.take 6 (by rfl) (by simp only [go_sem, reduceCtorEq, Nat.reduceAdd, Nat.reduceMul, Nat.reduceSub, Nat.reduceLT, Nat.reduceLeDiff, Nat.reduceEqDiff, Nat.reduceBEq, Nat.reducePow, hlt, hgr, hw2, hws1, hwa]; rfl) ?_
    refine LexD.step (by rfl) (by rfl) (OpW.callY rfl (by rfl) (by rfl) (by rfl) (enters_of Tryz.func13 (by kernel_rfl) rfl) (hnd)) ?_
    refine LexD.take 5 (by rfl) (by simp only [go_sem, reduceCtorEq, Nat.reduceAdd, Nat.reduceMul, Nat.reduceSub, Nat.reduceLT, Nat.reduceLeDiff, Nat.reduceEqDiff, Nat.reduceBEq, Nat.reducePow, hlt, hgr, hw2, hws1, hwa]; rfl) ?_
    refine LexD.nilE ?_
    refine LexT.take 1 (by simp only [go_sem, reduceCtorEq, Nat.reduceAdd, Nat.reduceMul, Nat.reduceSub, Nat.reduceLT, Nat.reduceLeDiff, Nat.reduceEqDiff, Nat.reduceBEq, Nat.reducePow, hlt, hgr, hw2, hws1, hwa]; rfl) (LexT.nilE ⟨Marks.nil _, ?_⟩)
    simp only [Vthen, VinBlock, if_true, if_false, Nat.reduceEqDiff, reduceCtorEq]
    refine WpV.seq ?_
    by_cases hgt : base + c.need1 w > n
    · rw [if_pos hgt] at hgS
      refine WpV.seq (WpV.regionE (by simp only [go_sem, reduceCtorEq, Nat.reduceAdd, Nat.reduceMul, Nat.reduceSub, Nat.reduceLT, Nat.reduceLeDiff, Nat.reduceEqDiff, Nat.reduceBEq, Nat.reducePow, hgt]; rfl) (Marks.nil _) ?_)
      simp only [Vthen, VinBlock, if_true, if_false, Nat.reduceEqDiff, reduceCtorEq]
      refine WpV.cond rfl (fun hb => ?_) (fun hb => by cases hb)
      refine WpV.seq (WpV.regionE (by simp only [go_sem, reduceCtorEq, Nat.reduceAdd, Nat.reduceMul, Nat.reduceSub, Nat.reduceLT, Nat.reduceLeDiff, Nat.reduceEqDiff, Nat.reduceBEq, Nat.reducePow]; rfl) (Marks.nil _) ?_)
      simp only [Vthen, VinBlock, if_true, if_false, Nat.reduceEqDiff, reduceCtorEq]
      refine WpV.ret ⟨Marks.nil _, List.nodup_nil, _, by simp only [Tryz.results31]; simp only [go_sem, reduceCtorEq, Nat.reduceAdd, Nat.reduceMul, Nat.reduceSub, Nat.reduceLT, Nat.reduceLeDiff, Nat.reduceEqDiff, Nat.reduceBEq, Nat.reducePow]; rfl, ?_⟩
      exact ⟨by rw [hgS], by first | rfl | trivial⟩
    · rw [if_neg hgt] at hgS
      refine WpV.seq (WpV.regionE (by simp only [go_sem, reduceCtorEq, Nat.reduceAdd, Nat.reduceMul, Nat.reduceSub, Nat.reduceLT, Nat.reduceLeDiff, Nat.reduceEqDiff, Nat.reduceBEq, Nat.reducePow, hgt]; rfl) (Marks.nil _) ?_)
      simp only [Vthen, VinBlock, if_true, if_false, Nat.reduceEqDiff, reduceCtorEq]
      refine WpV.cond rfl (fun hb => by cases hb) (fun hb => WpV.skip ?_)
      simp only [Vthen, VinBlock, if_true, if_false, Nat.reduceEqDiff, reduceCtorEq]
      have hwd : IntKind.i64.wrap (n - (base + c.need1 w)) = n - (base + c.need1 w) := wrap64 (by omega)
      have hh := has_any H nl2 clip2 bs (by omega) ((i + 1 : Nat) : Int)
      rw [any_cont] at hh
      by_cases hem : i + 1 = rs.length
      · have heq : (((i + 1 : Nat) : Int) == (rs.length : Int)) = true := by rw [hem]; simp
        rw [if_pos (.inl (by omega))] at hgS
        refine WpV.seq (WpV.region ?_)
        refine WpOps.take 8 (by simp only [go_sem, reduceCtorEq, Nat.reduceAdd, Nat.reduceMul, Nat.reduceSub, Nat.reduceLT, Nat.reduceLeDiff, Nat.reduceEqDiff, Nat.reduceBEq, Nat.reducePow, hni, heq]; rfl) ?_
        refine WpOps.take 3 (by simp only [go_sem, reduceCtorEq, Nat.reduceAdd, Nat.reduceMul, Nat.reduceSub, Nat.reduceLT, Nat.reduceLeDiff, Nat.reduceEqDiff, Nat.reduceBEq, Nat.reducePow, hni, heq]; rfl) (WpOps.nil ⟨Marks.nil _, ?_⟩)
        simp only [Vthen, VinBlock, if_true, if_false, Nat.reduceEqDiff, reduceCtorEq]
        refine WpV.cond rfl (fun hb => ?_) (fun hb => by cases hb)
        refine WpV.regionE (by simp only [go_sem, reduceCtorEq, Nat.reduceAdd, Nat.reduceMul, Nat.reduceSub, Nat.reduceLT, Nat.reduceLeDiff, Nat.reduceEqDiff, Nat.reduceBEq, Nat.reducePow, hwd]; rfl) (Marks.nil _) ?_
        simp only [Vthen, VinBlock, if_true, if_false, Nat.reduceEqDiff, reduceCtorEq]
        refine WpV.regionE (by simp only [go_sem, reduceCtorEq, Nat.reduceAdd, Nat.reduceMul, Nat.reduceSub, Nat.reduceLT, Nat.reduceLeDiff, Nat.reduceEqDiff, Nat.reduceBEq, Nat.reducePow, hni]; rfl) (Marks.nil _) ?_
        simp only [Vthen, VinBlock, if_true, if_false, Nat.reduceEqDiff, reduceCtorEq]
        exact ⟨by first | rfl | trivial, ⟨(i + 1, mx most (n - (base + c.need1 w)), base + c.need1 w), by simp only; omega, hgS, by simp only; omega⟩, by simp only; omega, Sub.cons rfl rfl (Sub.cons rfl rfl (Sub.cons rfl rfl (Sub.cons rfl rfl (Sub.cons rfl rfl (Sub.cons rfl rfl (Sub.cons rfl rfl (Sub.nil _))))))), by first | rfl | trivial⟩
      · have heq : (((i + 1 : Nat) : Int) == (rs.length : Int)) = false := by
          simp only [beq_eq_false_iff_ne]; omega
        cases hcb : contB bs ((i + 1 : Nat) : Int)
        · rw [hcb] at hh
          rw [if_neg (by rw [hcb, hws]; rintro (h | h); exact hem h; cases h)] at hgS
          refine WpV.seq (WpV.region ?_)
          refine WpOps.take 8 (by simp only [go_sem, reduceCtorEq, Nat.reduceAdd, Nat.reduceMul, Nat.reduceSub, Nat.reduceLT, Nat.reduceLeDiff, Nat.reduceEqDiff, Nat.reduceBEq, Nat.reducePow, hni, heq]; rfl) ?_
          refine WpOps.take 1 (by simp only [go_sem, reduceCtorEq, Nat.reduceAdd, Nat.reduceMul, Nat.reduceSub, Nat.reduceLT, Nat.reduceLeDiff, Nat.reduceEqDiff, Nat.reduceBEq, Nat.reducePow, hni, heq]; rfl) ?_
          refine WpOps.step (by rfl) (by rfl) (OpW.callY rfl (by rfl) (by rfl) (by rfl) (enters_of Tryz.func24 (by kernel_rfl) rfl) ((hh).mono ?_))
          rintro _ _ ⟨rfl, hH⟩
          replace hH := hH.symm
          subst hH
          refine WpOps.take 1 (by simp only [go_sem, reduceCtorEq, Nat.reduceAdd, Nat.reduceMul, Nat.reduceSub, Nat.reduceLT, Nat.reduceLeDiff, Nat.reduceEqDiff, Nat.reduceBEq, Nat.reducePow, hni, heq]; rfl) (WpOps.nil ⟨Marks.nil _, ?_⟩)
          simp only [Vthen, VinBlock, if_true, if_false, Nat.reduceEqDiff, reduceCtorEq]
          refine WpV.cond rfl (fun hb => by cases hb) (fun hb => WpV.skip ?_)
          simp only [Vthen, VinBlock, if_true, if_false, Nat.reduceEqDiff, reduceCtorEq]
          refine WpV.regionE (by simp only [go_sem, reduceCtorEq, Nat.reduceAdd, Nat.reduceMul, Nat.reduceSub, Nat.reduceLT, Nat.reduceLeDiff, Nat.reduceEqDiff, Nat.reduceBEq, Nat.reducePow, hni]; rfl) (Marks.nil _) ?_
          simp only [Vthen, VinBlock, if_true, if_false, Nat.reduceEqDiff, reduceCtorEq]
          exact ⟨by first | rfl | trivial, ⟨(i + 1, most, base + c.need1 w), by simp only; omega, hgS, by simp only; omega⟩, by simp only; omega, Sub.cons rfl rfl (Sub.cons rfl rfl (Sub.cons rfl rfl (Sub.cons rfl rfl (Sub.cons rfl rfl (Sub.cons rfl rfl (Sub.cons rfl rfl (Sub.nil _))))))), by first | rfl | trivial⟩
        · rw [hcb] at hh
          rw [if_pos (.inr hcb)] at hgS
          refine WpV.seq (WpV.region ?_)
          refine WpOps.take 8 (by simp only [go_sem, reduceCtorEq, Nat.reduceAdd, Nat.reduceMul, Nat.reduceSub, Nat.reduceLT, Nat.reduceLeDiff, Nat.reduceEqDiff, Nat.reduceBEq, Nat.reducePow, hni, heq]; rfl) ?_
          refine WpOps.take 1 (by simp only [go_sem, reduceCtorEq, Nat.reduceAdd, Nat.reduceMul, Nat.reduceSub, Nat.reduceLT, Nat.reduceLeDiff, Nat.reduceEqDiff, Nat.reduceBEq, Nat.reducePow, hni, heq]; rfl) ?_
          refine WpOps.step (by rfl) (by rfl) (OpW.callY rfl (by rfl) (by rfl) (by rfl) (enters_of Tryz.func24 (by kernel_rfl) rfl) ((hh).mono ?_))
          rintro _ _ ⟨rfl, hH⟩
          replace hH := hH.symm
          subst hH
          refine WpOps.take 1 (by simp only [go_sem, reduceCtorEq, Nat.reduceAdd, Nat.reduceMul, Nat.reduceSub, Nat.reduceLT, Nat.reduceLeDiff, Nat.reduceEqDiff, Nat.reduceBEq, Nat.reducePow, hni, heq]; rfl) (WpOps.nil ⟨Marks.nil _, ?_⟩)
          simp only [Vthen, VinBlock, if_true, if_false, Nat.reduceEqDiff, reduceCtorEq]
          refine WpV.cond rfl (fun hb => ?_) (fun hb => by cases hb)
          refine WpV.regionE (by simp only [go_sem, reduceCtorEq, Nat.reduceAdd, Nat.reduceMul, Nat.reduceSub, Nat.reduceLT, Nat.reduceLeDiff, Nat.reduceEqDiff, Nat.reduceBEq, Nat.reducePow, hwd]; rfl) (Marks.nil _) ?_
          simp only [Vthen, VinBlock, if_true, if_false, Nat.reduceEqDiff, reduceCtorEq]
          refine WpV.regionE (by simp only [go_sem, reduceCtorEq, Nat.reduceAdd, Nat.reduceMul, Nat.reduceSub, Nat.reduceLT, Nat.reduceLeDiff, Nat.reduceEqDiff, Nat.reduceBEq, Nat.reducePow, hni]; rfl) (Marks.nil _) ?_
          simp only [Vthen, VinBlock, if_true, if_false, Nat.reduceEqDiff, reduceCtorEq]
          exact ⟨by first | rfl | trivial, ⟨(i + 1, mx most (n - (base + c.need1 w)), base + c.need1 w), by simp only; omega, hgS, by simp only; omega⟩, by simp only; omega, Sub.cons rfl rfl (Sub.cons rfl rfl (Sub.cons rfl rfl (Sub.cons rfl rfl (Sub.cons rfl rfl (Sub.cons rfl rfl (Sub.cons rfl rfl (Sub.nil _))))))), by first | rfl | trivial⟩
  · have hge : i = rs.length := by have := of_decide_eq_false ‹_›; omega
    subst hge
    rw [Nat.sub_self, Cs.greatS] at hgS
    simp only [Vthen, VinBlock, if_true, if_false, Nat.reduceEqDiff, reduceCtorEq]
    refine WpV.seq (WpV.regionE (by simp only [go_sem, reduceCtorEq, Nat.reduceAdd, Nat.reduceMul, Nat.reduceSub, Nat.reduceLT, Nat.reduceLeDiff, Nat.reduceEqDiff, Nat.reduceBEq, Nat.reducePow]; rfl) (Marks.nil _) ?_)
    simp only [Vthen, VinBlock, if_true, if_false, Nat.reduceEqDiff, reduceCtorEq]
    refine WpV.ret ⟨Marks.nil _, List.nodup_nil, _, by simp only [Tryz.results31]; simp only [go_sem, reduceCtorEq, Nat.reduceAdd, Nat.reduceMul, Nat.reduceSub, Nat.reduceLT, Nat.reduceLeDiff, Nat.reduceEqDiff, Nat.reduceBEq, Nat.reducePow]; rfl, ?_⟩
    exact ⟨by rw [hgS], by first | rfl | trivial⟩
end Go.Proofs.YtaekibilldjnmaaGreat
namespace Go.Proofs.YtaekibilldjnmaaGreat
open Go.Proofs

/-- A row under way that begins with one cell that was laid. -/
def Bl1 (H : Hp) (o : List Int) (v : AV) (H' : Hp) : Prop :=
  (∃ y, o = [y] ∧ v = .sl false true 1 [vint y] ∧ H' = H) ∨ (∃ id ver, H id = none ∧ v = .rs id ver 1 0 o.length false ∧ H' = H.set id (some (.cells 3 ver (o.map vint))))
theorem Bl1.frz {H H' : Hp} {o : List Int} {v : AV} (h : Bl1 H o v H') {fr : Fr} {t : Nat} (ht : fr.get t = some v) : ∃ cl, Frz fr H' ((t, vints false cl o) :: fr) H := by
  rcases h with ⟨y, rfl, rfl, rfl⟩ | ⟨id, ver, hid, rfl, rfl⟩
  · refine ⟨true, Frz.weaken fun k x hx => ?_⟩
    simp only [Fr.get] at hx
    split at hx
    · rename_i e'; subst e'; cases hx; exact ht
    · exact hx
  · refine ⟨false, ?_⟩
    have := Frz.slice (ty := 3) (cs := o.map vint) ht (Hp.set_eq H id _)
    rw [Hp.set_set, Hp.set_same _ _ _ hid, List.drop_zero, List.take_of_length_le (by simp)] at this
    exact this
theorem OpW.append1 {H0 H : Hp} {o : Oper} {ev : Operand → Option AV} {a y : Operand} {xs : List Int} {x : Int} {v y' : AV} {K : AV → Hp → Prop}
    (ho : o.op = .call { callee := .builtin .append, args := #[a, y], argTypes := #[29, 29] }) (hb : Bl1 H0 xs v H) (ha : ev a = some v) (hy : ev y = some y') (hv : viewS H y' = some (1, [vint x])) (hl : xs.length < 1000000)
    (hk : ∀ v' H', Bl1 H0 (xs ++ [x]) v' H' → K v' H') : OpW Tryz.prog o ev H K := by
  rcases hb with ⟨z, rfl, rfl, rfl⟩ | ⟨id, ver, hid, rfl, rfl⟩
  · refine OpW.append (nl := false) (len := 1) (cells := [vint z]) (m := 1) (ys := [vint x]) ho ha hy hv (Tryz.el29 (by omega)) Tryz.underlying29 (by simp) rfl rfl (by decide) (fun id hid => hk _ _ (.inr ⟨id, 0, hid, rfl, rfl⟩))
  · refine OpW.appendO (m := 1) (ys := [vint x]) ho ha (Hp.set_eq _ _ _) hy hv (Tryz.el29 (by omega)) Tryz.underlying29 (by simp) rfl rfl ?_
    rw [Hp.set_set]
    refine hk _ _ (.inr ⟨id, ver + 1, hid, by simp, ?_⟩)
    simp [List.take_of_length_le]
theorem Begs.wait {i : Nat} {o : List Int} (h : Begs i o) : Begs (i + 1) o := ⟨h.pos, h.zero, h.up, fun x hx => by have := h.rng x hx; omega⟩
theorem Begs.next {i : Nat} {o : List Int} (h : Begs i o) : Begs (i + 1) (o ++ [(i : Int)]) := by
  refine ⟨by simp, ?_, ?_, fun x hx => ?_⟩
  · rw [getD_app_l h.pos]; exact h.zero
  · rw [List.pairwise_append]
    exact ⟨h.up, by simp, fun x hx y hy => by
      have : y = (i : Int) := by simpa using hy
      subst this; exact (h.rng x hx).2⟩
  · rcases List.mem_append.1 hx with hx | hx
    · have := h.rng x hx; omega
    · have : x = (i : Int) := by simpa using hx
      omega
theorem Begs.few {m : Nat} {o : List Int} (h : Begs m o) : o.length ≤ m := by
  obtain ⟨t, rfl, ht, hm⟩ := breaks_inv h.mem
  have := ht.length_le
  rw [numsF_len] at this
  simp; omega

set_option maxRecDepth 100000 in
set_option maxHeartbeats 16000000 in
theorem Broken_any (H : Hp) (x : TyA) (hx : x.Ok) (nl clip : Bool) (l : List RX) (hl : l.length ≤ 9223372036854775807) (hr : ∀ r ∈ l, r.ok) (b0 b1 : Int) (hb0 : Byte b0) (hb1 : Byte b1) :
    CallV Tryz.prog 5 [.agg x.cells, .sl nl clip l.length (l.map rowX), .agg [vbyte b0, vbyte b1]] H (fun r H' => r = .bool true ∧ H' = H) := by
  have hone : (x.cells.all AV.one) = true := by
    unfold TyA.cells
    rw [List.all_append]
    simp [AV.one]
  have hone2 : (([vbyte b0, vbyte b1] : List AV).all AV.one) = true := by simp [AV.one]
  have hmk := made_any H x hx
  have hcV := made_valid hx
  have hc6 := made_len hx
  have htk : x.cells.take 10 = x.cells := List.take_of_length_le (by unfold TyA.cells; simp [hx.wd])
  have hlen : x.cells.length = 10 := by unfold TyA.cells; simp [hx.wd]
  generalize x.made = c at hmk hcV hc6
  have hF := hcV.fair
  have hmany := many_any H nl clip l hl hr
  have hrs : ∀ r ∈ manyF l, c.Word r.2.2 := many_words hc6 hr _
  have hr5 : (manyF l).length ≤ 5 := by
    have := manyN_len l (Nat.min_le_left l.length 5)
    show (manyN l _).length ≤ 5
    omega
  generalize manyF l = rs at hmany hrs hr5
  generalize hfl : decide (rs.length = 0) = fl at hmany
  have hv0 : ([vbyte b0, vbyte b1] : List AV)[0]? = some (vbyte b0) := rfl
  have hv1 : ([vbyte b0, vbyte b1] : List AV)[1]? = some (vbyte b1) := rfl
  have hvl : ([vbyte b0, vbyte b1] : List AV).length = 2 := rfl
  generalize ([vbyte b0, vbyte b1] : List AV) = vc at *
  have z0 : (0 : Int) ≤ 0 ∧ (0 : Int) < ((2 : Nat) : Int) := by decide
  have z1 : (0 : Int) ≤ 1 ∧ (1 : Int) < ((2 : Nat) : Int) := by decide
  have t0 : Int.toNat 0 = 0 := rfl
  have t1 : Int.toNat 1 = 1 := rfl
  unfold Byte at hb0 hb1
  have hkn := known_any H
  have hdn := own_any H c hcV.ok
  refine CallV.body Tryz.func5 rfl Tryz.ntmps5 (by rfl) ?_
  refine WpV.seq (WpV.regionE (by simp only [go_sem, reduceCtorEq, Nat.reduceAdd, Nat.reduceMul, Nat.reduceSub, Nat.reduceLT, Nat.reduceLeDiff, Nat.reduceEqDiff, Nat.reduceBEq, Nat.reducePow, hone, hone2]; rfl) (Marks.nil _) ?_)
  simp only [Vthen, VinBlock, if_true, if_false, Nat.reduceEqDiff, reduceCtorEq]
  refine WpV.seq (WpV.region ?_)
  refine WpOps.take 1 (by simp only [go_sem, reduceCtorEq, Nat.reduceAdd, Nat.reduceMul, Nat.reduceSub, Nat.reduceLT, Nat.reduceLeDiff, Nat.reduceEqDiff, Nat.reduceBEq, Nat.reducePow, htk, hlen]; rfl) ?_
  refine WpOps.step (by rfl) (by rfl) (OpW.callY rfl (by rfl) (by rfl) (by rfl) (enters_of Tryz.func8 (by kernel_rfl) rfl) ((hmk).mono ?_))
  rintro _ _ ⟨rfl, hH⟩
  replace hH := hH.symm
  subst hH
  refine WpOps.take 1 (by simp only [go_sem, reduceCtorEq, Nat.reduceAdd, Nat.reduceMul, Nat.reduceSub, Nat.reduceLT, Nat.reduceLeDiff, Nat.reduceEqDiff, Nat.reduceBEq, Nat.reducePow]; rfl) ?_
  refine WpOps.step (by rfl) (by rfl) (OpW.callY rfl (by rfl) (by rfl) (by rfl) (enters_of Tryz.func28 (by kernel_rfl) rfl) ((hmany).mono ?_))
  rintro _ _ ⟨rfl, hH⟩
  replace hH := hH.symm
  subst hH
  refine WpOps.step (by rfl) (by rfl) (OpW.alloc rfl (Tryz.ze32) (fun i7 f7 => ?_))
  refine WpOps.step (by rfl) (by rfl) (OpW.store (ty := 32) (id := i7) (ver := 0) (off := 0) rfl (by simp only [go_sem, reduceCtorEq, Nat.reduceAdd, Nat.reduceMul, Nat.reduceSub, Nat.reduceLT, Nat.reduceLeDiff, Nat.reduceEqDiff, Nat.reduceBEq, Nat.reducePow]; try rfl) (by simp only [go_sem, reduceCtorEq, Nat.reduceAdd, Nat.reduceMul, Nat.reduceSub, Nat.reduceLT, Nat.reduceLeDiff, Nat.reduceEqDiff, Nat.reduceBEq, Nat.reducePow]; try rfl) (Hp.set_eq _ _ _) (by simp only [go_sem, reduceCtorEq, Nat.reduceAdd, Nat.reduceMul, Nat.reduceSub, Nat.reduceLT, Nat.reduceLeDiff, Nat.reduceEqDiff, Nat.reduceBEq, Nat.reducePow]; try rfl) (by exact Tryz.sz32) (by simp) ?_)
  rw [Hp.set_set]
  refine WpOps.take 1 (by simp only [go_sem, reduceCtorEq, Nat.reduceAdd, Nat.reduceMul, Nat.reduceSub, Nat.reduceLT, Nat.reduceLeDiff, Nat.reduceEqDiff, Nat.reduceBEq, Nat.reducePow]; rfl) (WpOps.nil ⟨Marks.nil _, ?_⟩)
  simp only [Vthen, VinBlock, if_true, if_false, Nat.reduceEqDiff, reduceCtorEq]
  refine WpV.pre (Frz.ptr (t := 7) (id := i7) rfl (Hp.set_eq _ _ _)) (Marks.nil _) ?_
  rw [Hp.set_set, Hp.set_same _ _ _ f7]
  refine WpV.seq ?_
  by_cases h00 : rs.length = 0
  · have e0 : ((rs.length : Int) == 0) = true := by rw [h00]; rfl
    have e7 : ((7 : Int) == 7) = true := rfl
    refine WpV.seq (WpV.regionE (by simp only [go_sem, reduceCtorEq, Nat.reduceAdd, Nat.reduceMul, Nat.reduceSub, Nat.reduceLT, Nat.reduceLeDiff, Nat.reduceEqDiff, Nat.reduceBEq, Nat.reducePow, e0]; rfl) (Marks.nil _) ?_)
    simp only [Vthen, VinBlock, if_true, if_false, Nat.reduceEqDiff, reduceCtorEq]
    refine WpV.cond rfl (fun hb => ?_) (fun hb => by cases hb)
    refine WpV.seq (WpV.region ?_)
    refine WpOps.take 1 (by simp only [go_sem, reduceCtorEq, Nat.reduceAdd, Nat.reduceMul, Nat.reduceSub, Nat.reduceLT, Nat.reduceLeDiff, Nat.reduceEqDiff, Nat.reduceBEq, Nat.reducePow]; rfl) ?_
    refine WpOps.step (by rfl) (by rfl) (OpW.callY rfl (by rfl) (by rfl) (by rfl) (enters_of Tryz.func11 (by kernel_rfl) rfl) ((hdn).mono ?_))
    rintro _ _ ⟨rfl, hH⟩
    replace hH := hH.symm
    subst hH
    refine WpOps.step (by rfl) (by rfl) (OpW.callY rfl (by rfl) (by rfl) (by rfl) (enters_of Tryz.func29 (by kernel_rfl) rfl) ((Lines_none H c.own (own_valid hcV) 100).mono ?_))
    rintro _ _ ⟨rfl, hH⟩
    replace hH := hH.symm
    subst hH
    refine WpOps.take 7 (by simp only [go_sem, reduceCtorEq, Nat.reduceAdd, Nat.reduceMul, Nat.reduceSub, Nat.reduceLT, Nat.reduceLeDiff, Nat.reduceEqDiff, Nat.reduceBEq, Nat.reducePow]; rfl) (WpOps.nil ⟨Marks.nil _, ?_⟩)
    simp only [Vthen, VinBlock, if_true, if_false, Nat.reduceEqDiff, reduceCtorEq]
    refine WpV.seq (WpV.region ?_)
    refine WpOps.take 3 (by simp only [go_sem, reduceCtorEq, Nat.reduceAdd, Nat.reduceMul, Nat.reduceSub, Nat.reduceLT, Nat.reduceLeDiff, Nat.reduceEqDiff, Nat.reduceBEq, Nat.reducePow, e7]; rfl) ?_
    refine WpOps.step (by rfl) (by rfl) (OpW.callY rfl (by rfl) (by rfl) (by rfl) (enters_of Tryz.func17 (by kernel_rfl) rfl) ((hkn).mono ?_))
    rintro _ _ ⟨rfl, hH⟩
    replace hH := hH.symm
    subst hH
    refine WpOps.take 2 (by simp only [go_sem, reduceCtorEq, Nat.reduceAdd, Nat.reduceMul, Nat.reduceSub, Nat.reduceLT, Nat.reduceLeDiff, Nat.reduceEqDiff, Nat.reduceBEq, Nat.reducePow, e7]; rfl) (WpOps.nil ⟨Marks.nil _, ?_⟩)
    simp only [Vthen, VinBlock, if_true, if_false, Nat.reduceEqDiff, reduceCtorEq]
    refine WpV.ret ⟨Marks.nil _, List.nodup_nil, _, by simp only [Tryz.results5]; simp only [go_sem, reduceCtorEq, Nat.reduceAdd, Nat.reduceMul, Nat.reduceSub, Nat.reduceLT, Nat.reduceLeDiff, Nat.reduceEqDiff, Nat.reduceBEq, Nat.reducePow]; rfl, ?_⟩
    exact ⟨rfl, rfl⟩
  have e0 : ((rs.length : Int) == 0) = false := by simp only [beq_eq_false_iff_ne]; omega
  refine WpV.seq (WpV.regionE (by simp only [go_sem, reduceCtorEq, Nat.reduceAdd, Nat.reduceMul, Nat.reduceSub, Nat.reduceLT, Nat.reduceLeDiff, Nat.reduceEqDiff, Nat.reduceBEq, Nat.reducePow, e0]; rfl) (Marks.nil _) ?_)
  simp only [Vthen, VinBlock, if_true, if_false, Nat.reduceEqDiff, reduceCtorEq]
  refine WpV.cond rfl (fun hb => by cases hb) (fun hb => WpV.skip ?_)
  simp only [Vthen, VinBlock, if_true, if_false, Nat.reduceEqDiff, reduceCtorEq]
  have h1 : 1 ≤ rs.length := by omega
  have hnd : ∀ (H : Hp) (i : Nat) (hi : i < rs.length), CallV Tryz.prog 13 [.agg c.cells, vints rs[i].1 rs[i].2.1 rs[i].2.2] H (fun r H' => r = vint (c.needF [rs[i].2.2]) ∧ H' = H) := fun H i hi => needs_any H c hcV _ _ _ (hrs _ (List.getElem_mem _))
  have hgr : ∀ (i : Nat) (hi : i < rs.length), (rs.map rowV)[i]? = some (vints rs[i].1 rs[i].2.1 rs[i].2.2) := fun i hi => by simp [hi, rowV]
  -- the longest word
  refine WpV.seq (WpV.regionE (by simp only [go_sem, reduceCtorEq, Nat.reduceAdd, Nat.reduceMul, Nat.reduceSub, Nat.reduceLT, Nat.reduceLeDiff, Nat.reduceEqDiff, Nat.reduceBEq, Nat.reducePow]; rfl) (Marks.nil _) ?_)
  simp only [Vthen, VinBlock, if_true, if_false, Nat.reduceEqDiff, reduceCtorEq]
  refine WpV.seq ?_
  refine WpV.seq (WpV.regionE (by simp only [go_sem, reduceCtorEq, Nat.reduceAdd, Nat.reduceMul, Nat.reduceSub, Nat.reduceLT, Nat.reduceLeDiff, Nat.reduceEqDiff, Nat.reduceBEq, Nat.reducePow]; rfl) (Marks.nil _) ?_)
  simp only [Vthen, VinBlock, if_true, if_false, Nat.reduceEqDiff, reduceCtorEq]
  refine WpV.block (WpV.loop (ι := { q : Nat × Int // q.1 ≤ rs.length ∧ (0 ≤ q.2 ∧ q.2 ≤ 340) ∧ ∀ i, (hi : i < rs.length) → i < q.1 → c.needF [rs[i].2.2] ≤ q.2 }) (fun q => [(5, .cp vc 0), (7, .cp c.cells 0), (8, vrows false fl rs), (12, vint q.1.2), (13, vint q.1.1)]) (fun _ => H) (fun q => rs.length - q.1.1) ⟨(0, 0), Nat.zero_le _, by decide, fun i _ h => absurd h (Nat.not_lt_zero _)⟩ ?_ rfl ?_)
  · exact (Sub.cons rfl rfl (Sub.cons rfl rfl (Sub.cons rfl rfl (Sub.cons rfl rfl (Sub.cons rfl rfl (Sub.nil _))))))
  rintro ⟨⟨i, n0⟩, hi, hn0, hall⟩
  simp only at hi hn0 hall ⊢
  refine WpV.seq ?_
  refine WpV.seq (WpV.regionE (by simp only [go_sem, reduceCtorEq, Nat.reduceAdd, Nat.reduceMul, Nat.reduceSub, Nat.reduceLT, Nat.reduceLeDiff, Nat.reduceEqDiff, Nat.reduceBEq, Nat.reducePow]; rfl) (Marks.nil _) ?_)
  simp only [Vthen, VinBlock, if_true, if_false, Nat.reduceEqDiff, reduceCtorEq]
  refine WpV.cond rfl (fun hb => WpV.skip ?_) (fun hb => WpV.exit ?_)
  · have hlt : (i : Int) < (rs.length : Int) := of_decide_eq_true ‹_›
    have hlti : i < rs.length := by omega
    have hni : IntKind.i64.wrap ((i : Int) + 1) = ((i + 1 : Nat) : Int) := by rw [wrap64 (by omega)]; rfl
    have hgri := hgr i hlti
    have hndi := hnd H i hlti
    have hle := (need_le hF (hrs _ (List.getElem_mem hlti))).1
    have hall' : ∀ j, (hj : j < rs.length) → j < i + 1 → c.needF [rs[j].2.2] ≤ mx n0 (c.needF [rs[i].2.2]) := fun j hj hji => by
      unfold mx
      by_cases e : j = i
      · subst e; split <;> omega
      · have := hall j hj (by omega); split <;> omega
    have hmx : 0 ≤ mx n0 (c.needF [rs[i].2.2]) ∧ mx n0 (c.needF [rs[i].2.2]) ≤ 340 := by unfold mx; split <;> omega
    simp only [Vthen, VinBlock, if_true, if_false, Nat.reduceEqDiff, reduceCtorEq]
    refine WpV.seq (WpV.block ?_)
    refine WpV.regionTN 8 Tryz.mixed (by kernel_rfl) (by kernel_rfl) (by kernel_rfl) ?_
    refine LexD.take 6 (by rfl) (by simp only [go_sem, reduceCtorEq, Nat.reduceAdd, Nat.reduceMul, Nat.reduceSub, Nat.reduceLT, Nat.reduceLeDiff, Nat.reduceEqDiff, Nat.reduceBEq, Nat.reducePow, hlt, hgri]; rfl) ?_
    refine LexD.step (by rfl) (by rfl) (OpW.callY rfl (by rfl) (by rfl) (by rfl) (enters_of Tryz.func13 (by kernel_rfl) rfl) (hndi)) ?_
    refine LexD.take 1 (by rfl) (by simp only [go_sem, reduceCtorEq, Nat.reduceAdd, Nat.reduceMul, Nat.reduceSub, Nat.reduceLT, Nat.reduceLeDiff, Nat.reduceEqDiff, Nat.reduceBEq, Nat.reducePow, hlt, hgri]; rfl) ?_
    refine LexD.nilE ?_
    refine LexT.take 1 (by simp only [go_sem, reduceCtorEq, Nat.reduceAdd, Nat.reduceMul, Nat.reduceSub, Nat.reduceLT, Nat.reduceLeDiff, Nat.reduceEqDiff, Nat.reduceBEq, Nat.reducePow, hlt, hgri]; rfl) (LexT.nilE ⟨Marks.nil _, ?_⟩)
    simp only [Vthen, VinBlock, if_true, if_false, Nat.reduceEqDiff, reduceCtorEq]
    refine WpV.regionE (by simp only [go_sem, reduceCtorEq, Nat.reduceAdd, Nat.reduceMul, Nat.reduceSub, Nat.reduceLT, Nat.reduceLeDiff, Nat.reduceEqDiff, Nat.reduceBEq, Nat.reducePow, hni]; rfl) (Marks.nil _) ?_
    simp only [Vthen, VinBlock, if_true, if_false, Nat.reduceEqDiff, reduceCtorEq]
    exact ⟨by first | rfl | trivial, ⟨(i + 1, mx n0 (c.needF [rs[i].2.2])), by simp only; omega, hmx, hall'⟩, by simp only; omega, (Sub.cons rfl rfl (Sub.cons rfl rfl (Sub.cons rfl rfl (Sub.cons rfl rfl (Sub.cons rfl rfl (Sub.nil _)))))), by first | rfl | trivial⟩
  have hge : i = rs.length := by have := of_decide_eq_false ‹_›; omega
  subst hge
  have hall2 : ∀ r ∈ rs, c.needF [r.2.2] ≤ n0 := fun r hr => by
    obtain ⟨j, hj, rfl⟩ := List.getElem_of_mem hr
    exact hall j hj hj
  have hpos0 : 1 ≤ n0 := by
    have h2 := hall 0 (by omega) (by omega)
    have h3 := need_pos hcV (hrs _ (List.getElem_mem (show 0 < rs.length by omega)))
    omega
  have hwb : IntKind.i64.wrap b0 = b0 := wrap64 (by omega)
  have hwn : IntKind.i64.wrap (n0 + b0) = n0 + b0 := wrap64 (by omega)
  simp only [Vthen, VinBlock, if_true, if_false, Nat.reduceEqDiff, reduceCtorEq]
  refine WpV.seq (WpV.regionE (by simp only [go_sem, reduceCtorEq, Nat.reduceAdd, Nat.reduceMul, Nat.reduceSub, Nat.reduceLT, Nat.reduceLeDiff, Nat.reduceEqDiff, Nat.reduceBEq, Nat.reducePow, z0, t0, hv0, hvl, hwb, hwn]; rfl) (Marks.nil _) ?_)
  simp only [Vthen, VinBlock, if_true, if_false, Nat.reduceEqDiff, reduceCtorEq]
  have hfit : ∀ r ∈ rs, c.needF [r.2.2] ≤ n0 + b0 := fun r hr => by have := hall2 r hr; omega
  have hn1 : 1 ≤ n0 + b0 := by omega
  generalize n0 + b0 = n at *
  refine WpV.seq ?_
  by_cases h400 : n > 400
  · refine WpV.seq (WpV.regionE (by simp only [go_sem, reduceCtorEq, Nat.reduceAdd, Nat.reduceMul, Nat.reduceSub, Nat.reduceLT, Nat.reduceLeDiff, Nat.reduceEqDiff, Nat.reduceBEq, Nat.reducePow, h400]; rfl) (Marks.nil _) ?_)
    simp only [Vthen, VinBlock, if_true, if_false, Nat.reduceEqDiff, reduceCtorEq]
    refine WpV.cond rfl (fun hb => ?_) (fun hb => by cases hb)
    refine WpV.seq (WpV.region ?_)
    refine WpOps.step (by rfl) (by rfl) (OpW.callY rfl (by rfl) (by rfl) (by rfl) (enters_of Tryz.func17 (by kernel_rfl) rfl) ((hkn).mono ?_))
    rintro _ _ ⟨rfl, hH⟩
    replace hH := hH.symm
    subst hH
    refine WpOps.take 1 (by simp only [go_sem, reduceCtorEq, Nat.reduceAdd, Nat.reduceMul, Nat.reduceSub, Nat.reduceLT, Nat.reduceLeDiff, Nat.reduceEqDiff, Nat.reduceBEq, Nat.reducePow]; rfl) (WpOps.nil ⟨Marks.nil _, ?_⟩)
    simp only [Vthen, VinBlock, if_true, if_false, Nat.reduceEqDiff, reduceCtorEq]
    refine WpV.ret ⟨Marks.nil _, List.nodup_nil, _, by simp only [Tryz.results5]; simp only [go_sem, reduceCtorEq, Nat.reduceAdd, Nat.reduceMul, Nat.reduceSub, Nat.reduceLT, Nat.reduceLeDiff, Nat.reduceEqDiff, Nat.reduceBEq, Nat.reducePow]; rfl, ?_⟩
    exact ⟨rfl, rfl⟩
  refine WpV.seq (WpV.regionE (by simp only [go_sem, reduceCtorEq, Nat.reduceAdd, Nat.reduceMul, Nat.reduceSub, Nat.reduceLT, Nat.reduceLeDiff, Nat.reduceEqDiff, Nat.reduceBEq, Nat.reducePow, h400]; rfl) (Marks.nil _) ?_)
  simp only [Vthen, VinBlock, if_true, if_false, Nat.reduceEqDiff, reduceCtorEq]
  refine WpV.cond rfl (fun hb => by cases hb) (fun hb => WpV.skip ?_)
  simp only [Vthen, VinBlock, if_true, if_false, Nat.reduceEqDiff, reduceCtorEq]
  have hnr : 1 ≤ n ∧ n ≤ 400 := by omega
  -- the lines
  have hli := lists_copy H false fl rs (by omega) (fun r hr => by have := (hrs r hr).2.1; omega)
  have hcl : (rs.map copyR).length = rs.length := List.length_map ..
  have hws' : (rs.map copyR).map (·.2.2) = rs.map (·.2.2) := by rw [List.map_map]; rfl
  have hwC : ∀ r ∈ rs.map copyR, c.Word r.2.2 := fun r hr => by
    obtain ⟨r', hr', rfl⟩ := List.mem_map.1 hr
    exact hrs r' hr'
  have hfitC : ∀ r ∈ rs.map copyR, c.needF [r.2.2] ≤ n := fun r hr => by
    obtain ⟨r', hr', rfl⟩ := List.mem_map.1 hr
    exact hfit r' hr'
  have hLn := Lines_any H c.own (own_valid hcV) false (decide (rs.length = 0)) (rs.map copyR) n (by omega) (by omega) (by
    rw [Cs.wordsB, List.all_eq_true]
    intro r hr
    exact Cs.word_iff.2 (hwC r hr)) hnr
  rw [lines_own, hcl] at hLn
  have hLn' : CallV Tryz.prog 29 [.agg c.own.cells, vrows false (decide (rs.length = 0)) (rs.map copyR), vint n] H (fun r H' => r = linesR (c.linesF (rs.map copyR) n (breaksF rs.length) none) ∧ H' = H) := hLn
  clear hLn
  obtain ⟨b, nlb, clb, rest, hV, hbB, hrest, hleast, hbest⟩ : ∃ (b : List Int) (nlb clb : Bool) (rest : Int), linesR (c.linesF (rs.map copyR) n (breaksF rs.length) none) = .tup [vints nlb clb b, vint rest, vint 0] ∧ Begs rs.length b ∧ rest = c.mostR (rs.map copyR) n b ∧ 0 ≤ c.leastR (rs.map copyR) n b ∧
      ∀ o, Begs rs.length o → 0 ≤ c.leastR (rs.map copyR) n o → NoWorse c (rs.map copyR) n b o := by
    cases hp : c.linesF (rs.map copyR) n (breaksF rs.length) none with
    | none =>
      exfalso
      have h2 := lines_none _ (breaks_sorted rs.length) hp _ (begs_all (m := rs.length) (by omega)).mem
      have h3 := lines_are hF hwC (n := n) (by omega) hfitC
      rw [hcl] at h3
      omega
    | some r =>
      obtain ⟨g1, g2, g3, g4⟩ := lines_some _ (breaks_sorted rs.length) r hp
      exact ⟨r.1, r.1.isEmpty, r.1.isEmpty, r.2, rfl, begs_of g1, g2, g3, fun o ho h => g4 o ho.mem h⟩
  rw [hV] at hLn'
  have hgr2 := fun (bs : List Int) (hbs : Begs rs.length bs) => great_is c hF (rs.map copyR) hwC n (bs := bs) (by rw [hcl]; exact hbs)
  rw [hws'] at hgr2
  have hrl := Cs.restN_len c (rs.map copyR) b n b.length
  have hbpos := hbB.pos
  have hrest0 : 0 ≤ rest := by
    have h2 := (minL_ge (xs := c.restN (rs.map copyR) b n b.length) (by omega)).1 (by rw [hrl]; exact hleast)
    have h3 := most_ge (by omega) h2
    rw [hrl] at h3
    rw [hrest]; exact h3
  refine WpV.seq (WpV.region ?_)
  refine WpOps.take 1 (by simp only [go_sem, reduceCtorEq, Nat.reduceAdd, Nat.reduceMul, Nat.reduceSub, Nat.reduceLT, Nat.reduceLeDiff, Nat.reduceEqDiff, Nat.reduceBEq, Nat.reducePow]; rfl) ?_
  refine WpOps.step (by rfl) (by rfl) (OpW.callY rfl (by rfl) (by rfl) (by rfl) (enters_of Tryz.func11 (by kernel_rfl) rfl) ((hdn).mono ?_))
  rintro _ _ ⟨rfl, hH⟩
  replace hH := hH.symm
  subst hH
  refine WpOps.take 1 (by simp only [go_sem, reduceCtorEq, Nat.reduceAdd, Nat.reduceMul, Nat.reduceSub, Nat.reduceLT, Nat.reduceLeDiff, Nat.reduceEqDiff, Nat.reduceBEq, Nat.reducePow]; rfl) ?_
  refine WpOps.step (by rfl) (by rfl) (OpW.callY rfl (by rfl) (by rfl) (by rfl) (enters_of Tryz.func30 (by kernel_rfl) rfl) ((hli).mono ?_))
  rintro _ _ ⟨rfl, hH⟩
  replace hH := hH.symm
  subst hH
  refine WpOps.take 1 (by simp only [go_sem, reduceCtorEq, Nat.reduceAdd, Nat.reduceMul, Nat.reduceSub, Nat.reduceLT, Nat.reduceLeDiff, Nat.reduceEqDiff, Nat.reduceBEq, Nat.reducePow]; rfl) ?_
  refine WpOps.step (by rfl) (by rfl) (OpW.callY rfl (by rfl) (by rfl) (by rfl) (enters_of Tryz.func29 (by kernel_rfl) rfl) ((hLn').mono ?_))
  rintro _ _ ⟨rfl, hH⟩
  replace hH := hH.symm
  subst hH
  refine WpOps.take 7 (by simp only [go_sem, reduceCtorEq, Nat.reduceAdd, Nat.reduceMul, Nat.reduceSub, Nat.reduceLT, Nat.reduceLeDiff, Nat.reduceEqDiff, Nat.reduceBEq, Nat.reducePow]; rfl) (WpOps.nil ⟨Marks.nil _, ?_⟩)
  simp only [Vthen, VinBlock, if_true, if_false, Nat.reduceEqDiff, reduceCtorEq]
  have hbz := hbB.zero
  have hb5 := hbB.few
  refine WpV.seqS [(5, .cp vc 0), (7, .cp c.cells 0), (8, vrows false fl rs), (12, vint n), (14, vints nlb clb b), (15, vint rest)] ?_ ?_
  · have n00 : ((0 : Int) != 0) = false := rfl
    have hbl : ((b.length : Int) == 0) = false := by simp only [beq_eq_false_iff_ne]; omega
    have hg0 : (b.map vint)[0]? = some (vint 0) := by rw [int_at' hbpos, hbz]
    have hz : (0 : Int) ≤ 0 ∧ (0 : Int) < (b.length : Int) := ⟨Int.le_refl _, by omega⟩
    refine WpV.seq (WpV.region ?_)
    refine WpOps.take 8 (by simp only [go_sem, reduceCtorEq, Nat.reduceAdd, Nat.reduceMul, Nat.reduceSub, Nat.reduceLT, Nat.reduceLeDiff, Nat.reduceEqDiff, Nat.reduceBEq, Nat.reducePow, n00, hbl, hz, t0, hg0]; rfl) ?_
    refine WpOps.take 5 (by simp only [go_sem, reduceCtorEq, Nat.reduceAdd, Nat.reduceMul, Nat.reduceSub, Nat.reduceLT, Nat.reduceLeDiff, Nat.reduceEqDiff, Nat.reduceBEq, Nat.reducePow, n00, hbl, hz, t0, hg0]; rfl) (WpOps.nil ⟨Marks.nil _, ?_⟩)
    simp only [Vthen, VinBlock, if_true, if_false, Nat.reduceEqDiff, reduceCtorEq]
    refine WpV.cond rfl (fun hb => by cases hb) (fun hb => WpV.skip ?_)
    simp only [Vthen, VinBlock, if_true, if_false, Nat.reduceEqDiff, reduceCtorEq]
    exact ⟨by first | rfl | trivial, by first | rfl | trivial, (Sub.cons rfl rfl (Sub.cons rfl rfl (Sub.cons rfl rfl (Sub.cons rfl rfl (Sub.cons rfl rfl (Sub.cons rfl rfl (Sub.nil _)))))))⟩
  refine WpV.seqS [(5, .cp vc 0), (7, .cp c.cells 0), (8, vrows false fl rs), (12, vint n), (14, vints nlb clb b), (15, vint rest)] ?_ ?_
  · refine WpV.seq (WpV.regionE (by simp only [go_sem, reduceCtorEq, Nat.reduceAdd, Nat.reduceMul, Nat.reduceSub, Nat.reduceLT, Nat.reduceLeDiff, Nat.reduceEqDiff, Nat.reduceBEq, Nat.reducePow]; rfl) (Marks.nil _) ?_)
    simp only [Vthen, VinBlock, if_true, if_false, Nat.reduceEqDiff, reduceCtorEq]
    refine WpV.block (WpV.loopN b.length (fun k => [(5, .cp vc 0), (7, .cp c.cells 0), (8, vrows false fl rs), (12, vint n), (14, vints nlb clb b), (15, vint rest), (17, vint k)]) (fun _ => H) ?_ rfl ?_)
    · exact (Sub.cons rfl rfl (Sub.cons rfl rfl (Sub.cons rfl rfl (Sub.cons rfl rfl (Sub.cons rfl rfl (Sub.cons rfl rfl (Sub.cons rfl rfl (Sub.nil _))))))))
    · intro k hk
      refine WpV.seq ?_
      refine WpV.seq (WpV.regionE (by simp only [go_sem, reduceCtorEq, Nat.reduceAdd, Nat.reduceMul, Nat.reduceSub, Nat.reduceLT, Nat.reduceLeDiff, Nat.reduceEqDiff, Nat.reduceBEq, Nat.reducePow]; rfl) (Marks.nil _) ?_)
      simp only [Vthen, VinBlock, if_true, if_false, Nat.reduceEqDiff, reduceCtorEq]
      refine WpV.cond rfl (fun hb => WpV.skip ?_) (fun hb => WpV.exit ?_)
      · have hltk : (k : Int) < (b.length : Int) := of_decide_eq_true ‹_›
        have hltk' : k < b.length := by omega
        have hnk : IntKind.i64.wrap ((k : Int) + 1) = ((k + 1 : Nat) : Int) := by rw [wrap64 (by omega)]; rfl
        have hgk := ints_get b hltk'
        have hbr := hbB.rng _ (List.getElem_mem hltk')
        have hlt2 : ¬ (b[k] ≥ (rs.length : Int)) := by omega
        simp only [Vthen, VinBlock, if_true, if_false, Nat.reduceEqDiff, reduceCtorEq]
        refine WpV.seq (WpV.block ?_)
        by_cases hk0 : k = 0
        · have hk0' : ¬ ((k : Int) > 0) := by omega
          refine WpV.seq (WpV.regionD Tryz.mixed (by kernel_rfl) (by kernel_rfl) ?_)
          refine LexD.take 8 (by rfl) (by simp only [go_sem, reduceCtorEq, Nat.reduceAdd, Nat.reduceMul, Nat.reduceSub, Nat.reduceLT, Nat.reduceLeDiff, Nat.reduceEqDiff, Nat.reduceBEq, Nat.reducePow, hltk, hgk, hlt2, hk0']; rfl) ?_
          refine LexD.take 8 (by rfl) (by simp only [go_sem, reduceCtorEq, Nat.reduceAdd, Nat.reduceMul, Nat.reduceSub, Nat.reduceLT, Nat.reduceLeDiff, Nat.reduceEqDiff, Nat.reduceBEq, Nat.reducePow, hltk, hgk, hlt2, hk0']; rfl) ?_
          refine LexD.take 7 (by rfl) (by simp only [go_sem, reduceCtorEq, Nat.reduceAdd, Nat.reduceMul, Nat.reduceSub, Nat.reduceLT, Nat.reduceLeDiff, Nat.reduceEqDiff, Nat.reduceBEq, Nat.reducePow, hltk, hgk, hlt2, hk0']; rfl) (LexD.nilE ⟨Marks.nil _, ?_⟩)
          simp only [Vthen, VinBlock, if_true, if_false, Nat.reduceEqDiff, reduceCtorEq]
          refine WpV.cond rfl (fun hb => by cases hb) (fun hb => WpV.skip ?_)
          simp only [Vthen, VinBlock, if_true, if_false, Nat.reduceEqDiff, reduceCtorEq]
          refine WpV.regionE (by simp only [go_sem, reduceCtorEq, Nat.reduceAdd, Nat.reduceMul, Nat.reduceSub, Nat.reduceLT, Nat.reduceLeDiff, Nat.reduceEqDiff, Nat.reduceBEq, Nat.reducePow, hnk]; rfl) (Marks.nil _) ?_
          simp only [Vthen, VinBlock, if_true, if_false, Nat.reduceEqDiff, reduceCtorEq]
          exact ⟨by first | rfl | trivial, hltk', (Sub.cons rfl rfl (Sub.cons rfl rfl (Sub.cons rfl rfl (Sub.cons rfl rfl (Sub.cons rfl rfl (Sub.cons rfl rfl (Sub.cons rfl rfl (Sub.nil _)))))))), by first | rfl | trivial⟩
        · have hk0' : (k : Int) > 0 := by omega
          have hwm : IntKind.i64.wrap ((k : Int) - 1) = ((k - 1 : Nat) : Int) := by rw [wrap64 (by omega)]; omega
          have hltm : ((k - 1 : Nat) : Int) < (b.length : Int) := by omega
          have hgm := ints_get b (show k - 1 < b.length by omega)
          have hup := (List.pairwise_iff_getElem.1 hbB.up) (k - 1) k (by omega) hltk' (by omega)
          have hnle : ¬ (b[k] ≤ b[k - 1]) := by omega
          refine WpV.seq (WpV.regionD Tryz.mixed (by kernel_rfl) (by kernel_rfl) ?_)
          refine LexD.take 8 (by rfl) (by simp only [go_sem, reduceCtorEq, Nat.reduceAdd, Nat.reduceMul, Nat.reduceSub, Nat.reduceLT, Nat.reduceLeDiff, Nat.reduceEqDiff, Nat.reduceBEq, Nat.reducePow, hltk, hgk, hlt2, hk0', hwm, hltm, hgm, hnle]; rfl) ?_
          refine LexD.take 8 (by rfl) (by simp only [go_sem, reduceCtorEq, Nat.reduceAdd, Nat.reduceMul, Nat.reduceSub, Nat.reduceLT, Nat.reduceLeDiff, Nat.reduceEqDiff, Nat.reduceBEq, Nat.reducePow, hltk, hgk, hlt2, hk0', hwm, hltm, hgm, hnle]; rfl) ?_
          refine LexD.take 7 (by rfl) (by simp only [go_sem, reduceCtorEq, Nat.reduceAdd, Nat.reduceMul, Nat.reduceSub, Nat.reduceLT, Nat.reduceLeDiff, Nat.reduceEqDiff, Nat.reduceBEq, Nat.reducePow, hltk, hgk, hlt2, hk0', hwm, hltm, hgm, hnle]; rfl) (LexD.nilE ⟨Marks.nil _, ?_⟩)
          simp only [Vthen, VinBlock, if_true, if_false, Nat.reduceEqDiff, reduceCtorEq]
          refine WpV.cond rfl (fun hb => by cases hb) (fun hb => WpV.skip ?_)
          simp only [Vthen, VinBlock, if_true, if_false, Nat.reduceEqDiff, reduceCtorEq]
          refine WpV.regionE (by simp only [go_sem, reduceCtorEq, Nat.reduceAdd, Nat.reduceMul, Nat.reduceSub, Nat.reduceLT, Nat.reduceLeDiff, Nat.reduceEqDiff, Nat.reduceBEq, Nat.reducePow, hnk]; rfl) (Marks.nil _) ?_
          simp only [Vthen, VinBlock, if_true, if_false, Nat.reduceEqDiff, reduceCtorEq]
          exact ⟨by first | rfl | trivial, hltk', (Sub.cons rfl rfl (Sub.cons rfl rfl (Sub.cons rfl rfl (Sub.cons rfl rfl (Sub.cons rfl rfl (Sub.cons rfl rfl (Sub.cons rfl rfl (Sub.nil _)))))))), by first | rfl | trivial⟩
      · simp only [Vthen, VinBlock, if_true, if_false, Nat.reduceEqDiff, reduceCtorEq]
        exact ⟨by first | rfl | trivial, by first | rfl | trivial, (Sub.cons rfl rfl (Sub.cons rfl rfl (Sub.cons rfl rfl (Sub.cons rfl rfl (Sub.cons rfl rfl (Sub.cons rfl rfl (Sub.nil _)))))))⟩
  have hG1 := great_any H c hcV false fl nlb clb rs b n hrs hr5 (by omega) hnr
  rw [hgr2 b hbB, if_pos hleast, ← hrest] at hG1
  refine WpV.seqS [(5, .cp vc 0), (7, .cp c.cells 0), (8, vrows false fl rs), (12, vint n), (14, vints nlb clb b), (15, vint rest)] ?_ ?_
  · have hnl : ¬ (rest < 0) := by omega
    have hnn : (rest != rest) = false := by simp
    refine WpV.seq (WpV.region ?_)
    refine WpOps.take 4 (by simp only [go_sem, reduceCtorEq, Nat.reduceAdd, Nat.reduceMul, Nat.reduceSub, Nat.reduceLT, Nat.reduceLeDiff, Nat.reduceEqDiff, Nat.reduceBEq, Nat.reducePow]; rfl) ?_
    refine WpOps.step (by rfl) (by rfl) (OpW.callY rfl (by rfl) (by rfl) (by rfl) (enters_of Tryz.func31 (by kernel_rfl) rfl) ((hG1).mono ?_))
    rintro _ _ ⟨rfl, hH⟩
    replace hH := hH.symm
    subst hH
    refine WpOps.take 1 (by simp only [go_sem, reduceCtorEq, Nat.reduceAdd, Nat.reduceMul, Nat.reduceSub, Nat.reduceLT, Nat.reduceLeDiff, Nat.reduceEqDiff, Nat.reduceBEq, Nat.reducePow]; rfl) (WpOps.nil ⟨Marks.nil _, ?_⟩)
    simp only [Vthen, VinBlock, if_true, if_false, Nat.reduceEqDiff, reduceCtorEq]
    refine WpV.seq (WpV.regionE (by simp only [go_sem, reduceCtorEq, Nat.reduceAdd, Nat.reduceMul, Nat.reduceSub, Nat.reduceLT, Nat.reduceLeDiff, Nat.reduceEqDiff, Nat.reduceBEq, Nat.reducePow, hnl, hnn]; rfl) (Marks.nil _) ?_)
    simp only [Vthen, VinBlock, if_true, if_false, Nat.reduceEqDiff, reduceCtorEq]
    refine WpV.cond rfl (fun hb => by cases hb) (fun hb => WpV.skip ?_)
    simp only [Vthen, VinBlock, if_true, if_false, Nat.reduceEqDiff, reduceCtorEq]
    exact ⟨by first | rfl | trivial, by first | rfl | trivial, (Sub.cons rfl rfl (Sub.cons rfl rfl (Sub.cons rfl rfl (Sub.cons rfl rfl (Sub.cons rfl rfl (Sub.cons rfl rfl (Sub.nil _)))))))⟩
  -- lines by bytes
  refine WpV.seq (WpV.regionE (by simp only [go_sem, reduceCtorEq, Nat.reduceAdd, Nat.reduceMul, Nat.reduceSub, Nat.reduceLT, Nat.reduceLeDiff, Nat.reduceEqDiff, Nat.reduceBEq, Nat.reducePow]; rfl) (Marks.nil _) ?_)
  simp only [Vthen, VinBlock, if_true, if_false, Nat.reduceEqDiff, reduceCtorEq]
  refine WpV.seq ?_
  refine WpV.seq (WpV.regionE (by simp only [go_sem, reduceCtorEq, Nat.reduceAdd, Nat.reduceMul, Nat.reduceSub, Nat.reduceLT, Nat.reduceLeDiff, Nat.reduceEqDiff, Nat.reduceBEq, Nat.reducePow]; rfl) (Marks.nil _) ?_)
  simp only [Vthen, VinBlock, if_true, if_false, Nat.reduceEqDiff, reduceCtorEq]
  refine WpV.block (WpV.loop (ι := { q : Nat × List Int × AV × Hp // 1 ≤ q.1 ∧ q.1 ≤ rs.length ∧ Begs q.1 q.2.1 ∧ Bl1 H q.2.1 q.2.2.1 q.2.2.2 }) (fun q => [(5, .cp vc 0), (7, .cp c.cells 0), (8, vrows false fl rs), (12, vint n), (14, vints nlb clb b), (15, vint rest), (19, q.1.2.2.1), (20, vint q.1.1)]) (fun q => q.1.2.2.2) (fun q => rs.length - q.1.1)
    ⟨(1, [0], .sl false true 1 [vint 0], H), Nat.le_refl _, h1, ⟨by simp, rfl, by simp, fun x hx => by
      have : x = 0 := by simpa using hx
      omega⟩, .inl ⟨0, rfl, rfl, rfl⟩⟩ ?_ rfl ?_)
  · exact (Sub.cons rfl rfl (Sub.cons rfl rfl (Sub.cons rfl rfl (Sub.cons rfl rfl (Sub.cons rfl rfl (Sub.cons rfl rfl (Sub.cons rfl rfl (Sub.cons rfl rfl (Sub.nil _)))))))))
  rintro ⟨⟨i, o, v, H1⟩, hi1, hi, hO, hB⟩
  simp only at hi1 hi hO hB ⊢
  have hof := hO.few
  refine WpV.seq ?_
  refine WpV.seq (WpV.regionE (by simp only [go_sem, reduceCtorEq, Nat.reduceAdd, Nat.reduceMul, Nat.reduceSub, Nat.reduceLT, Nat.reduceLeDiff, Nat.reduceEqDiff, Nat.reduceBEq, Nat.reducePow]; rfl) (Marks.nil _) ?_)
  simp only [Vthen, VinBlock, if_true, if_false, Nat.reduceEqDiff, reduceCtorEq]
  refine WpV.cond rfl (fun hb => WpV.skip ?_) (fun hb => ?_)
  · have hltI : (i : Int) < (rs.length : Int) := of_decide_eq_true ‹_›
    have hlti : i < rs.length := by omega
    have hni : IntKind.i64.wrap ((i : Int) + 1) = ((i + 1 : Nat) : Int) := by rw [wrap64 (by omega)]; rfl
    have hwu : IntKind.u64.wrap (i : Int) = (i : Int) := by
      unfold IntKind.wrap
      simp [IntKind.signed, IntKind.bits]
      omega
    have hnn : ¬ ((i : Int) < 0) := by omega
    simp only [Vthen, VinBlock, if_true, if_false, Nat.reduceEqDiff, reduceCtorEq]
    refine WpV.seq (WpV.block ?_)
    refine WpV.seq (WpV.regionE (by simp only [go_sem, reduceCtorEq, Nat.reduceAdd, Nat.reduceMul, Nat.reduceSub, Nat.reduceLT, Nat.reduceLeDiff, Nat.reduceEqDiff, Nat.reduceBEq, Nat.reducePow, z1, t1, hv1, hvl, hwu, hnn]; rfl) (Marks.nil _) ?_)
    simp only [Vthen, VinBlock, if_true, if_false, Nat.reduceEqDiff, reduceCtorEq]
    refine WpV.cond rfl (fun hb => ?_) (fun hb => WpV.skip ?_)
    · refine WpV.region ?_
      refine WpOps.take 3 (by simp only [go_sem, reduceCtorEq, Nat.reduceAdd, Nat.reduceMul, Nat.reduceSub, Nat.reduceLT, Nat.reduceLeDiff, Nat.reduceEqDiff, Nat.reduceBEq, Nat.reducePow]; rfl) ?_
      refine WpOps.step (by rfl) (by rfl) (OpW.append1 (x := (i : Int)) rfl hB rfl rfl rfl (by omega) (fun v' H' hB' => ?_))
      refine WpOps.take 1 (by simp only [go_sem, reduceCtorEq, Nat.reduceAdd, Nat.reduceMul, Nat.reduceSub, Nat.reduceLT, Nat.reduceLeDiff, Nat.reduceEqDiff, Nat.reduceBEq, Nat.reducePow]; rfl) (WpOps.nil ⟨Marks.nil _, ?_⟩)
      simp only [Vthen, VinBlock, if_true, if_false, Nat.reduceEqDiff, reduceCtorEq]
      refine WpV.regionE (by simp only [go_sem, reduceCtorEq, Nat.reduceAdd, Nat.reduceMul, Nat.reduceSub, Nat.reduceLT, Nat.reduceLeDiff, Nat.reduceEqDiff, Nat.reduceBEq, Nat.reducePow, hni]; rfl) (Marks.nil _) ?_
      simp only [Vthen, VinBlock, if_true, if_false, Nat.reduceEqDiff, reduceCtorEq]
      exact ⟨by first | rfl | trivial, ⟨(i + 1, o ++ [(i : Int)], v', H'), by simp only; omega, by simp only; omega, hO.next, hB'⟩, by simp only; omega, (Sub.cons rfl rfl (Sub.cons rfl rfl (Sub.cons rfl rfl (Sub.cons rfl rfl (Sub.cons rfl rfl (Sub.cons rfl rfl (Sub.cons rfl rfl (Sub.cons rfl rfl (Sub.nil _))))))))), by first | rfl | trivial⟩
    · simp only [Vthen, VinBlock, if_true, if_false, Nat.reduceEqDiff, reduceCtorEq]
      refine WpV.regionE (by simp only [go_sem, reduceCtorEq, Nat.reduceAdd, Nat.reduceMul, Nat.reduceSub, Nat.reduceLT, Nat.reduceLeDiff, Nat.reduceEqDiff, Nat.reduceBEq, Nat.reducePow, hni]; rfl) (Marks.nil _) ?_
      simp only [Vthen, VinBlock, if_true, if_false, Nat.reduceEqDiff, reduceCtorEq]
      exact ⟨by first | rfl | trivial, ⟨(i + 1, o, v, H1), by simp only; omega, by simp only; omega, hO.wait, hB⟩, by simp only; omega, (Sub.cons rfl rfl (Sub.cons rfl rfl (Sub.cons rfl rfl (Sub.cons rfl rfl (Sub.cons rfl rfl (Sub.cons rfl rfl (Sub.cons rfl rfl (Sub.cons rfl rfl (Sub.nil _))))))))), by first | rfl | trivial⟩
  have hge : i = rs.length := by have := of_decide_eq_false ‹_›; omega
  subst hge
  refine WpV.weaken (fr' := [(5, .cp vc 0), (7, .cp c.cells 0), (8, vrows false fl rs), (12, vint n), (14, vints nlb clb b), (15, vint rest), (19, v), (20, vint rs.length)]) ?_ (Sub.cons rfl rfl (Sub.cons rfl rfl (Sub.cons rfl rfl (Sub.cons rfl rfl (Sub.cons rfl rfl (Sub.cons rfl rfl (Sub.cons rfl rfl (Sub.cons rfl rfl (Sub.nil _)))))))))
  obtain ⟨cl, hfz⟩ := hB.frz (fr := [(5, .cp vc 0), (7, .cp c.cells 0), (8, vrows false fl rs), (12, vint n), (14, vints nlb clb b), (15, vint rest), (19, v), (20, vint rs.length)]) (t := 19) rfl
  refine WpV.pre hfz (Marks.nil _) (WpV.exit ?_)
  simp only [Vthen, VinBlock, if_true, if_false, Nat.reduceEqDiff, reduceCtorEq]
  refine WpV.seq ?_
  have hG2 := great_any H c hcV false fl false cl rs o n hrs hr5 (by omega) hnr
  rw [hgr2 o hO] at hG2
  have n10 : ¬ ((-1 : Int) ≥ 0) := by decide
  by_cases hle0 : 0 ≤ c.leastR (rs.map copyR) n o
  · rw [if_pos hle0] at hG2
    obtain ⟨w1, w2⟩ := hbest o hO hle0
    rw [← hrest] at w2
    have hrlo := Cs.restN_len c (rs.map copyR) o n o.length
    have hopos := hO.pos
    have hmo0 : 0 ≤ c.mostR (rs.map copyR) n o := by
      have h2 := (minL_ge (xs := c.restN (rs.map copyR) o n o.length) (by omega)).1 (by rw [hrlo]; exact hle0)
      have h3 := most_ge (by omega) h2
      rw [hrlo] at h3
      exact h3
    generalize c.mostR (rs.map copyR) n o = mo at *
    have hge0 : mo ≥ 0 := hmo0
    have hnlt : ¬ ((o.length : Int) < (b.length : Int)) := by omega
    by_cases hel : o.length = b.length
    · obtain ⟨w3, w4⟩ := w2 hel
      have hee : ((o.length : Int) == (b.length : Int)) = true := by rw [hel]; simp
      have hnml : ¬ (mo < rest) := by omega
      by_cases hmr : mo = rest
      · have hme : (mo == rest) = true := by rw [hmr]; simp
        have hls := less_any H false cl nlb clb o b (by omega) hel
        rw [less_no _ _ (w4 hmr)] at hls
        refine WpV.seq (WpV.region ?_)
        refine WpOps.take 4 (by simp only [go_sem, reduceCtorEq, Nat.reduceAdd, Nat.reduceMul, Nat.reduceSub, Nat.reduceLT, Nat.reduceLeDiff, Nat.reduceEqDiff, Nat.reduceBEq, Nat.reducePow]; rfl) ?_
        refine WpOps.step (by rfl) (by rfl) (OpW.callY rfl (by rfl) (by rfl) (by rfl) (enters_of Tryz.func31 (by kernel_rfl) rfl) ((hG2).mono ?_))
        rintro _ _ ⟨rfl, hH⟩
        replace hH := hH.symm
        subst hH
        refine WpOps.take 1 (by simp only [go_sem, reduceCtorEq, Nat.reduceAdd, Nat.reduceMul, Nat.reduceSub, Nat.reduceLT, Nat.reduceLeDiff, Nat.reduceEqDiff, Nat.reduceBEq, Nat.reducePow]; rfl) (WpOps.nil ⟨Marks.nil _, ?_⟩)
        simp only [Vthen, VinBlock, if_true, if_false, Nat.reduceEqDiff, reduceCtorEq]
        refine WpV.seq (WpV.region ?_)
        refine WpOps.take 8 (by simp only [go_sem, reduceCtorEq, Nat.reduceAdd, Nat.reduceMul, Nat.reduceSub, Nat.reduceLT, Nat.reduceLeDiff, Nat.reduceEqDiff, Nat.reduceBEq, Nat.reducePow, hge0, hnlt, hee, hnml, hme]; rfl) ?_
        refine WpOps.take 8 (by simp only [go_sem, reduceCtorEq, Nat.reduceAdd, Nat.reduceMul, Nat.reduceSub, Nat.reduceLT, Nat.reduceLeDiff, Nat.reduceEqDiff, Nat.reduceBEq, Nat.reducePow, hge0, hnlt, hee, hnml, hme]; rfl) ?_
        refine WpOps.take 8 (by simp only [go_sem, reduceCtorEq, Nat.reduceAdd, Nat.reduceMul, Nat.reduceSub, Nat.reduceLT, Nat.reduceLeDiff, Nat.reduceEqDiff, Nat.reduceBEq, Nat.reducePow, hge0, hnlt, hee, hnml, hme]; rfl) ?_
        refine WpOps.take 1 (by simp only [go_sem, reduceCtorEq, Nat.reduceAdd, Nat.reduceMul, Nat.reduceSub, Nat.reduceLT, Nat.reduceLeDiff, Nat.reduceEqDiff, Nat.reduceBEq, Nat.reducePow, hge0, hnlt, hee, hnml, hme]; rfl) ?_
        refine WpOps.step (by rfl) (by rfl) (OpW.callY rfl (by rfl) (by rfl) (by rfl) (enters_of Tryz.func18 (by kernel_rfl) rfl) ((hls).mono ?_))
        rintro _ _ ⟨rfl, hH⟩
        replace hH := hH.symm
        subst hH
        refine WpOps.take 5 (by simp only [go_sem, reduceCtorEq, Nat.reduceAdd, Nat.reduceMul, Nat.reduceSub, Nat.reduceLT, Nat.reduceLeDiff, Nat.reduceEqDiff, Nat.reduceBEq, Nat.reducePow, hge0, hnlt, hee, hnml, hme]; rfl) (WpOps.nil ⟨Marks.nil _, ?_⟩)
        simp only [Vthen, VinBlock, if_true, if_false, Nat.reduceEqDiff, reduceCtorEq]
        refine WpV.cond rfl (fun hb => by cases hb) (fun hb => WpV.skip ?_)
        simp only [Vthen, VinBlock, if_true, if_false, Nat.reduceEqDiff, reduceCtorEq]
        refine WpV.seq (WpV.region ?_)
        refine WpOps.step (by rfl) (by rfl) (OpW.callY rfl (by rfl) (by rfl) (by rfl) (enters_of Tryz.func17 (by kernel_rfl) rfl) ((hkn).mono ?_))
        rintro _ _ ⟨rfl, hH⟩
        replace hH := hH.symm
        subst hH
        refine WpOps.take 1 (by simp only [go_sem, reduceCtorEq, Nat.reduceAdd, Nat.reduceMul, Nat.reduceSub, Nat.reduceLT, Nat.reduceLeDiff, Nat.reduceEqDiff, Nat.reduceBEq, Nat.reducePow]; rfl) (WpOps.nil ⟨Marks.nil _, ?_⟩)
        simp only [Vthen, VinBlock, if_true, if_false, Nat.reduceEqDiff, reduceCtorEq]
        refine WpV.ret ⟨Marks.nil _, List.nodup_nil, _, by simp only [Tryz.results5]; simp only [go_sem, reduceCtorEq, Nat.reduceAdd, Nat.reduceMul, Nat.reduceSub, Nat.reduceLT, Nat.reduceLeDiff, Nat.reduceEqDiff, Nat.reduceBEq, Nat.reducePow]; rfl, ?_⟩
        exact ⟨rfl, rfl⟩
      · have hme : (mo == rest) = false := by simpa using hmr
        refine WpV.seq (WpV.region ?_)
        refine WpOps.take 4 (by simp only [go_sem, reduceCtorEq, Nat.reduceAdd, Nat.reduceMul, Nat.reduceSub, Nat.reduceLT, Nat.reduceLeDiff, Nat.reduceEqDiff, Nat.reduceBEq, Nat.reducePow]; rfl) ?_
        refine WpOps.step (by rfl) (by rfl) (OpW.callY rfl (by rfl) (by rfl) (by rfl) (enters_of Tryz.func31 (by kernel_rfl) rfl) ((hG2).mono ?_))
        rintro _ _ ⟨rfl, hH⟩
        replace hH := hH.symm
        subst hH
        refine WpOps.take 1 (by simp only [go_sem, reduceCtorEq, Nat.reduceAdd, Nat.reduceMul, Nat.reduceSub, Nat.reduceLT, Nat.reduceLeDiff, Nat.reduceEqDiff, Nat.reduceBEq, Nat.reducePow]; rfl) (WpOps.nil ⟨Marks.nil _, ?_⟩)
        simp only [Vthen, VinBlock, if_true, if_false, Nat.reduceEqDiff, reduceCtorEq]
        refine WpV.seq (WpV.region ?_)
        refine WpOps.take 8 (by simp only [go_sem, reduceCtorEq, Nat.reduceAdd, Nat.reduceMul, Nat.reduceSub, Nat.reduceLT, Nat.reduceLeDiff, Nat.reduceEqDiff, Nat.reduceBEq, Nat.reducePow, hge0, hnlt, hee, hnml, hme]; rfl) ?_
        refine WpOps.take 8 (by simp only [go_sem, reduceCtorEq, Nat.reduceAdd, Nat.reduceMul, Nat.reduceSub, Nat.reduceLT, Nat.reduceLeDiff, Nat.reduceEqDiff, Nat.reduceBEq, Nat.reducePow, hge0, hnlt, hee, hnml, hme]; rfl) ?_
        refine WpOps.take 8 (by simp only [go_sem, reduceCtorEq, Nat.reduceAdd, Nat.reduceMul, Nat.reduceSub, Nat.reduceLT, Nat.reduceLeDiff, Nat.reduceEqDiff, Nat.reduceBEq, Nat.reducePow, hge0, hnlt, hee, hnml, hme]; rfl) ?_
        refine WpOps.take 7 (by simp only [go_sem, reduceCtorEq, Nat.reduceAdd, Nat.reduceMul, Nat.reduceSub, Nat.reduceLT, Nat.reduceLeDiff, Nat.reduceEqDiff, Nat.reduceBEq, Nat.reducePow, hge0, hnlt, hee, hnml, hme]; rfl) (WpOps.nil ⟨Marks.nil _, ?_⟩)
        simp only [Vthen, VinBlock, if_true, if_false, Nat.reduceEqDiff, reduceCtorEq]
        refine WpV.cond rfl (fun hb => by cases hb) (fun hb => WpV.skip ?_)
        simp only [Vthen, VinBlock, if_true, if_false, Nat.reduceEqDiff, reduceCtorEq]
        refine WpV.seq (WpV.region ?_)
        refine WpOps.step (by rfl) (by rfl) (OpW.callY rfl (by rfl) (by rfl) (by rfl) (enters_of Tryz.func17 (by kernel_rfl) rfl) ((hkn).mono ?_))
        rintro _ _ ⟨rfl, hH⟩
        replace hH := hH.symm
        subst hH
        refine WpOps.take 1 (by simp only [go_sem, reduceCtorEq, Nat.reduceAdd, Nat.reduceMul, Nat.reduceSub, Nat.reduceLT, Nat.reduceLeDiff, Nat.reduceEqDiff, Nat.reduceBEq, Nat.reducePow]; rfl) (WpOps.nil ⟨Marks.nil _, ?_⟩)
        simp only [Vthen, VinBlock, if_true, if_false, Nat.reduceEqDiff, reduceCtorEq]
        refine WpV.ret ⟨Marks.nil _, List.nodup_nil, _, by simp only [Tryz.results5]; simp only [go_sem, reduceCtorEq, Nat.reduceAdd, Nat.reduceMul, Nat.reduceSub, Nat.reduceLT, Nat.reduceLeDiff, Nat.reduceEqDiff, Nat.reduceBEq, Nat.reducePow]; rfl, ?_⟩
        exact ⟨rfl, rfl⟩
    · have hee : ((o.length : Int) == (b.length : Int)) = false := by simp only [beq_eq_false_iff_ne]; omega
      refine WpV.seq (WpV.region ?_)
      refine WpOps.take 4 (by simp only [go_sem, reduceCtorEq, Nat.reduceAdd, Nat.reduceMul, Nat.reduceSub, Nat.reduceLT, Nat.reduceLeDiff, Nat.reduceEqDiff, Nat.reduceBEq, Nat.reducePow]; rfl) ?_
      refine WpOps.step (by rfl) (by rfl) (OpW.callY rfl (by rfl) (by rfl) (by rfl) (enters_of Tryz.func31 (by kernel_rfl) rfl) ((hG2).mono ?_))
      rintro _ _ ⟨rfl, hH⟩
      replace hH := hH.symm
      subst hH
      refine WpOps.take 1 (by simp only [go_sem, reduceCtorEq, Nat.reduceAdd, Nat.reduceMul, Nat.reduceSub, Nat.reduceLT, Nat.reduceLeDiff, Nat.reduceEqDiff, Nat.reduceBEq, Nat.reducePow]; rfl) (WpOps.nil ⟨Marks.nil _, ?_⟩)
      simp only [Vthen, VinBlock, if_true, if_false, Nat.reduceEqDiff, reduceCtorEq]
      refine WpV.seq (WpV.region ?_)
      refine WpOps.take 8 (by simp only [go_sem, reduceCtorEq, Nat.reduceAdd, Nat.reduceMul, Nat.reduceSub, Nat.reduceLT, Nat.reduceLeDiff, Nat.reduceEqDiff, Nat.reduceBEq, Nat.reducePow, hge0, hnlt, hee]; rfl) ?_
      refine WpOps.take 8 (by simp only [go_sem, reduceCtorEq, Nat.reduceAdd, Nat.reduceMul, Nat.reduceSub, Nat.reduceLT, Nat.reduceLeDiff, Nat.reduceEqDiff, Nat.reduceBEq, Nat.reducePow, hge0, hnlt, hee]; rfl) ?_
      refine WpOps.take 8 (by simp only [go_sem, reduceCtorEq, Nat.reduceAdd, Nat.reduceMul, Nat.reduceSub, Nat.reduceLT, Nat.reduceLeDiff, Nat.reduceEqDiff, Nat.reduceBEq, Nat.reducePow, hge0, hnlt, hee]; rfl) ?_
      refine WpOps.take 7 (by simp only [go_sem, reduceCtorEq, Nat.reduceAdd, Nat.reduceMul, Nat.reduceSub, Nat.reduceLT, Nat.reduceLeDiff, Nat.reduceEqDiff, Nat.reduceBEq, Nat.reducePow, hge0, hnlt, hee]; rfl) (WpOps.nil ⟨Marks.nil _, ?_⟩)
      simp only [Vthen, VinBlock, if_true, if_false, Nat.reduceEqDiff, reduceCtorEq]
      refine WpV.cond rfl (fun hb => by cases hb) (fun hb => WpV.skip ?_)
      simp only [Vthen, VinBlock, if_true, if_false, Nat.reduceEqDiff, reduceCtorEq]
      refine WpV.seq (WpV.region ?_)
      refine WpOps.step (by rfl) (by rfl) (OpW.callY rfl (by rfl) (by rfl) (by rfl) (enters_of Tryz.func17 (by kernel_rfl) rfl) ((hkn).mono ?_))
      rintro _ _ ⟨rfl, hH⟩
      replace hH := hH.symm
      subst hH
      refine WpOps.take 1 (by simp only [go_sem, reduceCtorEq, Nat.reduceAdd, Nat.reduceMul, Nat.reduceSub, Nat.reduceLT, Nat.reduceLeDiff, Nat.reduceEqDiff, Nat.reduceBEq, Nat.reducePow]; rfl) (WpOps.nil ⟨Marks.nil _, ?_⟩)
      simp only [Vthen, VinBlock, if_true, if_false, Nat.reduceEqDiff, reduceCtorEq]
      refine WpV.ret ⟨Marks.nil _, List.nodup_nil, _, by simp only [Tryz.results5]; simp only [go_sem, reduceCtorEq, Nat.reduceAdd, Nat.reduceMul, Nat.reduceSub, Nat.reduceLT, Nat.reduceLeDiff, Nat.reduceEqDiff, Nat.reduceBEq, Nat.reducePow]; rfl, ?_⟩
      exact ⟨rfl, rfl⟩
  · rw [if_neg hle0] at hG2
    refine WpV.seq (WpV.region ?_)
    refine WpOps.take 4 (by simp only [go_sem, reduceCtorEq, Nat.reduceAdd, Nat.reduceMul, Nat.reduceSub, Nat.reduceLT, Nat.reduceLeDiff, Nat.reduceEqDiff, Nat.reduceBEq, Nat.reducePow]; rfl) ?_
    refine WpOps.step (by rfl) (by rfl) (OpW.callY rfl (by rfl) (by rfl) (by rfl) (enters_of Tryz.func31 (by kernel_rfl) rfl) ((hG2).mono ?_))
    rintro _ _ ⟨rfl, hH⟩
    replace hH := hH.symm
    subst hH
    refine WpOps.take 1 (by simp only [go_sem, reduceCtorEq, Nat.reduceAdd, Nat.reduceMul, Nat.reduceSub, Nat.reduceLT, Nat.reduceLeDiff, Nat.reduceEqDiff, Nat.reduceBEq, Nat.reducePow]; rfl) (WpOps.nil ⟨Marks.nil _, ?_⟩)
    simp only [Vthen, VinBlock, if_true, if_false, Nat.reduceEqDiff, reduceCtorEq]
    refine WpV.seq (WpV.region ?_)
    refine WpOps.take 8 (by simp only [go_sem, reduceCtorEq, Nat.reduceAdd, Nat.reduceMul, Nat.reduceSub, Nat.reduceLT, Nat.reduceLeDiff, Nat.reduceEqDiff, Nat.reduceBEq, Nat.reducePow, n10]; rfl) ?_
    refine WpOps.take 8 (by simp only [go_sem, reduceCtorEq, Nat.reduceAdd, Nat.reduceMul, Nat.reduceSub, Nat.reduceLT, Nat.reduceLeDiff, Nat.reduceEqDiff, Nat.reduceBEq, Nat.reducePow, n10]; rfl) ?_
    refine WpOps.take 8 (by simp only [go_sem, reduceCtorEq, Nat.reduceAdd, Nat.reduceMul, Nat.reduceSub, Nat.reduceLT, Nat.reduceLeDiff, Nat.reduceEqDiff, Nat.reduceBEq, Nat.reducePow, n10]; rfl) ?_
    refine WpOps.take 7 (by simp only [go_sem, reduceCtorEq, Nat.reduceAdd, Nat.reduceMul, Nat.reduceSub, Nat.reduceLT, Nat.reduceLeDiff, Nat.reduceEqDiff, Nat.reduceBEq, Nat.reducePow, n10]; rfl) (WpOps.nil ⟨Marks.nil _, ?_⟩)
    simp only [Vthen, VinBlock, if_true, if_false, Nat.reduceEqDiff, reduceCtorEq]
    refine WpV.cond rfl (fun hb => by cases hb) (fun hb => WpV.skip ?_)
    simp only [Vthen, VinBlock, if_true, if_false, Nat.reduceEqDiff, reduceCtorEq]
    refine WpV.seq (WpV.region ?_)
    refine WpOps.step (by rfl) (by rfl) (OpW.callY rfl (by rfl) (by rfl) (by rfl) (enters_of Tryz.func17 (by kernel_rfl) rfl) ((hkn).mono ?_))
    rintro _ _ ⟨rfl, hH⟩
    replace hH := hH.symm
    subst hH
    refine WpOps.take 1 (by simp only [go_sem, reduceCtorEq, Nat.reduceAdd, Nat.reduceMul, Nat.reduceSub, Nat.reduceLT, Nat.reduceLeDiff, Nat.reduceEqDiff, Nat.reduceBEq, Nat.reducePow]; rfl) (WpOps.nil ⟨Marks.nil _, ?_⟩)
    simp only [Vthen, VinBlock, if_true, if_false, Nat.reduceEqDiff, reduceCtorEq]
    refine WpV.ret ⟨Marks.nil _, List.nodup_nil, _, by simp only [Tryz.results5]; simp only [go_sem, reduceCtorEq, Nat.reduceAdd, Nat.reduceMul, Nat.reduceSub, Nat.reduceLT, Nat.reduceLeDiff, Nat.reduceEqDiff, Nat.reduceBEq, Nat.reducePow]; rfl, ?_⟩
    exact ⟨rfl, rfl⟩
end Go.Proofs.YtaekibilldjnmaaGreat
namespace Go.Proofs.YtaekibilldjnmaaGreat
open Go.ChangeShapes Go.WideShapes Go.ChangeAt Go.RowKit Go.Deep

theorem Tryz.ownKnob : ownKnob Tryz.prog.godebug = none := by kernel_rfl
theorem Tryz.laidOut : laidOutB Tryz.prog = true := by kernel_rfl
theorem Tryz.cells5 : Tryz.prog.cellsOf 5 = 1 := by kernel_rfl
theorem Tryz.cells22 : Tryz.prog.cellsOf 22 = 6 * 1 := by kernel_rfl
theorem Tryz.cells24 : Tryz.prog.cellsOf 24 = 3 * 1 := by kernel_rfl
theorem Tryz.cells59 : Tryz.prog.cellsOf 59 = 2 * 1 := by kernel_rfl
theorem Tryz.cells23 : Tryz.prog.cellsOf 23 = 1 := by kernel_rfl
theorem Tryz.cells26 : Tryz.prog.cellsOf 26 = 10 := by kernel_rfl
theorem Tryz.cellTypes26 : Tryz.prog.cellTypes Tryz.prog.depth 26 = some [5, 5, 5, 5, 5, 5, 23, 5, 5, 5] := by kernel_rfl

section
variable {Hh : Type} {enc : TypeId × Value → Hh} {w : World} {base : Nat} {spare : Nat → Bool} {held : Bool}
theorem byte_wf {n : Int} (h : Lit.wf (.int .u8 n) = true) : Byte n := by
  simp only [Lit.wf, Bool.and_eq_true, decide_eq_true_eq] at h
  have h1 : IntKind.u8.min = 0 := rfl
  have h2 : IntKind.u8.max = 255 := rfl
  rw [h1, h2] at h
  unfold Byte
  omega
theorem flat_bytes : ∀ l : List Int, l.flatMap (fun n => [vbyte n]) = l.map vbyte
  | [] => rfl
  | n :: l => by rw [List.flatMap_cons, flat_bytes l]; rfl
theorem rd_byte : Rd Tryz.prog Hh enc w base spare held 5 (fun n : Int => [vbyte n]) Byte := fun fuel cs x h => by
  obtain ⟨n, h1, h2⟩ := rd_int Tryz.underlying5 fuel cs x h
  exact ⟨n, byte_wf h1, h2⟩
/-- An array of bytes. -/
theorem rd_bytes {t : TypeId} {n : Nat} (ht : Tryz.prog.underlying t = some (.array n 5)) (hc : Tryz.prog.cellsOf t = n * 1) : Rd Tryz.prog Hh enc w base spare held t (fun l : List Int => l.map vbyte) (fun l => l.length = n ∧ ∀ b ∈ l, Byte b) := fun fuel cs x h => by
  obtain ⟨l, h1, h2⟩ := rd_array ht hc Tryz.cells5 (by decide) (fun _ => rfl) rd_byte fuel cs x h
  have h3 : CellsD w (l.flatMap fun n => [vbyte n]) cs := h2
  rw [flat_bytes] at h3
  exact ⟨l, h1, h3⟩
/-- Two bytes. -/
theorem rd_two : Rd Tryz.prog Hh enc w base spare held 59 prC (fun p => Byte p.1 ∧ Byte p.2) := fun fuel cs x h => by
  obtain ⟨l, ⟨h1, h2⟩, h3⟩ := rd_bytes Tryz.underlying59 Tryz.cells59 fuel cs x h
  rcases l with _ | ⟨a, _ | ⟨b, _ | ⟨c, r⟩⟩⟩ <;> simp at h1
  exact ⟨(a, b), ⟨h2 a (by simp), h2 b (by simp)⟩, h3⟩
end

set_option maxRecDepth 100000 in
/-- What the first argument reads as. -/
theorem type_read {Hh : Type} {enc : TypeId × Value → Hh} {w : World} {base : Nat} {spare : Nat → Bool} {held : Bool} {r : Reach} {b0 : Nat} {v : Value} {d : DataW Hh} {p : List MemPlace} (hv : Value.okWide Tryz.prog w r b0 26 v) (h : DataW.Trod enc Tryz.prog w base spare held 26 v d p) :
    ∃ x : TyA, x.Ok ∧ Den ρ0 w (.agg x.cells) v := by
  simp only [Value.okWide, Tryz.underlying26] at hv
  obtain ⟨cs, rfl, hsz, ts, hts, -, hcell⟩ := hv
  rw [Tryz.cellTypes26] at hts
  cases hts
  rw [Tryz.cells26] at hsz
  obtain ⟨fuel, hf⟩ := h
  obtain ⟨xs, n, _, _, hl, hxl, hel⟩ := DataW.trod_struct Tryz.underlying26 hf
  have hxl' : xs.length = 3 := hxl
  have f0 : DataW.trod enc Tryz.prog w base spare held n 22 ((cs.toList.drop 0).take (Tryz.prog.cellsOf 22)) = xs[0]? := hel 0 _ rfl
  have f1 : DataW.trod enc Tryz.prog w base spare held n 23 ((cs.toList.drop 6).take (Tryz.prog.cellsOf 23)) = xs[1]? := hel 1 _ rfl
  have f2 : DataW.trod enc Tryz.prog w base spare held n 24 ((cs.toList.drop 7).take (Tryz.prog.cellsOf 24)) = xs[2]? := hel 2 _ rfl
  rw [Tryz.cells22, List.getElem?_eq_getElem (by omega)] at f0
  rw [Tryz.cells23, List.getElem?_eq_getElem (by omega)] at f1
  rw [Tryz.cells24, List.getElem?_eq_getElem (by omega)] at f2
  obtain ⟨wd, ⟨a1, a2⟩, a3⟩ := rd_bytes Tryz.underlying22 Tryz.cells22 _ _ _ f0
  obtain ⟨nl, prs, b1, b2, b3⟩ := rd_slice Tryz.underlying23 Tryz.cells59 (by decide) (fun _ => rfl) rd_two (fun a len cap e => by
    have h6 : cs[6]? = some (.slice (some a) len cap) := by
      have : ((cs.toList.drop 6).take 1)[0]? = some (.slice (some a) len cap) := by rw [e]; rfl
      simpa using this
    obtain ⟨u, hu, hk⟩ := hcell 6 _ h6
    have hu' : u = 23 := by simpa using hu.symm
    subst hu'
    exact slice_spot Tryz.underlying23 hk) f1
  obtain ⟨fr, ⟨c1, c2⟩, c3⟩ := rd_bytes Tryz.underlying24 Tryz.cells24 _ _ _ f2
  rcases fr with _ | ⟨g0, _ | ⟨g1, _ | ⟨g2, _ | ⟨g3, r⟩⟩⟩⟩ <;> simp at c1
  refine ⟨⟨wd, nl, false, prs, g0, g1, g2⟩, ⟨a1, a2, by unfold maxLen at b2; simp only; omega, b1, c2 _ (by simp), c2 _ (by simp), c2 _ (by simp)⟩, CellsD.agg ?_⟩
  unfold TyA.cells
  refine CellsD.append ?_ (CellsD.append (a := [.sl nl false prs.length (prs.flatMap prC)]) (b := [vbyte g0, vbyte g1, vbyte g2]) ?_ ?_)
  · rw [List.length_map, a1]; exact a3
  · rw [List.length_map, a1]; exact b3
  · rw [List.length_map, a1, List.drop_drop, show 6 + [AV.sl nl false prs.length (prs.flatMap prC)].length = 7 from rfl]
    have : (cs.toList.drop 7).take 3 = cs.toList.drop 7 := List.take_of_length_le (by simp; omega)
    rw [← this]; exact c3
set_option maxRecDepth 100000 in
theorem slice_arg {P : Program} {w : World} {r : Reach} {b0 : Nat} {t e : TypeId} {v : Value} (ht : P.underlying t = some (.slice e)) (h : Value.okWide P w r b0 t v) : v.cells.toList = [v] ∧ ∀ a len cap, v = .slice (some a) len cap → a.spot = none := by
  simp only [Value.okWide, ht] at h
  refine ⟨?_, fun a len cap e => slice_spot ht (e ▸ h)⟩
  simp only [Cell.okWide, Cell.ok, ht] at h
  cases v <;> first | rfl | (simp at h)
set_option maxRecDepth 100000 in
theorem bytes_arg {Hh : Type} {enc : TypeId × Value → Hh} {w : World} {base : Nat} {spare : Nat → Bool} {held : Bool} {r : Reach} {b0 : Nat} {v : Value} {d : DataW Hh} {p : List MemPlace} (hv : Value.okWide Tryz.prog w r b0 27 v) (h : DataW.Trod enc Tryz.prog w base spare held 27 v d p) :
    ∃ (nl : Bool) (l : List Int), (∀ n ∈ l, Byte n) ∧ l.length ≤ 9223372036854775807 ∧ Den ρ0 w (.sl nl false l.length (l.map vbyte)) v := by
  obtain ⟨h1, h2⟩ := slice_arg Tryz.underlying27 hv
  obtain ⟨fuel, hf⟩ := h
  rw [h1] at hf
  obtain ⟨nl, l, b1, b2, b3⟩ := rd_slice Tryz.underlying27 Tryz.cells5 (by decide) (fun _ => rfl) rd_byte (fun a len cap e => h2 a len cap (by simpa using e)) hf
  obtain ⟨y, hy, hd⟩ := b3.2.at (i := 0) rfl
  simp only [List.getElem?_cons_zero, Option.some.injEq] at hy
  subst hy
  rw [flat_bytes] at hd
  exact ⟨nl, l, b1, by unfold maxLen at b2; omega, hd⟩
set_option maxRecDepth 100000 in
theorem six_arg {Hh : Type} {enc : TypeId × Value → Hh} {w : World} {base : Nat} {spare : Nat → Bool} {held : Bool} {r : Reach} {b0 : Nat} {v : Value} {d : DataW Hh} {p : List MemPlace} (hv : Value.okWide Tryz.prog w r b0 22 v) (h : DataW.Trod enc Tryz.prog w base spare held 22 v d p) :
    ∃ l : List Int, l.length = 6 ∧ (∀ n ∈ l, Byte n) ∧ Den ρ0 w (.agg (l.map vbyte)) v := by
  simp only [Value.okWide, Tryz.underlying22] at hv
  obtain ⟨cs, rfl, -⟩ := hv
  obtain ⟨fuel, hf⟩ := h
  obtain ⟨l, ⟨a1, a2⟩, a3⟩ := rd_bytes Tryz.underlying22 Tryz.cells22 _ _ _ hf
  exact ⟨l, a1, a2, CellsD.agg a3⟩

end Go.Proofs.YtaekibilldjnmaaGreat
namespace Go.Proofs.YtaekibilldjnmaaGreat
open Go.ChangeShapes Go.WideShapes Go.ChangeAt Go.RowKit Go.Deep

theorem Tryz.cells27 : Tryz.prog.cellsOf 27 = 1 := by kernel_rfl
theorem Tryz.cells28 : Tryz.prog.cellsOf 28 = 2 * 1 := by kernel_rfl
theorem Tryz.cellTypes28 : Tryz.prog.cellTypes Tryz.prog.depth 28 = some [27, 27] := by kernel_rfl
set_option maxRecDepth 100000 in
theorem slices_arg {Hh : Type} {enc : TypeId × Value → Hh} {w : World} {base : Nat} {spare : Nat → Bool} {held : Bool} {r : Reach} {b0 : Nat} {v : Value} {d : DataW Hh} {p : List MemPlace} (hv : Value.okWide Tryz.prog w r b0 28 v) (h : DataW.Trod enc Tryz.prog w base spare held 28 v d p) :
    ∃ (nl0 nl1 : Bool) (l0 l1 : List Int), (∀ n ∈ l0, Byte n) ∧ (∀ n ∈ l1, Byte n) ∧ l0.length ≤ 9223372036854775807 ∧ l1.length ≤ 9223372036854775807 ∧ Den ρ0 w (.agg [.sl nl0 false l0.length (l0.map vbyte), .sl nl1 false l1.length (l1.map vbyte)]) v := by
  simp only [Value.okWide, Tryz.underlying28] at hv
  obtain ⟨cs, rfl, hsz, ts, hts, -, hcell⟩ := hv
  rw [Tryz.cellTypes28] at hts
  cases hts
  rw [Tryz.cells28] at hsz
  obtain ⟨fuel, hf⟩ := h
  obtain ⟨xs, n, _, _, hl, hxl, hel⟩ := DataW.trod_array Tryz.underlying28 hf
  have f0 := hel 0 (by omega)
  have f1 := hel 1 (by omega)
  rw [Tryz.cells27, List.getElem?_eq_getElem (by omega)] at f0 f1
  have hsp : ∀ i, i < 2 → ∀ a len cap, ((cs.toList.drop (i * 1)).take 1) = [.slice (some a) len cap] → a.spot = none := fun i hi a len cap e => by
    have h6 : cs[i]? = some (.slice (some a) len cap) := by
      have : ((cs.toList.drop (i * 1)).take 1)[0]? = some (.slice (some a) len cap) := by rw [e]; rfl
      simpa using this
    obtain ⟨u, hu, hk⟩ := hcell i _ h6
    have hu' : u = 27 := by
      rcases (show i = 0 ∨ i = 1 by omega) with rfl | rfl <;> simpa using hu.symm
    subst hu'
    exact slice_spot Tryz.underlying27 hk
  obtain ⟨nl0, l0, a1, a2, a3⟩ := rd_slice Tryz.underlying27 Tryz.cells5 (by decide) (fun _ => rfl) rd_byte (hsp 0 (by omega)) f0
  obtain ⟨nl1, l1, b1, b2, b3⟩ := rd_slice Tryz.underlying27 Tryz.cells5 (by decide) (fun _ => rfl) rd_byte (hsp 1 (by omega)) f1
  rw [flat_bytes] at a3 b3
  refine ⟨nl0, nl1, l0, l1, a1, b1, by unfold maxLen at a2; omega, by unfold maxLen at b2; omega, CellsD.agg ?_⟩
  refine CellsD.append (a := [.sl nl0 false l0.length (l0.map vbyte)]) (b := [.sl nl1 false l1.length (l1.map vbyte)]) ?_ ?_
  · simpa using a3
  · have : (cs.toList.drop 1).take 1 = cs.toList.drop 1 := List.take_of_length_le (by simp; omega)
    rw [show 1 * 1 = 1 from rfl, this] at b3; exact b3


section
variable {Hh : Type} {enc : TypeId × Value → Hh} {w : World} {base : Nat} {spare : Nat → Bool} {held : Bool}
set_option maxRecDepth 100000 in
/-- A slice of bytes within a slice: it lies in cells, or has none. -/
theorem rd_rowX : Rd Tryz.prog Hh enc w base spare held 27 (fun r : RX => [rowX r]) RX.ok := by
  intro fuel cs x h
  have h' := h
  rcases open_slice Tryz.underlying27 h with ⟨rfl, -⟩ | ⟨a, len, cap, m, n, D, Pl, rfl, _, hl, hcm, hmm, _, hi⟩
  · refine ⟨some (true, []), fun p hp => by cases hp; exact ⟨fun n hn => (by cases hn), Nat.zero_le _⟩, CellsD.one ?_⟩
    show Den ρ0 w (.sl true false 0 []) _
    rw [Den]
    exact ⟨none, 0, rfl, Nat.le_refl _, nofun, fun _ => ⟨rfl, rfl, rfl⟩, nofun⟩
  · by_cases hs : a.spot = none
    · obtain ⟨nl, ls, h1, h2, h3⟩ := rd_slice Tryz.underlying27 Tryz.cells5 (by decide) (fun _ => rfl) rd_byte (fun a' l' c' e => by cases e; exact hs) h'
      rw [flat_bytes] at h3
      exact ⟨some (nl, ls), fun p hp => by cases hp; exact ⟨fun n hn => by have := h1 n hn; unfold Byte at this; omega, by unfold maxLen at h2; omega⟩, h3⟩
    · have hlm : len ≤ m := by rw [hmm]; split <;> omega
      have h0 : len = 0 := by
        by_cases e : len = 0
        · exact e
        · exfalso
          obtain ⟨cs', hc, -⟩ := hi 0 (by omega)
          rw [Tryz.cells5, Nat.zero_mul] at hc
          obtain ⟨-, hcl, hat⟩ := World.cells?_some hc
          have h1 := hat 0 (by decide)
          have h2 : w.cell? a = none := by
            unfold World.cell?
            have : a.spot.isSome = true := by
              cases hsp : a.spot with
              | none => exact absurd hsp hs
              | some _ => rfl
            split
            · rw [this]; rfl
            · rfl
          rw [show (a.add 0).add 0 = a from rfl, h2, List.getElem?_eq_getElem (by omega)] at h1
          cases h1
      subst h0
      exact ⟨none, fun p hp => (by cases hp), CellsD.one (by show Den ρ0 w .em _; rw [Den]; exact ⟨some a, cap, rfl⟩)⟩
theorem flat_rows : ∀ l : List RX, l.flatMap (fun r => [rowX r]) = l.map rowX
  | [] => rfl
  | r :: l => by rw [List.flatMap_cons, flat_rows l]; rfl
set_option maxRecDepth 100000 in
theorem rows_arg {r : Reach} {b0 : Nat} {v : Value} {d : DataW Hh} {p : List MemPlace} (hv : Value.okWide Tryz.prog w r b0 58 v) (h : DataW.Trod enc Tryz.prog w base spare held 58 v d p) :
    ∃ (nl : Bool) (l : List RX), (∀ r ∈ l, r.ok) ∧ l.length ≤ 9223372036854775807 ∧ Den ρ0 w (.sl nl false l.length (l.map rowX)) v := by
  obtain ⟨h1, h2⟩ := slice_arg Tryz.underlying58 hv
  obtain ⟨fuel, hf⟩ := h
  rw [h1] at hf
  obtain ⟨nl, l, b1, b2, b3⟩ := rd_slice Tryz.underlying58 Tryz.cells27 (by decide) (fun _ => rfl) rd_rowX (fun a len cap e => h2 a len cap (by simpa using e)) hf
  obtain ⟨y, hy, hd⟩ := b3.2.at (i := 0) rfl
  simp only [List.getElem?_cons_zero, Option.some.injEq] at hy
  subst hy
  rw [flat_rows] at hd
  exact ⟨nl, l, b1, by unfold maxLen at b2; omega, hd⟩
end
end Go.Proofs.YtaekibilldjnmaaGreat
namespace Go.Proofs.YtaekibilldjnmaaGreat
open Go.ChangeShapes Go.WideShapes Go.ChangeAt Go.RowKit Go.Deep

theorem Tryz.params5 : Tryz.f5.params = #[26, 58, 59] := by kernel_rfl
set_option maxRecDepth 100000 in
theorem two_arg {Hh : Type} {enc : TypeId × Value → Hh} {w : World} {base : Nat} {spare : Nat → Bool} {held : Bool} {r : Reach} {b0 : Nat} {v : Value} {d : DataW Hh} {p : List MemPlace} (hv : Value.okWide Tryz.prog w r b0 59 v) (h : DataW.Trod enc Tryz.prog w base spare held 59 v d p) :
    ∃ a b : Int, Byte a ∧ Byte b ∧ Den ρ0 w (.agg [vbyte a, vbyte b]) v := by
  simp only [Value.okWide, Tryz.underlying59] at hv
  obtain ⟨cs, rfl, -⟩ := hv
  obtain ⟨fuel, hf⟩ := h
  obtain ⟨p, ⟨a1, a2⟩, a3⟩ := rd_two _ _ _ hf
  exact ⟨p.1, p.2, a1, a2, CellsD.agg a3⟩

set_option maxRecDepth 100000 in
theorem letterBroken_lifted (os : Os) (started : os.Started) (H : Type) (enc : TypeId × Value → H) :
    ReturnsInHanded {} Tryz.checked os 5 .any (Rows.letterBrokenSpec.pre6 enc Tryz.prog Tryz.f5 Rows.letterBrokenRow.domain false) (Rows.letterBrokenSpec.post enc Tryz.prog Tryz.f5 false true false false) := by
  refine returnsInHanded_of_change (C := Tryz.checked) Tryz.ownKnob started (by kernel_rfl) Tryz.func5
    (ChangeSpec.witness6 (enc := enc) (C := Tryz.checked) false ⟨#[], #[.agg #[.int .u8 0, .int .u8 0, .int .u8 0, .int .u8 0, .int .u8 0, .int .u8 0, .slice none 0 0, .int .u8 0, .int .u8 0, .int .u8 0], .slice none 0 0, .agg #[.int .u8 0, .int .u8 0]], []⟩ 8 (by kernel_rfl) (by kernel_rfl) (by kernel_rfl) (by kernel_rfl)) ?_
  intro W base args ds gs before hval0 hW hcnd _
  have hval : ∀ (j : Nat) t v, Tryz.f5.params[j]? = some t → args[j]? = some v → Value.okWide Tryz.prog W .any base t v := hval0
  have hW' := hW
  obtain ⟨p, q, hA0, hV, rfl, hfz, hnd⟩ := hW
  have hA : DataW.TrodAll enc Tryz.prog W 0 (fun _ => true) true Tryz.f5.params.toList args.toList ds p := hA0
  rw [Tryz.params5] at hA hval
  obtain ⟨v0, vs0, d0, ds0, p0, q0, hargs, rfl, rfl, h0, r0⟩ := trodAll_cons hA
  obtain ⟨v1, vs1, d1, ds1, p1, q1, rfl, rfl, rfl, h1, r1⟩ := trodAll_cons r0
  obtain ⟨v2, vs2, d2, ds2, p2, q2, rfl, rfl, rfl, h2, r2⟩ := trodAll_cons r1
  obtain ⟨rfl, rfl, rfl⟩ := trodAll_nil r2
  obtain rfl : args = #[v0, v1, v2] := by cases args; simp_all
  obtain ⟨rfl, rfl⟩ := trodVars_none hV
  have lt0 : ∀ x ∈ p0, x.block < W.heap.size := by obtain ⟨m, hm⟩ := h0; exact DataW.trod_lt m _ _ _ hm
  have lt1 : ∀ x ∈ p1, x.block < W.heap.size := by obtain ⟨m, hm⟩ := h1; exact DataW.trod_lt m _ _ _ hm
  have lt2 : ∀ x ∈ p2, x.block < W.heap.size := by obtain ⟨m, hm⟩ := h2; exact DataW.trod_lt m _ _ _ hm
  obtain ⟨x, hx, hd0⟩ := type_read (hval 0 26 v0 rfl rfl) h0
  obtain ⟨nl, l, hlb, hll, hd1⟩ := rows_arg (hval 1 58 v1 rfl rfl) h1
  obtain ⟨b0, b1, hb0, hb1, hd2⟩ := two_arg (hval 2 59 v2 rfl rfl) h2
  clear hA0 hval0
  refine Calls.mono (Broken_any (fun _ => none) x hx nl false l hll hlb b0 b1 hb0 hb1 ρ0 W #[v0, v1, v2] rfl ?_ (ρ0_hd W)) ?_
  · rw [DenL]
    refine ⟨⟨v0, rfl, hd0⟩, ?_⟩
    rw [DenL]
    refine ⟨⟨v1, rfl, hd1⟩, ?_⟩
    rw [DenL]
    refine ⟨⟨v2, rfl, hd2⟩, ?_⟩
    rw [DenL]; trivial
  rintro e W' ⟨v, ρ', x', H', rfl, qx, hvd, -, rfl, -⟩
  rw [Den] at hvd
  subst hvd
  have bel' : Below W.heap.size W W' := ⟨qx.io.1, qx.io.2.2, qx.io.2.1, qx.size, fun k hk => (qx.free k hk (ρ0_free k)).2⟩
  exact ⟨_, rfl, _, _, _, [], _, [], hW', trodAll_mk1 (shut_bool Tryz.underlying4 _), (trodAll_cons_mk (Below.trod Tryz.laidOut (by kernel_rfl) (of_decide_eq_true (by kernel_rfl)) h0 bel' lt0) (trodAll_cons_mk (Below.trod Tryz.laidOut (by kernel_rfl) (of_decide_eq_true (by kernel_rfl)) h1 bel' lt1) (trodAll_cons_mk (Below.trod Tryz.laidOut (by kernel_rfl) (of_decide_eq_true (by kernel_rfl)) h2 bel' lt2) trodAll_mk0))), rfl, bel'.frame _, fun h => by cases h⟩

theorem letterBroken_over : Rows.letterBrokenRow.holds Tryz.pinned (OpenSpec.ofChange Rows.letterBrokenSpec) :=
  OpenClaim.holds_of_wide 5 Tryz.f5 rfl rfl rfl rfl rfl rfl rfl ⟨rfl, rfl, rfl, rfl, rfl⟩ rfl rfl rfl rfl rfl (by kernel_rfl) Tryz.func5 (by kernel_rfl)
    (of_decide_eq_true (by kernel_rfl)) (by unfold Func.isWrapper; first | (rw [if_pos (by decide +kernel)]; kernel_rfl) | (rw [if_neg (by decide +kernel)]; exact ⟨rfl, rfl⟩))
    (fun os started H enc _ => letterBroken_lifted os started H enc)

/-- The statement. -/
theorem letterBroken_holds : Rows.LetterBrokenSaid := letterBroken_over
#print axioms letterBroken_holds
end Go.Proofs.YtaekibilldjnmaaGreat
