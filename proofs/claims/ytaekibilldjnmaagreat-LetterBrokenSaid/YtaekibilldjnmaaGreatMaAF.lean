/- Lists: one changed, the place of a number, the blots. How long a word is; what is checked. Do the letters of a word agree with what was measured. What the blots of a word can be. 'Can'. How much wider gaps look; the closest gaps; what words need. The closest gaps; what words need; does a word go. -/
import Derived.Test.YtaekibilldjnmaaGreatMaAE
set_option linter.unusedVariables false
set_option linter.unusedSimpArgs false
set_option linter.unusedSectionVars false
namespace Go.Proofs.YtaekibilldjnmaaGreat
open Go.Proofs

theorem clone_own (H : Hp) (clip : Bool) (xs : List Int) (hx : xs.length < 1000000) (hp : 0 < xs.length) : CallV Tryz.prog 95 [vints false clip xs] H (fun r H' => ∃ id, H id = none ∧ r = .rs id 0 1 0 xs.length false ∧ H' = H.set id (some (.cells 3 0 (xs.map vint)))) := by
  refine CallV.body Tryz.func95 rfl Tryz.ntmps95 (by rfl) ?_
  refine WpV.seq (WpV.regionE (by simp only [go_sem, reduceCtorEq, Nat.reduceAdd, Nat.reduceMul, Nat.reduceSub, Nat.reduceLT, Nat.reduceLeDiff, Nat.reduceEqDiff, Nat.reduceBEq, Nat.reducePow]; rfl) (Marks.nil _) ?_)
  simp only [Vthen, VinBlock, if_true, if_false, Nat.reduceEqDiff, reduceCtorEq]
  refine WpV.seq ?_
  refine WpV.seq (WpV.regionE (by simp only [go_sem, reduceCtorEq, Nat.reduceAdd, Nat.reduceMul, Nat.reduceSub, Nat.reduceLT, Nat.reduceLeDiff, Nat.reduceEqDiff, Nat.reduceBEq, Nat.reducePow]; rfl) (Marks.nil _) ?_)
  simp only [Vthen, VinBlock, if_true, if_false, Nat.reduceEqDiff, reduceCtorEq]
  refine WpV.cond rfl (fun hb => by cases hb) (fun hb => WpV.skip ?_)
  simp only [Vthen, VinBlock, if_true, if_false, Nat.reduceEqDiff, reduceCtorEq]
  refine WpV.seq (WpV.region ?_)
  refine WpOps.take 2 (by simp only [go_sem, reduceCtorEq, Nat.reduceAdd, Nat.reduceMul, Nat.reduceSub, Nat.reduceLT, Nat.reduceLeDiff, Nat.reduceEqDiff, Nat.reduceBEq, Nat.reducePow]; rfl) ?_
  refine WpOps.step (by rfl) (by rfl) ?_
  refine OpW.append (nl := false) (len := 0) (cells := []) (m := xs.length) (ys := xs.map vint) rfl rfl rfl rfl (Tryz.el29 (by omega)) Tryz.underlying29 (by simp) (by simp) (all_one_ints _) hp (fun id hid => ?_)
  refine WpOps.take 1 (by simp only [go_sem, reduceCtorEq, Nat.reduceAdd, Nat.reduceMul, Nat.reduceSub, Nat.reduceLT, Nat.reduceLeDiff, Nat.reduceEqDiff, Nat.reduceBEq, Nat.reducePow]; rfl) (WpOps.nil ⟨Marks.nil _, ?_⟩)
  simp only [Vthen, VinBlock, if_true, if_false, Nat.reduceEqDiff, reduceCtorEq]
  refine WpV.ret ⟨Marks.nil _, List.nodup_nil, _, by simp only [Tryz.results95]; simp only [go_sem, reduceCtorEq, Nat.reduceAdd, Nat.reduceMul, Nat.reduceSub, Nat.reduceLT, Nat.reduceLeDiff, Nat.reduceEqDiff, Nat.reduceBEq, Nat.reducePow]; rfl, ?_⟩
  refine ⟨id, hid, by simp, by simp [killA]⟩

theorem putC_set : ∀ (cs : List AV) (i : Nat) (x : AV), i < cs.length → putC cs i [x] = cs.set i x := by
  intro cs i x h
  simp only [putC]
  rw [List.set_eq_take_append_cons_drop, if_pos h]
  simp

theorem replaced_any (H : Hp) (clip : Bool) (xs : List Int) (hx : xs.length < 1000000) (i : Nat) (hi : i < xs.length) (n : Int) : CallV Tryz.prog 75 [vints false clip xs, vint i, vint n] H (fun r H' => r = vints false false (xs.set i n) ∧ H' = H) := by
  refine CallV.body Tryz.func75 rfl Tryz.ntmps75 (by rfl) ?_
  refine WpV.seq (WpV.regionE (by simp only [go_sem, reduceCtorEq, Nat.reduceAdd, Nat.reduceMul, Nat.reduceSub, Nat.reduceLT, Nat.reduceLeDiff, Nat.reduceEqDiff, Nat.reduceBEq, Nat.reducePow]; rfl) (Marks.nil _) ?_)
  simp only [Vthen, VinBlock, if_true, if_false, Nat.reduceEqDiff, reduceCtorEq]
  refine WpV.seq (WpV.region ?_)
  refine WpOps.take 1 (by simp only [go_sem, reduceCtorEq, Nat.reduceAdd, Nat.reduceMul, Nat.reduceSub, Nat.reduceLT, Nat.reduceLeDiff, Nat.reduceEqDiff, Nat.reduceBEq, Nat.reducePow]; rfl) ?_
  refine WpOps.step (by rfl) (by rfl) (OpW.callY rfl (by rfl) (by rfl) (by rfl) (enters_of Tryz.func95 (by kernel_rfl) rfl) ((clone_own H clip xs hx (by omega)).mono ?_))
  rintro _ _ ⟨id, hid, rfl, rfl⟩
  refine WpOps.take 1 (by simp only [go_sem, reduceCtorEq, Nat.reduceAdd, Nat.reduceMul, Nat.reduceSub, Nat.reduceLT, Nat.reduceLeDiff, Nat.reduceEqDiff, Nat.reduceBEq, Nat.reducePow]; rfl) (WpOps.nil ⟨Marks.nil _, ?_⟩)
  simp only [Vthen, VinBlock, if_true, if_false, Nat.reduceEqDiff, reduceCtorEq]
  have hlt : (i : Int) < (xs.length : Int) := by omega
  refine WpV.seq (WpV.region ?_)
  refine WpOps.take 4 (by simp only [go_sem, reduceCtorEq, Nat.reduceAdd, Nat.reduceMul, Nat.reduceSub, Nat.reduceLT, Nat.reduceLeDiff, Nat.reduceEqDiff, Nat.reduceBEq, Nat.reducePow, hlt]; rfl) ?_
  refine WpOps.step (by rfl) (by rfl) (OpW.store (ty := 3) (cs := xs.map vint) rfl (by simp only [go_sem, reduceCtorEq, Nat.reduceAdd, Nat.reduceMul, Nat.reduceSub, Nat.reduceLT, Nat.reduceLeDiff, Nat.reduceEqDiff, Nat.reduceBEq, Nat.reducePow]; try rfl) (by simp only [go_sem, reduceCtorEq, Nat.reduceAdd, Nat.reduceMul, Nat.reduceSub, Nat.reduceLT, Nat.reduceLeDiff, Nat.reduceEqDiff, Nat.reduceBEq, Nat.reducePow]; try rfl) (Hp.set_eq _ _ _) (by simp only [go_sem, reduceCtorEq, Nat.reduceAdd, Nat.reduceMul, Nat.reduceSub, Nat.reduceLT, Nat.reduceLeDiff, Nat.reduceEqDiff, Nat.reduceBEq, Nat.reducePow]; try rfl) (by exact Tryz.sz3) (by simp; omega) ?_)
  refine WpOps.nil ⟨Marks.nil _, ?_⟩
  rw [Hp.set_set]
  simp only [Vthen, VinBlock, if_true, if_false, Nat.reduceEqDiff, reduceCtorEq]
  refine WpV.seq (WpV.regionE (by simp only [go_sem, reduceCtorEq, Nat.reduceAdd, Nat.reduceMul, Nat.reduceSub, Nat.reduceLT, Nat.reduceLeDiff, Nat.reduceEqDiff, Nat.reduceBEq, Nat.reducePow]; rfl) (Marks.nil _) ?_)
  simp only [Vthen, VinBlock, if_true, if_false, Nat.reduceEqDiff, reduceCtorEq]
  refine WpV.pre (Frz.slice (t := 6) rfl (Hp.set_eq _ _ _)) (Marks.nil _) ?_
  rw [Hp.set_set, Hp.set_same _ _ _ hid]
  refine WpV.ret ⟨Marks.nil _, List.nodup_nil, _, by simp only [Tryz.results75]; simp only [go_sem, reduceCtorEq, Nat.reduceAdd, Nat.reduceMul, Nat.reduceSub, Nat.reduceLT, Nat.reduceLeDiff, Nat.reduceEqDiff, Nat.reduceBEq, Nat.reducePow]; rfl, ?_⟩
  refine ⟨?_, rfl⟩
  have e1 : (xs.map vint).take i ++ [vint n] ++ (xs.map vint).drop (i + 1) = (xs.set i n).map vint := by
    rw [← List.map_take, ← List.map_drop, List.set_eq_take_append_cons_drop, if_pos hi]; simp
  rw [e1]
  simp [List.take_of_length_le]

theorem index_any (H : Hp) (nl clip : Bool) (xs : List Int) (hx : xs.length < 1000000) (v : Int) : CallV Tryz.prog 89 [vints nl clip xs, vint v] H (fun r H' => r = vint (firstN (fun k => v == xs.getD k 0) 0 xs.length) ∧ H' = H) := by
  refine CallV.body Tryz.func89 rfl Tryz.ntmps89 (by rfl) ?_
  refine WpV.seq (WpV.regionE (by simp only [go_sem, reduceCtorEq, Nat.reduceAdd, Nat.reduceMul, Nat.reduceSub, Nat.reduceLT, Nat.reduceLeDiff, Nat.reduceEqDiff, Nat.reduceBEq, Nat.reducePow]; rfl) (Marks.nil _) ?_)
  simp only [Vthen, VinBlock, if_true, if_false, Nat.reduceEqDiff, reduceCtorEq]
  refine WpV.seq ?_
  refine WpV.seq (WpV.regionE (by simp only [go_sem, reduceCtorEq, Nat.reduceAdd, Nat.reduceMul, Nat.reduceSub, Nat.reduceLT, Nat.reduceLeDiff, Nat.reduceEqDiff, Nat.reduceBEq, Nat.reducePow]; rfl) (Marks.nil _) ?_)
  simp only [Vthen, VinBlock, if_true, if_false, Nat.reduceEqDiff, reduceCtorEq]
  refine WpV.block (WpV.loopP xs.length (fun k => ∀ j, j < k → (v == xs.getD j 0) = false) (fun k => [(0, vints nl clip xs), (1, vint v), (7, vint xs.length), (8, vint k)]) (fun _ => H) (fun j hj => absurd hj (Nat.not_lt_zero _)) ?_ rfl ?_)
  · exact .cons rfl rfl (.cons rfl rfl (.cons rfl rfl (.cons rfl rfl (.nil _))))
  · intro k hk hp
    refine WpV.seq (WpV.regionE (by simp only [go_sem, reduceCtorEq, Nat.reduceAdd, Nat.reduceMul, Nat.reduceSub, Nat.reduceLT, Nat.reduceLeDiff, Nat.reduceEqDiff, Nat.reduceBEq, Nat.reducePow]; rfl) (Marks.nil _) ?_)
    simp only [Vthen, VinBlock, if_true, if_false, Nat.reduceEqDiff, reduceCtorEq]
    refine WpV.seq (WpV.cond rfl (fun hb => WpV.skip ?_) (fun hb => WpV.exit ?_))
    · have hlt : (k : Int) < (xs.length : Int) := of_decide_eq_true hb
      have hlt' : k < xs.length := by omega
      have hg := ints_get xs hlt'
      have hgd : xs.getD k 0 = xs[k] := by simp [List.getD_eq_getElem?_getD, hlt']
      simp only [Vthen, VinBlock, if_true, if_false, Nat.reduceEqDiff, reduceCtorEq]
      refine WpV.seq (WpV.block ?_)
      refine WpV.seq (WpV.regionE (by simp only [go_sem, reduceCtorEq, Nat.reduceAdd, Nat.reduceMul, Nat.reduceSub, Nat.reduceLT, Nat.reduceLeDiff, Nat.reduceEqDiff, Nat.reduceBEq, Nat.reducePow]; rfl) (Marks.nil _) ?_)
      simp only [Vthen, VinBlock, if_true, if_false, Nat.reduceEqDiff, reduceCtorEq]
      refine WpV.seq (WpV.regionE (by simp only [go_sem, reduceCtorEq, Nat.reduceAdd, Nat.reduceMul, Nat.reduceSub, Nat.reduceLT, Nat.reduceLeDiff, Nat.reduceEqDiff, Nat.reduceBEq, Nat.reducePow, hlt, hg]; rfl) (Marks.nil _) ?_)
      simp only [Vthen, VinBlock, if_true, if_false, Nat.reduceEqDiff, reduceCtorEq]
      refine WpV.cond rfl (fun hqk => ?_) (fun hqk => WpV.skip ?_)
      · refine WpV.seq (WpV.regionE (by simp only [go_sem, reduceCtorEq, Nat.reduceAdd, Nat.reduceMul, Nat.reduceSub, Nat.reduceLT, Nat.reduceLeDiff, Nat.reduceEqDiff, Nat.reduceBEq, Nat.reducePow]; rfl) (Marks.nil _) ?_)
        simp only [Vthen, VinBlock, if_true, if_false, Nat.reduceEqDiff, reduceCtorEq]
        refine WpV.ret ⟨Marks.nil _, List.nodup_nil, _, by simp only [Tryz.results89]; simp only [go_sem, reduceCtorEq, Nat.reduceAdd, Nat.reduceMul, Nat.reduceSub, Nat.reduceLT, Nat.reduceLeDiff, Nat.reduceEqDiff, Nat.reduceBEq, Nat.reducePow]; rfl, ?_⟩
        exact ⟨by rw [firstN_hit _ xs.length 0 k (Nat.zero_le _) (by omega) (fun j _ hj => hp j hj) (by rw [hgd]; exact hqk)], rfl⟩
      · simp only [Vthen, VinBlock, if_true, if_false, Nat.reduceEqDiff, reduceCtorEq]
        refine WpV.regionE (by simp only [go_sem, reduceCtorEq, Nat.reduceAdd, Nat.reduceMul, Nat.reduceSub, Nat.reduceLT, Nat.reduceLeDiff, Nat.reduceEqDiff, Nat.reduceBEq, Nat.reducePow]; rfl) (Marks.nil _) ?_
        simp only [Vthen, VinBlock, if_true, if_false, Nat.reduceEqDiff, reduceCtorEq]
        refine ⟨by first | rfl | trivial, hlt', fun j hj => ?_, .cons rfl rfl (.cons rfl rfl (.cons rfl rfl (.cons rfl ?_ (.nil _)))), by first | rfl | trivial⟩
        · by_cases e : j = k
          · subst e; rw [hgd]; exact hqk
          · exact hp j (by omega)
        · rw [wrap64 (by omega)]; rfl
    · have hge : k = xs.length := by have := of_decide_eq_false hb; omega
      subst hge
      simp only [Vthen, VinBlock, if_true, if_false, Nat.reduceEqDiff, reduceCtorEq]
      refine WpV.seq (WpV.regionE (by simp only [go_sem, reduceCtorEq, Nat.reduceAdd, Nat.reduceMul, Nat.reduceSub, Nat.reduceLT, Nat.reduceLeDiff, Nat.reduceEqDiff, Nat.reduceBEq, Nat.reducePow]; rfl) (Marks.nil _) ?_)
      simp only [Vthen, VinBlock, if_true, if_false, Nat.reduceEqDiff, reduceCtorEq]
      refine WpV.ret ⟨Marks.nil _, List.nodup_nil, _, by simp only [Tryz.results89]; simp only [go_sem, reduceCtorEq, Nat.reduceAdd, Nat.reduceMul, Nat.reduceSub, Nat.reduceLT, Nat.reduceLeDiff, Nat.reduceEqDiff, Nat.reduceBEq, Nat.reducePow]; rfl, ?_⟩
      exact ⟨by rw [firstN_none _ xs.length 0 (fun j _ hj => hp j (by omega))], rfl⟩

/-- The places of the blots among the first letters. -/
def blotN (xs : List Int) (k : Nat) : List Int := ((List.range k).filter fun i => xs.getD i 0 == -1).map (fun (i : Nat) => (i : Int))
theorem blotN_succ (xs : List Int) (k : Nat) : blotN xs (k + 1) = blotN xs k ++ (if xs.getD k 0 == -1 then [(k : Int)] else []) := by
  unfold blotN
  rw [List.range_succ, List.filter_append, List.map_append]
  congr 1
  simp only [List.filter_cons, List.filter_nil]
  split <;> simp
theorem blotN_len (xs : List Int) (k : Nat) : (blotN xs k).length ≤ k := by
  unfold blotN
  rw [List.length_map]
  exact Nat.le_trans (List.length_filter_le _ _) (by simp)
abbrev blotsF (xs : List Int) : List Int := blotN xs xs.length

theorem blots_any (H : Hp) (nl clip : Bool) (xs : List Int) (hx : xs.length < 1000000) : CallV Tryz.prog 88 [vints nl clip xs] H (fun r H' => r = vints (decide ((blotsF xs).length = 0)) (decide ((blotsF xs).length = 0)) (blotsF xs) ∧ H' = H) := by
  refine CallV.body Tryz.func88 rfl Tryz.ntmps88 (by rfl) ?_
  refine WpV.seq (WpV.regionE (by simp only [go_sem, reduceCtorEq, Nat.reduceAdd, Nat.reduceMul, Nat.reduceSub, Nat.reduceLT, Nat.reduceLeDiff, Nat.reduceEqDiff, Nat.reduceBEq, Nat.reducePow]; rfl) (Marks.nil _) ?_)
  simp only [Vthen, VinBlock, if_true, if_false, Nat.reduceEqDiff, reduceCtorEq]
  refine WpV.seq (WpV.regionE (by simp only [go_sem, reduceCtorEq, Nat.reduceAdd, Nat.reduceMul, Nat.reduceSub, Nat.reduceLT, Nat.reduceLeDiff, Nat.reduceEqDiff, Nat.reduceBEq, Nat.reducePow]; rfl) (Marks.nil _) ?_)
  simp only [Vthen, VinBlock, if_true, if_false, Nat.reduceEqDiff, reduceCtorEq]
  refine WpV.seq ?_
  refine WpV.seq (WpV.regionE (by simp only [go_sem, reduceCtorEq, Nat.reduceAdd, Nat.reduceMul, Nat.reduceSub, Nat.reduceLT, Nat.reduceLeDiff, Nat.reduceEqDiff, Nat.reduceBEq, Nat.reducePow]; rfl) (Marks.nil _) ?_)
  simp only [Vthen, VinBlock, if_true, if_false, Nat.reduceEqDiff, reduceCtorEq]
  refine WpV.block (WpV.loopB 3 1 true xs.length (fun _ => True) (fun k => (blotN xs k).length) (fun k => (blotN xs k).map vint) (fun k v => [(3, v), (6, vints nl clip xs), (7, vint xs.length), (8, vint k)]) trivial (Bld.nil H 3 1 true) ?_ ?_)
  · exact .cons rfl rfl (.cons rfl rfl (.cons rfl rfl (.cons rfl rfl (.nil _))))
  · intro k hk _ v H1 hB
    refine WpV.seq (WpV.regionE (by simp only [go_sem, reduceCtorEq, Nat.reduceAdd, Nat.reduceMul, Nat.reduceSub, Nat.reduceLT, Nat.reduceLeDiff, Nat.reduceEqDiff, Nat.reduceBEq, Nat.reducePow]; rfl) (Marks.nil _) ?_)
    simp only [Vthen, VinBlock, if_true, if_false, Nat.reduceEqDiff, reduceCtorEq]
    refine WpV.seq (WpV.cond rfl (fun hb => WpV.skip ?_) (fun hb => WpV.exit ?_))
    · have hlt : (k : Int) < (xs.length : Int) := of_decide_eq_true hb
      have hlt' : k < xs.length := by omega
      have hg := ints_get xs hlt'
      have hgd : xs.getD k 0 = xs[k] := by simp [List.getD_eq_getElem?_getD, hlt']
      have hbl := blotN_len xs k
      simp only [Vthen, VinBlock, if_true, if_false, Nat.reduceEqDiff, reduceCtorEq]
      refine WpV.seq (WpV.block ?_)
      refine WpV.seq (WpV.regionE (by simp only [go_sem, reduceCtorEq, Nat.reduceAdd, Nat.reduceMul, Nat.reduceSub, Nat.reduceLT, Nat.reduceLeDiff, Nat.reduceEqDiff, Nat.reduceBEq, Nat.reducePow, hlt, hg]; rfl) (Marks.nil _) ?_)
      simp only [Vthen, VinBlock, if_true, if_false, Nat.reduceEqDiff, reduceCtorEq]
      refine WpV.seq (WpV.regionE (by simp only [go_sem, reduceCtorEq, Nat.reduceAdd, Nat.reduceMul, Nat.reduceSub, Nat.reduceLT, Nat.reduceLeDiff, Nat.reduceEqDiff, Nat.reduceBEq, Nat.reducePow]; rfl) (Marks.nil _) ?_)
      simp only [Vthen, VinBlock, if_true, if_false, Nat.reduceEqDiff, reduceCtorEq]
      refine WpV.cond rfl (fun hqk => ?_) (fun hqk => WpV.skip ?_)
      · refine WpV.region ?_
        refine WpOps.take 3 (by simp only [go_sem, reduceCtorEq, Nat.reduceAdd, Nat.reduceMul, Nat.reduceSub, Nat.reduceLT, Nat.reduceLeDiff, Nat.reduceEqDiff, Nat.reduceBEq, Nat.reducePow]; rfl) ?_
        refine WpOps.step (by rfl) (by rfl) (OpW.appendB (m := 1) (ys := [vint k]) rfl hB rfl rfl rfl (Tryz.el29 (by omega)) Tryz.underlying29 rfl rfl (by decide) (fun v' H' hB' => ?_))
        refine WpOps.take 1 (by simp only [go_sem, reduceCtorEq, Nat.reduceAdd, Nat.reduceMul, Nat.reduceSub, Nat.reduceLT, Nat.reduceLeDiff, Nat.reduceEqDiff, Nat.reduceBEq, Nat.reducePow]; rfl) (WpOps.nil ⟨Marks.nil _, ?_⟩)
        simp only [Vthen, VinBlock, if_true, if_false, Nat.reduceEqDiff, reduceCtorEq]
        refine WpV.regionE (by simp only [go_sem, reduceCtorEq, Nat.reduceAdd, Nat.reduceMul, Nat.reduceSub, Nat.reduceLT, Nat.reduceLeDiff, Nat.reduceEqDiff, Nat.reduceBEq, Nat.reducePow]; rfl) (Marks.nil _) ?_
        simp only [Vthen, VinBlock, if_true, if_false, Nat.reduceEqDiff, reduceCtorEq]
        refine ⟨by first | rfl | trivial, hlt', trivial, v', ?_, .cons rfl rfl (.cons rfl rfl (.cons rfl rfl (.cons rfl ?_ (.nil _))))⟩
        · rw [blotN_succ, hgd, if_pos hqk, List.length_append, List.map_append]; exact hB'
        · rw [wrap64 (by omega)]; rfl
      · simp only [Vthen, VinBlock, if_true, if_false, Nat.reduceEqDiff, reduceCtorEq]
        refine WpV.regionE (by simp only [go_sem, reduceCtorEq, Nat.reduceAdd, Nat.reduceMul, Nat.reduceSub, Nat.reduceLT, Nat.reduceLeDiff, Nat.reduceEqDiff, Nat.reduceBEq, Nat.reducePow]; rfl) (Marks.nil _) ?_
        simp only [Vthen, VinBlock, if_true, if_false, Nat.reduceEqDiff, reduceCtorEq]
        refine ⟨by first | rfl | trivial, hlt', trivial, v, ?_, .cons rfl rfl (.cons rfl rfl (.cons rfl rfl (.cons rfl ?_ (.nil _))))⟩
        · rw [blotN_succ, hgd, if_neg (by rw [hqk]; decide), List.append_nil]; exact hB
        · rw [wrap64 (by omega)]; rfl
    · have hge : k = xs.length := by have := of_decide_eq_false hb; omega
      subst hge
      simp only [Vthen, VinBlock, if_true, if_false, Nat.reduceEqDiff, reduceCtorEq]
      refine WpV.seq (WpV.regionE (by simp only [go_sem, reduceCtorEq, Nat.reduceAdd, Nat.reduceMul, Nat.reduceSub, Nat.reduceLT, Nat.reduceLeDiff, Nat.reduceEqDiff, Nat.reduceBEq, Nat.reducePow]; rfl) (Marks.nil _) ?_)
      simp only [Vthen, VinBlock, if_true, if_false, Nat.reduceEqDiff, reduceCtorEq]
      refine WpV.pre (hB.frz (t := 2) rfl) (Marks.nil _) ?_
      refine WpV.ret ⟨Marks.nil _, List.nodup_nil, _, by simp only [Tryz.results88]; simp only [go_sem, reduceCtorEq, Nat.reduceAdd, Nat.reduceMul, Nat.reduceSub, Nat.reduceLT, Nat.reduceLeDiff, Nat.reduceEqDiff, Nat.reduceBEq, Nat.reducePow]; rfl, ?_⟩
      exact ⟨by simp, rfl⟩
end Go.Proofs.YtaekibilldjnmaaGreat
namespace Go.Proofs.YtaekibilldjnmaaGreat
open Go.Proofs

def Cs.widthOf (c : Cs) (x : Int) : Int := c.ws.getD x.toNat 0
def Cs.longF (c : Cs) (w gs : List Int) : Int := gs.sum + (w.map c.widthOf).sum
def Cs.Letters (c : Cs) (w : List Int) : Prop := ∀ x ∈ w, 0 ≤ x ∧ x < c.ws.length
theorem Cs.letters_iff {c : Cs} {w : List Int} : c.letters w = true ↔ c.Letters w := by
  unfold Cs.letters Cs.Letters
  rw [insB_iff]
  constructor <;> intro h x hx <;> have := h x hx <;> omega
theorem Cs.width_at {c : Cs} {x : Int} (h : 0 ≤ x ∧ x < c.ws.length) : (c.ws.map vint)[x.toNat]? = some (vint (c.widthOf x)) := by
  have hx : x.toNat < c.ws.length := by omega
  rw [ints_get _ hx]
  simp [Cs.widthOf, List.getD_eq_getElem?_getD, hx]
theorem Cs.width_le {c : Cs} (hb : ∀ x ∈ c.ws, 0 ≤ x ∧ x ≤ 30) {x : Int} (h : 0 ≤ x ∧ x < c.ws.length) : 0 ≤ c.widthOf x ∧ c.widthOf x ≤ 30 := by
  have hx : x.toNat < c.ws.length := by omega
  have : c.widthOf x = c.ws[x.toNat] := by simp [Cs.widthOf, List.getD_eq_getElem?_getD, hx]
  rw [this]
  exact hb _ (List.getElem_mem _)
theorem Cs.widths_tame {c : Cs} (hb : ∀ x ∈ c.ws, 0 ≤ x ∧ x ≤ 30) {w : List Int} (hw : c.Letters w) (hl : w.length < 1000000) : Tame (w.map c.widthOf) := by
  refine ⟨by simpa using hl, fun y hy => ?_⟩
  obtain ⟨x, hx, rfl⟩ := List.mem_map.1 hy
  have := Cs.width_le hb (hw x hx)
  omega

theorem long_any (H : Hp) (c : Cs) (hB : ∀ x ∈ c.ws, 0 ≤ x ∧ x ≤ 30) (nl clip nl2 clip2 : Bool) (w gs : List Int) (hw : c.Letters w) (hl : w.length < 1000000) (hg : Tame gs) :
    CallV Tryz.prog 59 [.agg c.box, vints nl clip w, vints nl2 clip2 gs] H (fun r H' => r = vint (c.longF w gs) ∧ H' = H) := by
  have ht := Cs.widths_tame hB hw hl
  have hgs := hg.sum
  refine CallV.body Tryz.func59 rfl Tryz.ntmps59 (by rfl) ?_
  refine WpV.seq (WpV.regionE (by simp only [go_sem, reduceCtorEq, Nat.reduceAdd, Nat.reduceMul, Nat.reduceSub, Nat.reduceLT, Nat.reduceLeDiff, Nat.reduceEqDiff, Nat.reduceBEq, Nat.reducePow]; rfl) (Marks.nil _) ?_)
  simp only [Vthen, VinBlock, if_true, if_false, Nat.reduceEqDiff, reduceCtorEq]
  refine WpV.seq (WpV.region ?_)
  refine WpOps.take 1 (by simp only [go_sem, reduceCtorEq, Nat.reduceAdd, Nat.reduceMul, Nat.reduceSub, Nat.reduceLT, Nat.reduceLeDiff, Nat.reduceEqDiff, Nat.reduceBEq, Nat.reducePow]; rfl) ?_
  refine WpOps.step (by rfl) (by rfl) (OpW.callY rfl (by rfl) (by rfl) (by rfl) (enters_of Tryz.func84 (by kernel_rfl) rfl) ((sum_any H nl2 clip2 gs hg).mono ?_))
  rintro _ _ ⟨rfl, hH⟩
  replace hH := hH.symm
  subst hH
  refine WpOps.take 1 (by simp only [go_sem, reduceCtorEq, Nat.reduceAdd, Nat.reduceMul, Nat.reduceSub, Nat.reduceLT, Nat.reduceLeDiff, Nat.reduceEqDiff, Nat.reduceBEq, Nat.reducePow]; rfl) (WpOps.nil ⟨Marks.nil _, ?_⟩)
  simp only [Vthen, VinBlock, if_true, if_false, Nat.reduceEqDiff, reduceCtorEq]
  refine WpV.seq ?_
  refine WpV.seq (WpV.regionE (by simp only [go_sem, reduceCtorEq, Nat.reduceAdd, Nat.reduceMul, Nat.reduceSub, Nat.reduceLT, Nat.reduceLeDiff, Nat.reduceEqDiff, Nat.reduceBEq, Nat.reducePow]; rfl) (Marks.nil _) ?_)
  simp only [Vthen, VinBlock, if_true, if_false, Nat.reduceEqDiff, reduceCtorEq]
  refine WpV.block (WpV.loopN w.length (fun k => [(3, .cp c.box 0), (7, vint (gs.sum + ((w.map c.widthOf).take k).sum)), (12, vints nl clip w), (13, vint w.length), (14, vint k)]) (fun _ => H) ?_ rfl ?_)
  · exact .cons rfl rfl (.cons rfl (by simp) (.cons rfl rfl (.cons rfl rfl (.cons rfl rfl (.nil _)))))
  · intro k hk
    refine WpV.seq (WpV.regionE (by simp only [go_sem, reduceCtorEq, Nat.reduceAdd, Nat.reduceMul, Nat.reduceSub, Nat.reduceLT, Nat.reduceLeDiff, Nat.reduceEqDiff, Nat.reduceBEq, Nat.reducePow]; rfl) (Marks.nil _) ?_)
    simp only [Vthen, VinBlock, if_true, if_false, Nat.reduceEqDiff, reduceCtorEq]
    refine WpV.seq (WpV.cond rfl (fun hb => WpV.skip ?_) (fun hb => WpV.exit ?_))
    · have hlt : (k : Int) < (w.length : Int) := of_decide_eq_true ‹_›
      have hlt' : k < w.length := by omega
      have hgt := ints_get w hlt'
      have hx := hw w[k] (List.getElem_mem _)
      have hx1 := hx.1
      have hx2 := hx.2
      have hxw := Cs.width_at hx
      simp only [Vthen, VinBlock, if_true, if_false, Nat.reduceEqDiff, reduceCtorEq]
      refine WpV.seq (WpV.block ?_)
      refine WpV.seq (WpV.regionE (by simp only [go_sem, reduceCtorEq, Nat.reduceAdd, Nat.reduceMul, Nat.reduceSub, Nat.reduceLT, Nat.reduceLeDiff, Nat.reduceEqDiff, Nat.reduceBEq, Nat.reducePow, hlt, hgt]; rfl) (Marks.nil _) ?_)
      simp only [Vthen, VinBlock, if_true, if_false, Nat.reduceEqDiff, reduceCtorEq]
      refine WpV.regionE (by simp only [go_sem, reduceCtorEq, Nat.reduceAdd, Nat.reduceMul, Nat.reduceSub, Nat.reduceLT, Nat.reduceLeDiff, Nat.reduceEqDiff, Nat.reduceBEq, Nat.reducePow, hx1, hx2, hxw]; rfl) (Marks.nil _) ?_
      simp only [Vthen, VinBlock, if_true, if_false, Nat.reduceEqDiff, reduceCtorEq]
      refine WpV.regionE (by simp only [go_sem, reduceCtorEq, Nat.reduceAdd, Nat.reduceMul, Nat.reduceSub, Nat.reduceLT, Nat.reduceLeDiff, Nat.reduceEqDiff, Nat.reduceBEq, Nat.reducePow]; rfl) (Marks.nil _) ?_
      simp only [Vthen, VinBlock, if_true, if_false, Nat.reduceEqDiff, reduceCtorEq]
      have h1 := (ht.take k).sum
      have h2 := Cs.width_le hB hx
      refine ⟨by first | rfl | trivial, hlt', .cons rfl rfl (.cons rfl ?_ (.cons rfl rfl (.cons rfl rfl (.cons rfl ?_ (.nil _))))), by first | rfl | trivial⟩
      · rw [sum_take _ _ (by simpa using hlt'), wrap64 (by omega), List.getElem_map]
        congr 1; omega
      · rw [wrap64 (by omega)]; rfl
    · have hge : k = w.length := by have := of_decide_eq_false ‹_›; omega
      subst hge
      rw [List.take_of_length_le (by simp)]
      simp only [Vthen, VinBlock, if_true, if_false, Nat.reduceEqDiff, reduceCtorEq]
      refine WpV.seq (WpV.regionE (by simp only [go_sem, reduceCtorEq, Nat.reduceAdd, Nat.reduceMul, Nat.reduceSub, Nat.reduceLT, Nat.reduceLeDiff, Nat.reduceEqDiff, Nat.reduceBEq, Nat.reducePow]; rfl) (Marks.nil _) ?_)
      simp only [Vthen, VinBlock, if_true, if_false, Nat.reduceEqDiff, reduceCtorEq]
      refine WpV.ret ⟨Marks.nil _, List.nodup_nil, _, by simp only [Tryz.results59]; simp only [go_sem, reduceCtorEq, Nat.reduceAdd, Nat.reduceMul, Nat.reduceSub, Nat.reduceLT, Nat.reduceLeDiff, Nat.reduceEqDiff, Nat.reduceBEq, Nat.reducePow]; rfl, ?_⟩
      exact ⟨rfl, rfl⟩

theorem checkWord_ok (H : Hp) (c : Cs) (hc : c.Valid) (nl clip : Bool) (w : List Int) (hl : w.length < 1000000) (hw : c.word w = true) : CallV Tryz.prog 34 [.agg c.cells, vints nl clip w] H (fun r H' => r = vint 0 ∧ H' = H) := by
  have h1 := word_any H c hc.ok nl clip w hl
  rw [hw] at h1
  refine CallV.body Tryz.func34 rfl Tryz.ntmps34 (by rfl) ?_
  refine WpV.seq (WpV.regionE (by simp only [go_sem, reduceCtorEq, Nat.reduceAdd, Nat.reduceMul, Nat.reduceSub, Nat.reduceLT, Nat.reduceLeDiff, Nat.reduceEqDiff, Nat.reduceBEq, Nat.reducePow]; rfl) (Marks.nil _) ?_)
  simp only [Vthen, VinBlock, if_true, if_false, Nat.reduceEqDiff, reduceCtorEq]
  refine WpV.seq ?_
  refine WpV.seq (WpV.region ?_)
  refine WpOps.take 1 (by simp only [go_sem, reduceCtorEq, Nat.reduceAdd, Nat.reduceMul, Nat.reduceSub, Nat.reduceLT, Nat.reduceLeDiff, Nat.reduceEqDiff, Nat.reduceBEq, Nat.reducePow]; rfl) ?_
  refine WpOps.step (by rfl) (by rfl) (OpW.callY rfl (by rfl) (by rfl) (by rfl) (enters_of Tryz.func57 (by kernel_rfl) rfl) ((check_ok H c hc).mono ?_))
  rintro _ _ ⟨rfl, hH⟩
  replace hH := hH.symm
  subst hH
  refine WpOps.take 1 (by simp only [go_sem, reduceCtorEq, Nat.reduceAdd, Nat.reduceMul, Nat.reduceSub, Nat.reduceLT, Nat.reduceLeDiff, Nat.reduceEqDiff, Nat.reduceBEq, Nat.reducePow]; rfl) (WpOps.nil ⟨Marks.nil _, ?_⟩)
  simp only [Vthen, VinBlock, if_true, if_false, Nat.reduceEqDiff, reduceCtorEq]
  refine WpV.seq (WpV.regionE (by simp only [go_sem, reduceCtorEq, Nat.reduceAdd, Nat.reduceMul, Nat.reduceSub, Nat.reduceLT, Nat.reduceLeDiff, Nat.reduceEqDiff, Nat.reduceBEq, Nat.reducePow]; rfl) (Marks.nil _) ?_)
  simp only [Vthen, VinBlock, if_true, if_false, Nat.reduceEqDiff, reduceCtorEq]
  refine WpV.cond rfl (fun hb => by cases hb) (fun hb => WpV.skip ?_)
  simp only [Vthen, VinBlock, if_true, if_false, Nat.reduceEqDiff, reduceCtorEq]
  refine WpV.seq ?_
  refine WpV.seq (WpV.region ?_)
  refine WpOps.take 2 (by simp only [go_sem, reduceCtorEq, Nat.reduceAdd, Nat.reduceMul, Nat.reduceSub, Nat.reduceLT, Nat.reduceLeDiff, Nat.reduceEqDiff, Nat.reduceBEq, Nat.reducePow]; rfl) ?_
  refine WpOps.step (by rfl) (by rfl) (OpW.callY rfl (by rfl) (by rfl) (by rfl) (enters_of Tryz.func58 (by kernel_rfl) rfl) ((h1).mono ?_))
  rintro _ _ ⟨rfl, hH⟩
  replace hH := hH.symm
  subst hH
  refine WpOps.take 1 (by simp only [go_sem, reduceCtorEq, Nat.reduceAdd, Nat.reduceMul, Nat.reduceSub, Nat.reduceLT, Nat.reduceLeDiff, Nat.reduceEqDiff, Nat.reduceBEq, Nat.reducePow]; rfl) (WpOps.nil ⟨Marks.nil _, ?_⟩)
  simp only [Vthen, VinBlock, if_true, if_false, Nat.reduceEqDiff, reduceCtorEq]
  refine WpV.cond rfl (fun hb => by cases hb) (fun hb => WpV.skip ?_)
  simp only [Vthen, VinBlock, if_true, if_false, Nat.reduceEqDiff, reduceCtorEq]
  refine WpV.seq (WpV.regionE (by simp only [go_sem, reduceCtorEq, Nat.reduceAdd, Nat.reduceMul, Nat.reduceSub, Nat.reduceLT, Nat.reduceLeDiff, Nat.reduceEqDiff, Nat.reduceBEq, Nat.reducePow]; rfl) (Marks.nil _) ?_)
  simp only [Vthen, VinBlock, if_true, if_false, Nat.reduceEqDiff, reduceCtorEq]
  refine WpV.ret ⟨Marks.nil _, List.nodup_nil, _, by simp only [Tryz.results34]; simp only [go_sem, reduceCtorEq, Nat.reduceAdd, Nat.reduceMul, Nat.reduceSub, Nat.reduceLT, Nat.reduceLeDiff, Nat.reduceEqDiff, Nat.reduceBEq, Nat.reducePow]; rfl, ?_⟩
  exact ⟨rfl, rfl⟩

def gapsB (w gs : List Int) : Bool := ((gs.length : Int) == w.length - 1) && insB 0 400 gs
structure Meas (c : Cs) (w gs : List Int) (lo hi : Int) : Prop where
  word : c.blotted w = true
  gaps : gapsB w gs = true
  few : (blotsF w).length ≤ 2
  ge : 1 ≤ lo
  le : lo ≤ hi
  top : hi ≤ 400
theorem checkMeasured_ok (H : Hp) (c : Cs) (hc : c.Valid) (nl clip nl2 clip2 : Bool) (w gs : List Int) (lo hi : Int) (hl : w.length < 1000000) (hl2 : gs.length < 1000000) (hm : Meas c w gs lo hi) :
    CallV Tryz.prog 63 [.agg c.cells, vints nl clip w, vints nl2 clip2 gs, .agg [vint lo, vint hi]] H (fun r H' => r = vint 0 ∧ H' = H) := by
  have h1 := blotted_any H c hc.ok nl clip w hl
  rw [hm.word] at h1
  have h2 := gaps_any H nl clip w nl2 clip2 gs hl hl2
  rw [show (((gs.length : Int) == w.length - 1) && insB 0 400 gs) = true from hm.gaps] at h2
  have h3 := lengths_any H false true [lo, hi] (by simp)
  have h4 := hm.ge
  have h5 := hm.le
  have h6 := hm.top
  rw [show insB 1 400 [lo, hi] = true by rw [insB_iff]; simp; omega] at h3
  have h7 : ¬ ((2 : Int) < ((blotsF w).length : Int)) := by have := hm.few; omega
  have h8 : ¬ (hi < lo) := by omega
  refine CallV.body Tryz.func63 rfl Tryz.ntmps63 (by rfl) ?_
  refine WpV.seq (WpV.regionE (by simp only [go_sem, reduceCtorEq, Nat.reduceAdd, Nat.reduceMul, Nat.reduceSub, Nat.reduceLT, Nat.reduceLeDiff, Nat.reduceEqDiff, Nat.reduceBEq, Nat.reducePow]; rfl) (Marks.nil _) ?_)
  simp only [Vthen, VinBlock, if_true, if_false, Nat.reduceEqDiff, reduceCtorEq]
  refine WpV.seq (WpV.region ?_)
  refine WpOps.take 1 (by simp only [go_sem, reduceCtorEq, Nat.reduceAdd, Nat.reduceMul, Nat.reduceSub, Nat.reduceLT, Nat.reduceLeDiff, Nat.reduceEqDiff, Nat.reduceBEq, Nat.reducePow]; rfl) ?_
  refine WpOps.step (by rfl) (by rfl) (OpW.callY rfl (by rfl) (by rfl) (by rfl) (enters_of Tryz.func57 (by kernel_rfl) rfl) ((check_ok H c hc).mono ?_))
  rintro _ _ ⟨rfl, hH⟩
  replace hH := hH.symm
  subst hH
  refine WpOps.take 1 (by simp only [go_sem, reduceCtorEq, Nat.reduceAdd, Nat.reduceMul, Nat.reduceSub, Nat.reduceLT, Nat.reduceLeDiff, Nat.reduceEqDiff, Nat.reduceBEq, Nat.reducePow]; rfl) (WpOps.nil ⟨Marks.nil _, ?_⟩)
  simp only [Vthen, VinBlock, if_true, if_false, Nat.reduceEqDiff, reduceCtorEq]
  refine WpV.seq (WpV.block ?_)
  refine WpV.seq (WpV.regionE (by simp only [go_sem, reduceCtorEq, Nat.reduceAdd, Nat.reduceMul, Nat.reduceSub, Nat.reduceLT, Nat.reduceLeDiff, Nat.reduceEqDiff, Nat.reduceBEq, Nat.reducePow]; rfl) (Marks.nil _) ?_)
  simp only [Vthen, VinBlock, if_true, if_false, Nat.reduceEqDiff, reduceCtorEq]
  refine WpV.cond rfl (fun hb => by cases hb) (fun hb => ?_)
  refine WpV.seq (WpV.region ?_)
  refine WpOps.take 2 (by simp only [go_sem, reduceCtorEq, Nat.reduceAdd, Nat.reduceMul, Nat.reduceSub, Nat.reduceLT, Nat.reduceLeDiff, Nat.reduceEqDiff, Nat.reduceBEq, Nat.reducePow]; rfl) ?_
  refine WpOps.step (by rfl) (by rfl) (OpW.callY rfl (by rfl) (by rfl) (by rfl) (enters_of Tryz.func87 (by kernel_rfl) rfl) ((h1).mono ?_))
  rintro _ _ ⟨rfl, hH⟩
  replace hH := hH.symm
  subst hH
  refine WpOps.take 4 (by simp only [go_sem, reduceCtorEq, Nat.reduceAdd, Nat.reduceMul, Nat.reduceSub, Nat.reduceLT, Nat.reduceLeDiff, Nat.reduceEqDiff, Nat.reduceBEq, Nat.reducePow]; rfl) ?_
  refine WpOps.step (by rfl) (by rfl) (OpW.callY rfl (by rfl) (by rfl) (by rfl) (enters_of Tryz.func66 (by kernel_rfl) rfl) ((h2).mono ?_))
  rintro _ _ ⟨rfl, hH⟩
  replace hH := hH.symm
  subst hH
  refine WpOps.take 3 (by simp only [go_sem, reduceCtorEq, Nat.reduceAdd, Nat.reduceMul, Nat.reduceSub, Nat.reduceLT, Nat.reduceLeDiff, Nat.reduceEqDiff, Nat.reduceBEq, Nat.reducePow]; rfl) (WpOps.nil ⟨Marks.nil _, ?_⟩)
  simp only [Vthen, VinBlock, if_true, if_false, Nat.reduceEqDiff, reduceCtorEq]
  refine WpV.cond rfl (fun hb => by cases hb) (fun hb => ?_)
  refine WpV.seq (WpV.region ?_)
  refine WpOps.take 1 (by simp only [go_sem, reduceCtorEq, Nat.reduceAdd, Nat.reduceMul, Nat.reduceSub, Nat.reduceLT, Nat.reduceLeDiff, Nat.reduceEqDiff, Nat.reduceBEq, Nat.reducePow, h7, gt_iff_lt]; rfl) ?_
  refine WpOps.step (by rfl) (by rfl) (OpW.callY rfl (by rfl) (by rfl) (by rfl) (enters_of Tryz.func88 (by kernel_rfl) rfl) ((blots_any H nl clip w hl).mono ?_))
  rintro _ _ ⟨rfl, hH⟩
  replace hH := hH.symm
  subst hH
  refine WpOps.take 3 (by simp only [go_sem, reduceCtorEq, Nat.reduceAdd, Nat.reduceMul, Nat.reduceSub, Nat.reduceLT, Nat.reduceLeDiff, Nat.reduceEqDiff, Nat.reduceBEq, Nat.reducePow, h7, gt_iff_lt]; rfl) (WpOps.nil ⟨Marks.nil _, ?_⟩)
  simp only [Vthen, VinBlock, if_true, if_false, Nat.reduceEqDiff, reduceCtorEq]
  refine WpV.cond rfl (fun hb => by cases hb) (fun hb => ?_)
  refine WpV.seq (WpV.region ?_)
  refine WpOps.take 5 (by simp only [go_sem, reduceCtorEq, Nat.reduceAdd, Nat.reduceMul, Nat.reduceSub, Nat.reduceLT, Nat.reduceLeDiff, Nat.reduceEqDiff, Nat.reduceBEq, Nat.reducePow, h8, gt_iff_lt]; rfl) ?_
  refine WpOps.step (by rfl) (by rfl) (OpW.callY rfl (by rfl) (by rfl) (by rfl) (enters_of Tryz.func50 (by kernel_rfl) rfl) ((h3).mono ?_))
  rintro _ _ ⟨rfl, hH⟩
  replace hH := hH.symm
  subst hH
  refine WpOps.take 8 (by simp only [go_sem, reduceCtorEq, Nat.reduceAdd, Nat.reduceMul, Nat.reduceSub, Nat.reduceLT, Nat.reduceLeDiff, Nat.reduceEqDiff, Nat.reduceBEq, Nat.reducePow, h8, gt_iff_lt]; rfl) ?_
  refine WpOps.take 1 (by simp only [go_sem, reduceCtorEq, Nat.reduceAdd, Nat.reduceMul, Nat.reduceSub, Nat.reduceLT, Nat.reduceLeDiff, Nat.reduceEqDiff, Nat.reduceBEq, Nat.reducePow, h8, gt_iff_lt]; rfl) (WpOps.nil ⟨Marks.nil _, ?_⟩)
  simp only [Vthen, VinBlock, if_true, if_false, Nat.reduceEqDiff, reduceCtorEq]
  refine WpV.cond rfl (fun hb => by cases hb) (fun hb => WpV.skip ?_)
  simp only [Vthen, VinBlock, if_true, if_false, Nat.reduceEqDiff, reduceCtorEq]
  refine WpV.seq (WpV.regionE (by simp only [go_sem, reduceCtorEq, Nat.reduceAdd, Nat.reduceMul, Nat.reduceSub, Nat.reduceLT, Nat.reduceLeDiff, Nat.reduceEqDiff, Nat.reduceBEq, Nat.reducePow]; rfl) (Marks.nil _) ?_)
  simp only [Vthen, VinBlock, if_true, if_false, Nat.reduceEqDiff, reduceCtorEq]
  refine WpV.ret ⟨Marks.nil _, List.nodup_nil, _, by simp only [Tryz.results63]; simp only [go_sem, reduceCtorEq, Nat.reduceAdd, Nat.reduceMul, Nat.reduceSub, Nat.reduceLT, Nat.reduceLeDiff, Nat.reduceEqDiff, Nat.reduceBEq, Nat.reducePow]; rfl, ?_⟩
  exact ⟨rfl, rfl⟩
end Go.Proofs.YtaekibilldjnmaaGreat
namespace Go.Proofs.YtaekibilldjnmaaGreat
open Go.Proofs

abbrev Cs.meas (c : Cs) (nl clip : Bool) (gs : List Int) (lo hi : Int) : List AV := [vints c.wn c.wc c.ws, .sl c.pn c.pc c.ps.length (c.ps.flatMap pairC), vint c.rim, vint c.least, vint c.blank, .fm (c.ps.map keyP) (c.ps.map moreP), vints nl clip gs, vint lo, vint hi]
def Cs.Blotted (c : Cs) (w : List Int) : Prop := ∀ x ∈ w, x = -1 ∨ (0 ≤ x ∧ x < c.ws.length)
def blotAt (w : List Int) : Int := firstN (fun k => (-1 : Int) == w.getD k 0) 0 w.length
def agreesF (c : Cs) (gs : List Int) (lo hi : Int) : Nat → List Int → Bool
  | 0, w => inB lo hi (2 * c.rim + c.longF w gs)
  | n + 1, w => (List.range c.ws.length).any fun l => agreesF c gs lo hi n (w.set (blotAt w).toNat (l : Int))

theorem blotAt_none {w : List Int} (h : w.count (-1) = 0) : blotAt w = -1 := by
  refine firstN_none _ _ _ fun j _ hj => ?_
  have hj' : j < w.length := by omega
  have := List.count_eq_zero.1 h
  rw [List.getD_eq_getElem?_getD, List.getElem?_eq_getElem hj', Option.getD_some]
  have hne : w[j] ≠ -1 := fun e => this (e ▸ List.getElem_mem hj')
  simp; omega
theorem blotAt_some {w : List Int} (h : 0 < w.count (-1)) : ∃ k, ∃ hk : k < w.length, blotAt w = (k : Int) ∧ w[k] = -1 := by
  have hm := List.count_pos_iff.1 h
  have hex : ∃ k, ∃ hk : k < w.length, w[k] = -1 := by
    obtain ⟨k, hk, e⟩ := List.getElem_of_mem hm; exact ⟨k, hk, e⟩
  obtain ⟨k, hk, e, hmin⟩ : ∃ k, ∃ hk : k < w.length, w[k] = -1 ∧ ∀ j, j < k → ∀ hj : j < w.length, w[j] ≠ -1 := by
    obtain ⟨k, hk, e⟩ := hex
    induction k using Nat.strongRecOn with
    | _ k ih =>
      by_cases h2 : ∃ j, j < k ∧ ∃ hj : j < w.length, w[j] = -1
      · obtain ⟨j, hj, hj2, e2⟩ := h2; exact ih j hj hj2 e2
      · exact ⟨k, hk, e, fun j hj hj2 e2 => h2 ⟨j, hj, hj2, e2⟩⟩
  refine ⟨k, hk, firstN_hit _ _ _ k (Nat.zero_le _) (by omega) (fun j _ hj => ?_) ?_, e⟩
  · have hj' : j < w.length := by omega
    rw [List.getD_eq_getElem?_getD, List.getElem?_eq_getElem hj', Option.getD_some]
    have := hmin j hj hj'
    simp; omega
  · rw [List.getD_eq_getElem?_getD, List.getElem?_eq_getElem hk, Option.getD_some, e]; rfl
theorem count_set_blot : ∀ {w : List Int} {k : Nat} (hk : k < w.length) {l : Int}, w[k] = -1 → 0 ≤ l → (w.set k l).count (-1) + 1 = w.count (-1)
  | [], k, hk, _, _, _ => by simp at hk
  | x :: w, 0, hk, l, e, hl => by
    simp only [List.getElem_cons_zero] at e
    subst e
    have : ¬ (l = -1) := by omega
    simp [List.count_cons, this]
  | x :: w, k + 1, hk, l, e, hl => by
    have := count_set_blot (w := w) (k := k) (by simpa using hk) (l := l) (by simpa using e) hl
    simp only [List.set_cons_succ, List.count_cons]; omega
theorem Cs.Blotted.set {c : Cs} {w : List Int} (h : c.Blotted w) {k : Nat} {l : Int} (hl : 0 ≤ l ∧ l < c.ws.length) : c.Blotted (w.set k l) := fun x hx => by
  rcases List.mem_or_eq_of_mem_set hx with h1 | rfl
  · exact h x h1
  · exact .inr hl
theorem Cs.Blotted.letters {c : Cs} {w : List Int} (h : c.Blotted w) (h0 : w.count (-1) = 0) : c.Letters w := fun x hx =>
  (h x hx).resolve_left fun e => (List.count_eq_zero.1 h0) (e ▸ hx)

set_option maxHeartbeats 4000000 in
theorem agrees_any (H : Hp) (c : Cs) (hB : c.Base) (nl2 clip2 : Bool) (gs : List Int) (lo hi : Int) (hg : Tame gs) : ∀ (n : Nat) (clip : Bool) (w : List Int), w.length < 1000000 → c.Blotted w → w.count (-1) = n →
    CallV Tryz.prog 64 [.agg (c.meas nl2 clip2 gs lo hi), vints false clip w] H (fun r H' => r = .bool (agreesF c gs lo hi n w) ∧ H' = H)
  | 0, clip, w, hl, hw, h0 => by
    have hi0 := index_any H false clip w hl (-1)
    rw [show firstN (fun k => (-1 : Int) == w.getD k 0) 0 w.length = -1 from blotAt_none h0] at hi0
    have hlt : ((-1 : Int) < 0) := by omega
    have hr := hB.rim
    have hsum := (Cs.widths_tame hB.w (hw.letters h0) hl).sum
    have hgs := hg.sum
    refine CallV.body Tryz.func64 rfl Tryz.ntmps64 (by rfl) ?_
    refine WpV.seq (WpV.regionE (by simp only [go_sem, reduceCtorEq, Nat.reduceAdd, Nat.reduceMul, Nat.reduceSub, Nat.reduceLT, Nat.reduceLeDiff, Nat.reduceEqDiff, Nat.reduceBEq, Nat.reducePow]; rfl) (Marks.nil _) ?_)
    simp only [Vthen, VinBlock, if_true, if_false, Nat.reduceEqDiff, reduceCtorEq]
    refine WpV.seq (WpV.region ?_)
    refine WpOps.take 1 (by simp only [go_sem, reduceCtorEq, Nat.reduceAdd, Nat.reduceMul, Nat.reduceSub, Nat.reduceLT, Nat.reduceLeDiff, Nat.reduceEqDiff, Nat.reduceBEq, Nat.reducePow]; rfl) ?_
    refine WpOps.step (by rfl) (by rfl) (OpW.callY rfl (by rfl) (by rfl) (by rfl) (enters_of Tryz.func89 (by kernel_rfl) rfl) ((hi0).mono ?_))
    rintro _ _ ⟨rfl, hH⟩
    replace hH := hH.symm
    subst hH
    refine WpOps.take 1 (by simp only [go_sem, reduceCtorEq, Nat.reduceAdd, Nat.reduceMul, Nat.reduceSub, Nat.reduceLT, Nat.reduceLeDiff, Nat.reduceEqDiff, Nat.reduceBEq, Nat.reducePow]; rfl) (WpOps.nil ⟨Marks.nil _, ?_⟩)
    simp only [Vthen, VinBlock, if_true, if_false, Nat.reduceEqDiff, reduceCtorEq]
    refine WpV.seq ?_
    refine WpV.seq (WpV.regionE (by simp only [go_sem, reduceCtorEq, Nat.reduceAdd, Nat.reduceMul, Nat.reduceSub, Nat.reduceLT, Nat.reduceLeDiff, Nat.reduceEqDiff, Nat.reduceBEq, Nat.reducePow, hlt]; rfl) (Marks.nil _) ?_)
    simp only [Vthen, VinBlock, if_true, if_false, Nat.reduceEqDiff, reduceCtorEq]
    refine WpV.cond rfl (fun hb => ?_) (fun hb => by cases hb)
    refine WpV.seq (WpV.regionD Tryz.mixed (by kernel_rfl) (by kernel_rfl) ?_)
    refine LexD.take 8 (by rfl) (by simp only [go_sem, reduceCtorEq, Nat.reduceAdd, Nat.reduceMul, Nat.reduceSub, Nat.reduceLT, Nat.reduceLeDiff, Nat.reduceEqDiff, Nat.reduceBEq, Nat.reducePow]; rfl) ?_
    refine LexD.take 8 (by rfl) (by simp only [go_sem, reduceCtorEq, Nat.reduceAdd, Nat.reduceMul, Nat.reduceSub, Nat.reduceLT, Nat.reduceLeDiff, Nat.reduceEqDiff, Nat.reduceBEq, Nat.reducePow]; rfl) ?_
    refine LexD.step (by rfl) (by rfl) (OpW.callY rfl (by rfl) (by rfl) (by rfl) (enters_of Tryz.func59 (by kernel_rfl) rfl) (long_any H c hB.w false clip nl2 clip2 w gs (hw.letters h0) hl hg)) ?_
    refine LexD.take 2 (by rfl) (by simp only [go_sem, reduceCtorEq, Nat.reduceAdd, Nat.reduceMul, Nat.reduceSub, Nat.reduceLT, Nat.reduceLeDiff, Nat.reduceEqDiff, Nat.reduceBEq, Nat.reducePow]; rfl) ?_
    refine LexD.step (by rfl) (by rfl) (OpW.callY rfl (by rfl) (by rfl) (by rfl) (enters_of Tryz.func49 (by kernel_rfl) rfl) (within_any H lo hi false true [_] (by simp))) ?_
    refine LexD.take 1 (by rfl) (by simp only [go_sem, reduceCtorEq, Nat.reduceAdd, Nat.reduceMul, Nat.reduceSub, Nat.reduceLT, Nat.reduceLeDiff, Nat.reduceEqDiff, Nat.reduceBEq, Nat.reducePow]; rfl) (LexD.nilE ⟨Marks.nil _, ?_⟩)
    simp only [Vthen, VinBlock, if_true, if_false, Nat.reduceEqDiff, reduceCtorEq]
    refine WpV.ret ⟨Marks.nil _, List.nodup_nil, _, by simp only [Tryz.results64]; simp only [go_sem, reduceCtorEq, Nat.reduceAdd, Nat.reduceMul, Nat.reduceSub, Nat.reduceLT, Nat.reduceLeDiff, Nat.reduceEqDiff, Nat.reduceBEq, Nat.reducePow]; rfl, ?_⟩
    refine ⟨?_, rfl⟩
    have : c.longF w gs = gs.sum + (w.map c.widthOf).sum := rfl
    rw [wrap64 (n := 2 * c.rim) (by omega), wrap64 (by omega)]
    simp [insB, agreesF]
  | n + 1, clip, w, hl, hw, h0 => by
    obtain ⟨at', hat, he, hat1⟩ := blotAt_some (w := w) (by omega)
    have hi0 := index_any H false clip w hl (-1)
    rw [show firstN (fun k => (-1 : Int) == w.getD k 0) 0 w.length = (at' : Int) from he] at hi0
    have hnl : ¬ ((at' : Int) < 0) := by omega
    have h8 := hB.len8
    refine CallV.body Tryz.func64 rfl Tryz.ntmps64 (by rfl) ?_
    refine WpV.seq (WpV.regionE (by simp only [go_sem, reduceCtorEq, Nat.reduceAdd, Nat.reduceMul, Nat.reduceSub, Nat.reduceLT, Nat.reduceLeDiff, Nat.reduceEqDiff, Nat.reduceBEq, Nat.reducePow]; rfl) (Marks.nil _) ?_)
    simp only [Vthen, VinBlock, if_true, if_false, Nat.reduceEqDiff, reduceCtorEq]
    refine WpV.seq (WpV.region ?_)
    refine WpOps.take 1 (by simp only [go_sem, reduceCtorEq, Nat.reduceAdd, Nat.reduceMul, Nat.reduceSub, Nat.reduceLT, Nat.reduceLeDiff, Nat.reduceEqDiff, Nat.reduceBEq, Nat.reducePow]; rfl) ?_
    refine WpOps.step (by rfl) (by rfl) (OpW.callY rfl (by rfl) (by rfl) (by rfl) (enters_of Tryz.func89 (by kernel_rfl) rfl) ((hi0).mono ?_))
    rintro _ _ ⟨rfl, hH⟩
    replace hH := hH.symm
    subst hH
    refine WpOps.take 1 (by simp only [go_sem, reduceCtorEq, Nat.reduceAdd, Nat.reduceMul, Nat.reduceSub, Nat.reduceLT, Nat.reduceLeDiff, Nat.reduceEqDiff, Nat.reduceBEq, Nat.reducePow]; rfl) (WpOps.nil ⟨Marks.nil _, ?_⟩)
    simp only [Vthen, VinBlock, if_true, if_false, Nat.reduceEqDiff, reduceCtorEq]
    refine WpV.seq ?_
    refine WpV.seq (WpV.regionE (by simp only [go_sem, reduceCtorEq, Nat.reduceAdd, Nat.reduceMul, Nat.reduceSub, Nat.reduceLT, Nat.reduceLeDiff, Nat.reduceEqDiff, Nat.reduceBEq, Nat.reducePow, hnl]; rfl) (Marks.nil _) ?_)
    simp only [Vthen, VinBlock, if_true, if_false, Nat.reduceEqDiff, reduceCtorEq]
    refine WpV.cond rfl (fun hb => by cases hb) (fun hb => WpV.skip ?_)
    simp only [Vthen, VinBlock, if_true, if_false, Nat.reduceEqDiff, reduceCtorEq]
    refine WpV.seq ?_
    refine WpV.seq (WpV.regionE (by simp only [go_sem, reduceCtorEq, Nat.reduceAdd, Nat.reduceMul, Nat.reduceSub, Nat.reduceLT, Nat.reduceLeDiff, Nat.reduceEqDiff, Nat.reduceBEq, Nat.reducePow]; rfl) (Marks.nil _) ?_)
    simp only [Vthen, VinBlock, if_true, if_false, Nat.reduceEqDiff, reduceCtorEq]
    refine WpV.block (WpV.loopP c.ws.length (fun k => ∀ j, j < k → agreesF c gs lo hi n (w.set at' (j : Int)) = false) (fun k => [(1, vints false clip w), (2, .cp (c.meas nl2 clip2 gs lo hi) 0), (5, vint at'), (35, vint c.ws.length), (36, vint k)]) (fun _ => H) (fun j hj => absurd hj (Nat.not_lt_zero _)) ?_ rfl ?_)
    · exact .cons rfl rfl (.cons rfl rfl (.cons rfl rfl (.cons rfl rfl (.cons rfl rfl (.nil _)))))
    · intro k hk hp
      refine WpV.seq (WpV.regionE (by simp only [go_sem, reduceCtorEq, Nat.reduceAdd, Nat.reduceMul, Nat.reduceSub, Nat.reduceLT, Nat.reduceLeDiff, Nat.reduceEqDiff, Nat.reduceBEq, Nat.reducePow]; rfl) (Marks.nil _) ?_)
      simp only [Vthen, VinBlock, if_true, if_false, Nat.reduceEqDiff, reduceCtorEq]
      refine WpV.seq (WpV.cond rfl (fun hb => WpV.skip ?_) (fun hb => WpV.exit ?_))
      · have hlt : (k : Int) < (c.ws.length : Int) := of_decide_eq_true ‹_›
        have hlt' : k < c.ws.length := by omega
        have hcnt := count_set_blot hat (l := (k : Int)) hat1 (by omega)
        have hrec := agrees_any H c hB nl2 clip2 gs lo hi hg n false (w.set at' (k : Int)) (by simpa using hl) (hw.set ⟨by omega, hlt⟩) (by omega)
        simp only [Vthen, VinBlock, if_true, if_false, Nat.reduceEqDiff, reduceCtorEq]
        refine WpV.seq (WpV.block ?_)
        refine WpV.seq (WpV.regionE (by simp only [go_sem, reduceCtorEq, Nat.reduceAdd, Nat.reduceMul, Nat.reduceSub, Nat.reduceLT, Nat.reduceLeDiff, Nat.reduceEqDiff, Nat.reduceBEq, Nat.reducePow]; rfl) (Marks.nil _) ?_)
        simp only [Vthen, VinBlock, if_true, if_false, Nat.reduceEqDiff, reduceCtorEq]
        refine WpV.seq (WpV.regionD Tryz.mixed (by kernel_rfl) (by kernel_rfl) ?_)
        refine LexD.take 4 (by rfl) (by simp only [go_sem, reduceCtorEq, Nat.reduceAdd, Nat.reduceMul, Nat.reduceSub, Nat.reduceLT, Nat.reduceLeDiff, Nat.reduceEqDiff, Nat.reduceBEq, Nat.reducePow]; rfl) ?_
        refine LexD.step (by rfl) (by rfl) (OpW.callY rfl (by rfl) (by rfl) (by rfl) (enters_of Tryz.func75 (by kernel_rfl) rfl) (replaced_any H clip w hl at' hat k)) ?_
        refine LexD.step (by rfl) (by rfl) (OpW.callY rfl (by rfl) (by rfl) (by rfl) (enters_of Tryz.func64 (by kernel_rfl) rfl) (hrec)) ?_
        refine LexD.nilE ⟨Marks.nil _, ?_⟩
        simp only [Vthen, VinBlock, if_true, if_false, Nat.reduceEqDiff, reduceCtorEq]
        refine WpV.cond rfl (fun hqk => ?_) (fun hqk => WpV.skip ?_)
        · refine WpV.seq (WpV.regionE (by simp only [go_sem, reduceCtorEq, Nat.reduceAdd, Nat.reduceMul, Nat.reduceSub, Nat.reduceLT, Nat.reduceLeDiff, Nat.reduceEqDiff, Nat.reduceBEq, Nat.reducePow]; rfl) (Marks.nil _) ?_)
          simp only [Vthen, VinBlock, if_true, if_false, Nat.reduceEqDiff, reduceCtorEq]
          refine WpV.ret ⟨Marks.nil _, List.nodup_nil, _, by simp only [Tryz.results64]; simp only [go_sem, reduceCtorEq, Nat.reduceAdd, Nat.reduceMul, Nat.reduceSub, Nat.reduceLT, Nat.reduceLeDiff, Nat.reduceEqDiff, Nat.reduceBEq, Nat.reducePow]; rfl, ?_⟩
          refine ⟨?_, rfl⟩
          simp only [agreesF, he]
          congr 1
          symm
          rw [List.any_eq_true]
          exact ⟨k, by simpa using hlt', hqk⟩
        · simp only [Vthen, VinBlock, if_true, if_false, Nat.reduceEqDiff, reduceCtorEq]
          refine WpV.regionE (by simp only [go_sem, reduceCtorEq, Nat.reduceAdd, Nat.reduceMul, Nat.reduceSub, Nat.reduceLT, Nat.reduceLeDiff, Nat.reduceEqDiff, Nat.reduceBEq, Nat.reducePow]; rfl) (Marks.nil _) ?_
          simp only [Vthen, VinBlock, if_true, if_false, Nat.reduceEqDiff, reduceCtorEq]
          refine ⟨by first | rfl | trivial, hlt', fun j hj => ?_, .cons rfl rfl (.cons rfl rfl (.cons rfl rfl (.cons rfl rfl (.cons rfl ?_ (.nil _))))), by first | rfl | trivial⟩
          · by_cases e : j = k
            · subst e; exact hqk
            · exact hp j (by omega)
          · rw [wrap64 (by omega)]; rfl
      · have hge : k = c.ws.length := by have := of_decide_eq_false ‹_›; omega
        simp only [Vthen, VinBlock, if_true, if_false, Nat.reduceEqDiff, reduceCtorEq]
        refine WpV.seq (WpV.regionE (by simp only [go_sem, reduceCtorEq, Nat.reduceAdd, Nat.reduceMul, Nat.reduceSub, Nat.reduceLT, Nat.reduceLeDiff, Nat.reduceEqDiff, Nat.reduceBEq, Nat.reducePow]; rfl) (Marks.nil _) ?_)
        simp only [Vthen, VinBlock, if_true, if_false, Nat.reduceEqDiff, reduceCtorEq]
        refine WpV.ret ⟨Marks.nil _, List.nodup_nil, _, by simp only [Tryz.results64]; simp only [go_sem, reduceCtorEq, Nat.reduceAdd, Nat.reduceMul, Nat.reduceSub, Nat.reduceLT, Nat.reduceLeDiff, Nat.reduceEqDiff, Nat.reduceBEq, Nat.reducePow]; rfl, ?_⟩
        refine ⟨?_, rfl⟩
        simp only [agreesF, he]
        congr 1
        symm
        rw [List.any_eq_false]
        intro j hj
        have := hp j (by have := List.mem_range.1 hj; omega)
        simpa using this
end Go.Proofs.YtaekibilldjnmaaGreat
namespace Go.Proofs.YtaekibilldjnmaaGreat
open Go.Proofs

/-- The letters, among the first ones, that a blot at a place can be; n other blots. -/
def lettersN (c : Cs) (gs : List Int) (lo hi : Int) (n : Nat) (w : List Int) (p k : Nat) : List Int := ((List.range k).filter fun (l : Nat) => agreesF c gs lo hi n (w.set p (l : Int))).map (fun (i : Nat) => (i : Int))
theorem lettersN_succ (c : Cs) (gs : List Int) (lo hi : Int) (n : Nat) (w : List Int) (p k : Nat) : lettersN c gs lo hi n w p (k + 1) = lettersN c gs lo hi n w p k ++ (if agreesF c gs lo hi n (w.set p (k : Int)) then [(k : Int)] else []) := by
  unfold lettersN
  rw [List.range_succ, List.filter_append, List.map_append]
  congr 1
  simp only [List.filter_cons, List.filter_nil]
  split <;> simp
theorem lettersN_len (c : Cs) (gs : List Int) (lo hi : Int) (n : Nat) (w : List Int) (p k : Nat) : (lettersN c gs lo hi n w p k).length ≤ k := by
  unfold lettersN
  rw [List.length_map]
  exact Nat.le_trans (List.length_filter_le _ _) (by simp)
abbrev selfRow (L : List Int) : Row := (true && decide (L.length = 0), decide (L.length = 0), L)
def canF (c : Cs) (gs : List Int) (lo hi : Int) (n : Nat) (w : List Int) : List Row := (blotsF w).map fun p => selfRow (lettersN c gs lo hi n w p.toNat c.ws.length)

theorem blotsF_mem {w : List Int} {p : Int} (h : p ∈ blotsF w) : ∃ k, ∃ hk : k < w.length, p = (k : Int) ∧ w[k] = -1 := by
  unfold blotsF blotN at h
  obtain ⟨k, hk, rfl⟩ := List.mem_map.1 h
  rw [List.mem_filter, List.mem_range] at hk
  refine ⟨k, hk.1, rfl, ?_⟩
  have := hk.2
  rw [List.getD_eq_getElem?_getD, List.getElem?_eq_getElem hk.1, Option.getD_some] at this
  simpa using this

set_option maxHeartbeats 4000000 in
theorem can_any (H : Hp) (c : Cs) (hB : c.Base) (nl2 clip2 : Bool) (gs : List Int) (lo hi : Int) (hg : Tame gs) (n : Nat) (clip : Bool) (w : List Int) (hl : w.length < 1000000) (hw : c.Blotted w) (h0 : w.count (-1) = n + 1) :
    CallV Tryz.prog 65 [.agg (c.meas nl2 clip2 gs lo hi), vints false clip w] H (fun r H' => r = .sl (true && decide ((canF c gs lo hi n w).length = 0)) (decide ((canF c gs lo hi n w).length = 0)) (canF c gs lo hi n w).length ((canF c gs lo hi n w).map rowV) ∧ H' = H) := by
  have h8 := hB.len8
  have hbl : (blotsF w).length ≤ w.length := blotN_len w w.length
  generalize hbs : blotsF w = bs at hbl
  have hbs' : bs.length ≤ w.length := hbl
  have hcan : canF c gs lo hi n w = bs.map fun p => selfRow (lettersN c gs lo hi n w p.toNat c.ws.length) := by rw [← hbs]; rfl
  have hb1 := blots_any H false clip w hl
  rw [hbs] at hb1
  refine CallV.body Tryz.func65 rfl Tryz.ntmps65 (by rfl) ?_
  refine WpV.seq (WpV.regionE (by simp only [go_sem, reduceCtorEq, Nat.reduceAdd, Nat.reduceMul, Nat.reduceSub, Nat.reduceLT, Nat.reduceLeDiff, Nat.reduceEqDiff, Nat.reduceBEq, Nat.reducePow]; rfl) (Marks.nil _) ?_)
  simp only [Vthen, VinBlock, if_true, if_false, Nat.reduceEqDiff, reduceCtorEq]
  refine WpV.seq (WpV.regionE (by simp only [go_sem, reduceCtorEq, Nat.reduceAdd, Nat.reduceMul, Nat.reduceSub, Nat.reduceLT, Nat.reduceLeDiff, Nat.reduceEqDiff, Nat.reduceBEq, Nat.reducePow]; rfl) (Marks.nil _) ?_)
  simp only [Vthen, VinBlock, if_true, if_false, Nat.reduceEqDiff, reduceCtorEq]
  refine WpV.seq ?_
  refine WpV.seq (WpV.region ?_)
  refine WpOps.take 1 (by simp only [go_sem, reduceCtorEq, Nat.reduceAdd, Nat.reduceMul, Nat.reduceSub, Nat.reduceLT, Nat.reduceLeDiff, Nat.reduceEqDiff, Nat.reduceBEq, Nat.reducePow]; rfl) ?_
  refine WpOps.step (by rfl) (by rfl) (OpW.callY rfl (by rfl) (by rfl) (by rfl) (enters_of Tryz.func88 (by kernel_rfl) rfl) ((hb1).mono ?_))
  rintro _ _ ⟨rfl, hH⟩
  replace hH := hH.symm
  subst hH
  refine WpOps.take 2 (by simp only [go_sem, reduceCtorEq, Nat.reduceAdd, Nat.reduceMul, Nat.reduceSub, Nat.reduceLT, Nat.reduceLeDiff, Nat.reduceEqDiff, Nat.reduceBEq, Nat.reducePow]; rfl) (WpOps.nil ⟨Marks.nil _, ?_⟩)
  simp only [Vthen, VinBlock, if_true, if_false, Nat.reduceEqDiff, reduceCtorEq]
  generalize hfb : decide (bs.length = 0) = fb
  refine WpV.block (WpV.loopB (H0 := H) 29 1 true bs.length (fun _ => True) (fun k => k) (fun k => ((bs.take k).map fun p => selfRow (lettersN c gs lo hi n w p.toNat c.ws.length)).map rowV) (fun k v => [(1, vints false clip w), (2, .cp (c.meas nl2 clip2 gs lo hi) 0), (5, v), (11, vints fb fb bs), (12, vint bs.length), (13, vint k)]) trivial (Bld.nil H 29 1 true) ?_ ?_)
  · exact .cons rfl rfl (.cons rfl rfl (.cons rfl rfl (.cons rfl rfl (.cons rfl rfl (.cons rfl rfl (.nil _))))))
  · intro k hk _ v H1 hB1
    refine WpV.seq (WpV.regionE (by simp only [go_sem, reduceCtorEq, Nat.reduceAdd, Nat.reduceMul, Nat.reduceSub, Nat.reduceLT, Nat.reduceLeDiff, Nat.reduceEqDiff, Nat.reduceBEq, Nat.reducePow]; rfl) (Marks.nil _) ?_)
    simp only [Vthen, VinBlock, if_true, if_false, Nat.reduceEqDiff, reduceCtorEq]
    refine WpV.seq (WpV.cond rfl (fun hb => WpV.skip ?_) (fun hb => WpV.exit ?_))
    · have hlt : (k : Int) < (bs.length : Int) := of_decide_eq_true ‹_›
      have hlt' : k < bs.length := by omega
      have hgt := ints_get bs hlt'
      obtain ⟨p, hp, hpe, hpb⟩ := blotsF_mem (w := w) (p := bs[k]) (by rw [hbs]; exact List.getElem_mem _)
      rw [hpe] at hgt
      simp only [Vthen, VinBlock, if_true, if_false, Nat.reduceEqDiff, reduceCtorEq]
      refine WpV.seq (WpV.block ?_)
      refine WpV.seq (WpV.regionE (by simp only [go_sem, reduceCtorEq, Nat.reduceAdd, Nat.reduceMul, Nat.reduceSub, Nat.reduceLT, Nat.reduceLeDiff, Nat.reduceEqDiff, Nat.reduceBEq, Nat.reducePow, hlt, hgt]; rfl) (Marks.nil _) ?_)
      simp only [Vthen, VinBlock, if_true, if_false, Nat.reduceEqDiff, reduceCtorEq]
      refine WpV.seq (WpV.regionE (by simp only [go_sem, reduceCtorEq, Nat.reduceAdd, Nat.reduceMul, Nat.reduceSub, Nat.reduceLT, Nat.reduceLeDiff, Nat.reduceEqDiff, Nat.reduceBEq, Nat.reducePow]; rfl) (Marks.nil _) ?_)
      simp only [Vthen, VinBlock, if_true, if_false, Nat.reduceEqDiff, reduceCtorEq]
      refine WpV.seq ?_
      refine WpV.seq (WpV.regionE (by simp only [go_sem, reduceCtorEq, Nat.reduceAdd, Nat.reduceMul, Nat.reduceSub, Nat.reduceLT, Nat.reduceLeDiff, Nat.reduceEqDiff, Nat.reduceBEq, Nat.reducePow]; rfl) (Marks.nil _) ?_)
      simp only [Vthen, VinBlock, if_true, if_false, Nat.reduceEqDiff, reduceCtorEq]
      refine WpV.block (WpV.loopB (H0 := H1) 3 1 true c.ws.length (fun _ => True) (fun j => (lettersN c gs lo hi n w p j).length) (fun j => (lettersN c gs lo hi n w p j).map vint) (fun j u => [(1, vints false clip w), (2, .cp (c.meas nl2 clip2 gs lo hi) 0), (5, v), (7, vint p), (8, u), (11, vints fb fb bs), (12, vint bs.length), (13, vint k), (21, vint c.ws.length), (22, vint j)]) trivial (Bld.nil H1 3 1 true) ?_ ?_)
      · exact .cons rfl rfl (.cons rfl rfl (.cons rfl rfl (.cons rfl rfl (.cons rfl rfl (.cons rfl rfl (.cons rfl rfl (.cons rfl rfl (.cons rfl rfl (.cons rfl rfl (.nil _))))))))))
      · intro j hj _ u H2 hB2
        refine WpV.seq (WpV.regionE (by simp only [go_sem, reduceCtorEq, Nat.reduceAdd, Nat.reduceMul, Nat.reduceSub, Nat.reduceLT, Nat.reduceLeDiff, Nat.reduceEqDiff, Nat.reduceBEq, Nat.reducePow]; rfl) (Marks.nil _) ?_)
        simp only [Vthen, VinBlock, if_true, if_false, Nat.reduceEqDiff, reduceCtorEq]
        refine WpV.seq (WpV.cond rfl (fun hb => WpV.skip ?_) (fun hb => WpV.exit ?_))
        · have hjt : (j : Int) < (c.ws.length : Int) := of_decide_eq_true ‹_›
          have hjt' : j < c.ws.length := by omega
          have hcnt := count_set_blot hp (l := (j : Int)) hpb (by omega)
          have hll := lettersN_len c gs lo hi n w p j
          have hrec := agrees_any H2 c hB nl2 clip2 gs lo hi hg n false (w.set p (j : Int)) (by simpa using hl) (hw.set ⟨by omega, hjt⟩) (by omega)
          simp only [Vthen, VinBlock, if_true, if_false, Nat.reduceEqDiff, reduceCtorEq]
          refine WpV.seq (WpV.block ?_)
          refine WpV.seq (WpV.regionE (by simp only [go_sem, reduceCtorEq, Nat.reduceAdd, Nat.reduceMul, Nat.reduceSub, Nat.reduceLT, Nat.reduceLeDiff, Nat.reduceEqDiff, Nat.reduceBEq, Nat.reducePow]; rfl) (Marks.nil _) ?_)
          simp only [Vthen, VinBlock, if_true, if_false, Nat.reduceEqDiff, reduceCtorEq]
          refine WpV.seq (WpV.regionD Tryz.mixed (by kernel_rfl) (by kernel_rfl) ?_)
          refine LexD.take 4 (by rfl) (by simp only [go_sem, reduceCtorEq, Nat.reduceAdd, Nat.reduceMul, Nat.reduceSub, Nat.reduceLT, Nat.reduceLeDiff, Nat.reduceEqDiff, Nat.reduceBEq, Nat.reducePow]; rfl) ?_
          refine LexD.step (by rfl) (by rfl) (OpW.callY rfl (by rfl) (by rfl) (by rfl) (enters_of Tryz.func75 (by kernel_rfl) rfl) (replaced_any H2 clip w hl p hp j)) ?_
          refine LexD.step (by rfl) (by rfl) (OpW.callY rfl (by rfl) (by rfl) (by rfl) (enters_of Tryz.func64 (by kernel_rfl) rfl) (hrec)) ?_
          refine LexD.nilE ⟨Marks.nil _, ?_⟩
          simp only [Vthen, VinBlock, if_true, if_false, Nat.reduceEqDiff, reduceCtorEq]
          refine WpV.cond rfl (fun hqk => ?_) (fun hqk => WpV.skip ?_)
          · refine WpV.region ?_
            refine WpOps.take 3 (by simp only [go_sem, reduceCtorEq, Nat.reduceAdd, Nat.reduceMul, Nat.reduceSub, Nat.reduceLT, Nat.reduceLeDiff, Nat.reduceEqDiff, Nat.reduceBEq, Nat.reducePow]; rfl) ?_
            refine WpOps.step (by rfl) (by rfl) (OpW.appendB (m := 1) (ys := [vint j]) rfl hB2 rfl rfl rfl (Tryz.el29 (by omega)) Tryz.underlying29 rfl rfl (by decide) (fun v' H' hB' => ?_))
            refine WpOps.take 1 (by simp only [go_sem, reduceCtorEq, Nat.reduceAdd, Nat.reduceMul, Nat.reduceSub, Nat.reduceLT, Nat.reduceLeDiff, Nat.reduceEqDiff, Nat.reduceBEq, Nat.reducePow]; rfl) (WpOps.nil ⟨Marks.nil _, ?_⟩)
            simp only [Vthen, VinBlock, if_true, if_false, Nat.reduceEqDiff, reduceCtorEq]
            refine WpV.regionE (by simp only [go_sem, reduceCtorEq, Nat.reduceAdd, Nat.reduceMul, Nat.reduceSub, Nat.reduceLT, Nat.reduceLeDiff, Nat.reduceEqDiff, Nat.reduceBEq, Nat.reducePow]; rfl) (Marks.nil _) ?_
            simp only [Vthen, VinBlock, if_true, if_false, Nat.reduceEqDiff, reduceCtorEq]
            refine ⟨by first | rfl | trivial, hjt', trivial, v', ?_, .cons rfl rfl (.cons rfl rfl (.cons rfl rfl (.cons rfl rfl (.cons rfl rfl (.cons rfl rfl (.cons rfl rfl (.cons rfl rfl (.cons rfl rfl (.cons rfl ?_ (.nil _))))))))))⟩
            · rw [lettersN_succ, if_pos hqk, List.length_append, List.map_append]; exact hB'
            · rw [wrap64 (by omega)]; rfl
          · simp only [Vthen, VinBlock, if_true, if_false, Nat.reduceEqDiff, reduceCtorEq]
            refine WpV.regionE (by simp only [go_sem, reduceCtorEq, Nat.reduceAdd, Nat.reduceMul, Nat.reduceSub, Nat.reduceLT, Nat.reduceLeDiff, Nat.reduceEqDiff, Nat.reduceBEq, Nat.reducePow]; rfl) (Marks.nil _) ?_
            simp only [Vthen, VinBlock, if_true, if_false, Nat.reduceEqDiff, reduceCtorEq]
            refine ⟨by first | rfl | trivial, hjt', trivial, u, ?_, .cons rfl rfl (.cons rfl rfl (.cons rfl rfl (.cons rfl rfl (.cons rfl rfl (.cons rfl rfl (.cons rfl rfl (.cons rfl rfl (.cons rfl rfl (.cons rfl ?_ (.nil _))))))))))⟩
            · rw [lettersN_succ, if_neg (by rw [hqk]; decide), List.append_nil]; exact hB2
            · rw [wrap64 (by omega)]; rfl
        · have hge : j = c.ws.length := by have := of_decide_eq_false ‹_›; omega
          subst hge
          simp only [Vthen, VinBlock, if_true, if_false, Nat.reduceEqDiff, reduceCtorEq]
          refine WpV.pre (hB2.frz (t := 8) rfl) (Marks.nil _) ?_
          refine WpV.region ?_
          refine WpOps.take 3 (by simp only [go_sem, reduceCtorEq, Nat.reduceAdd, Nat.reduceMul, Nat.reduceSub, Nat.reduceLT, Nat.reduceLeDiff, Nat.reduceEqDiff, Nat.reduceBEq, Nat.reducePow]; rfl) ?_
          refine WpOps.step (by rfl) (by rfl) (OpW.appendB (m := 1) (ys := [rowV (selfRow (lettersN c gs lo hi n w p c.ws.length))]) rfl hB1 rfl (by simp only [go_sem, reduceCtorEq, Nat.reduceAdd, Nat.reduceMul, Nat.reduceSub, Nat.reduceLT, Nat.reduceLeDiff, Nat.reduceEqDiff, Nat.reduceBEq, Nat.reducePow, List.length_map]; rfl) rfl (Tryz.el60 (by omega)) Tryz.underlying60 rfl rfl (by decide) (fun v' H' hB' => ?_))
          refine WpOps.take 1 (by simp only [go_sem, reduceCtorEq, Nat.reduceAdd, Nat.reduceMul, Nat.reduceSub, Nat.reduceLT, Nat.reduceLeDiff, Nat.reduceEqDiff, Nat.reduceBEq, Nat.reducePow]; rfl) (WpOps.nil ⟨Marks.nil _, ?_⟩)
          simp only [Vthen, VinBlock, if_true, if_false, Nat.reduceEqDiff, reduceCtorEq]
          refine WpV.regionE (by simp only [go_sem, reduceCtorEq, Nat.reduceAdd, Nat.reduceMul, Nat.reduceSub, Nat.reduceLT, Nat.reduceLeDiff, Nat.reduceEqDiff, Nat.reduceBEq, Nat.reducePow]; rfl) (Marks.nil _) ?_
          simp only [Vthen, VinBlock, if_true, if_false, Nat.reduceEqDiff, reduceCtorEq]
          refine ⟨by first | rfl | trivial, hlt', trivial, v', ?_, .cons rfl rfl (.cons rfl rfl (.cons rfl rfl (.cons rfl rfl (.cons rfl rfl (.cons rfl ?_ (.nil _))))))⟩
          · rw [List.take_add_one, List.getElem?_eq_getElem hlt', hpe]
            simp only [Option.toList_some, List.map_append, List.map_cons, List.map_nil, Int.toNat_natCast]
            exact hB'
          · rw [wrap64 (by omega)]; rfl
    · have hge : k = bs.length := by have := of_decide_eq_false ‹_›; omega
      subst hge
      rw [List.take_length] at hB1
      simp only [Vthen, VinBlock, if_true, if_false, Nat.reduceEqDiff, reduceCtorEq]
      refine WpV.seq (WpV.regionE (by simp only [go_sem, reduceCtorEq, Nat.reduceAdd, Nat.reduceMul, Nat.reduceSub, Nat.reduceLT, Nat.reduceLeDiff, Nat.reduceEqDiff, Nat.reduceBEq, Nat.reducePow]; rfl) (Marks.nil _) ?_)
      simp only [Vthen, VinBlock, if_true, if_false, Nat.reduceEqDiff, reduceCtorEq]
      refine WpV.pre (hB1.frz (t := 4) rfl) (Marks.nil _) ?_
      refine WpV.ret ⟨Marks.nil _, List.nodup_nil, _, by simp only [Tryz.results65]; simp only [go_sem, reduceCtorEq, Nat.reduceAdd, Nat.reduceMul, Nat.reduceSub, Nat.reduceLT, Nat.reduceLeDiff, Nat.reduceEqDiff, Nat.reduceBEq, Nat.reducePow]; rfl, ?_⟩
      rw [hcan, List.length_map]
      exact ⟨rfl, rfl⟩
end Go.Proofs.YtaekibilldjnmaaGreat
namespace Go.Proofs.YtaekibilldjnmaaGreat
open Go.Proofs

set_option maxHeartbeats 4000000 in
theorem Can_any (H : Hp) (c : Cs) (hc : c.Valid) (nl2 clip clip2 : Bool) (w gs : List Int) (lo hi : Int) (hl : w.length < 1000000) (hg : Tame gs) (hm : Meas c w gs lo hi) (hw : c.Blotted w) (n : Nat) (h0 : w.count (-1) = n + 1) (hag : agreesF c gs lo hi (n + 1) w = true) :
    CallV Tryz.prog 41 [.agg c.cells, vints false clip w, vints nl2 clip2 gs, .agg [vint lo, vint hi]] H
      (fun r H' => r = .tup [.sl (true && decide ((canF c gs lo hi n w).length = 0)) (decide ((canF c gs lo hi n w).length = 0)) (canF c gs lo hi n w).length ((canF c gs lo hi n w).map rowV), vint 0] ∧ H' = H) := by
  have hB := Cs.base_iff.1 hc.base
  refine CallV.body Tryz.func41 rfl Tryz.ntmps41 (by rfl) ?_
  refine WpV.seq (WpV.regionE (by simp only [go_sem, reduceCtorEq, Nat.reduceAdd, Nat.reduceMul, Nat.reduceSub, Nat.reduceLT, Nat.reduceLeDiff, Nat.reduceEqDiff, Nat.reduceBEq, Nat.reducePow]; rfl) (Marks.nil _) ?_)
  simp only [Vthen, VinBlock, if_true, if_false, Nat.reduceEqDiff, reduceCtorEq]
  refine WpV.seq ?_
  refine WpV.seq (WpV.region ?_)
  refine WpOps.take 4 (by simp only [go_sem, reduceCtorEq, Nat.reduceAdd, Nat.reduceMul, Nat.reduceSub, Nat.reduceLT, Nat.reduceLeDiff, Nat.reduceEqDiff, Nat.reduceBEq, Nat.reducePow]; rfl) ?_
  refine WpOps.step (by rfl) (by rfl) (OpW.callY rfl (by rfl) (by rfl) (by rfl) (enters_of Tryz.func63 (by kernel_rfl) rfl) ((checkMeasured_ok H c hc false clip nl2 clip2 w gs lo hi hl hg.1 hm).mono ?_))
  rintro _ _ ⟨rfl, hH⟩
  replace hH := hH.symm
  subst hH
  refine WpOps.take 1 (by simp only [go_sem, reduceCtorEq, Nat.reduceAdd, Nat.reduceMul, Nat.reduceSub, Nat.reduceLT, Nat.reduceLeDiff, Nat.reduceEqDiff, Nat.reduceBEq, Nat.reducePow]; rfl) (WpOps.nil ⟨Marks.nil _, ?_⟩)
  simp only [Vthen, VinBlock, if_true, if_false, Nat.reduceEqDiff, reduceCtorEq]
  refine WpV.seq (WpV.regionE (by simp only [go_sem, reduceCtorEq, Nat.reduceAdd, Nat.reduceMul, Nat.reduceSub, Nat.reduceLT, Nat.reduceLeDiff, Nat.reduceEqDiff, Nat.reduceBEq, Nat.reducePow]; rfl) (Marks.nil _) ?_)
  simp only [Vthen, VinBlock, if_true, if_false, Nat.reduceEqDiff, reduceCtorEq]
  refine WpV.cond rfl (fun hb => by cases hb) (fun hb => WpV.skip ?_)
  simp only [Vthen, VinBlock, if_true, if_false, Nat.reduceEqDiff, reduceCtorEq]
  refine WpV.seq (WpV.regionAN 5 (oa := _) (os := _) (d := 11) (y := .tmp 24) (t := 112) (zs := _) Tryz.mixed (by kernel_rfl) (by kernel_rfl) rfl rfl rfl rfl rfl (by decide) rfl rfl rfl (by decide) Tryz.ze112 (Marks.nil _) ?_)
  refine LexU.take 1 (by rfl) (by rfl) (fun H => by simp only [go_sem, reduceCtorEq, Nat.reduceAdd, Nat.reduceMul, Nat.reduceSub, Nat.reduceLT, Nat.reduceLeDiff, Nat.reduceEqDiff, Nat.reduceBEq, Nat.reducePow]; rfl) ?_
  refine LexU.step (by rfl) (by rfl) (by rfl) (fun H => OpW.callY rfl (by rfl) (by rfl) (by rfl) (enters_of Tryz.func35 (by kernel_rfl) rfl) (box_of H c hc.ok hc.keys)) ?_
  refine LexU.take 3 (by rfl) (by rfl) (fun H => by simp only [go_sem, reduceCtorEq, Nat.reduceAdd, Nat.reduceMul, Nat.reduceSub, Nat.reduceLT, Nat.reduceLeDiff, Nat.reduceEqDiff, Nat.reduceBEq, Nat.reducePow]; rfl) ?_
  refine LexU.nilE ⟨_, _, rfl, fun _ => rfl, by simp only [go_sem, reduceCtorEq, Nat.reduceAdd, Nat.reduceMul, Nat.reduceSub, Nat.reduceLT, Nat.reduceLeDiff, Nat.reduceEqDiff, Nat.reduceBEq, Nat.reducePow]; rfl, by exact Tryz.sz112, by simp, fun id hid => ?_⟩
  simp only [Vthen, VinBlock, if_true, if_false, Nat.reduceEqDiff, reduceCtorEq]
  refine WpV.pre (Frz.ptr (t := 11) rfl (Hp.set_eq _ _ _)) (Marks.nil _) ?_
  rw [Hp.set_set, Hp.set_same _ _ _ hid]
  have hA := agrees_any H c hB nl2 clip2 gs lo hi hg (n + 1) clip w hl hw h0
  rw [hag] at hA
  refine WpV.seq ?_
  refine WpV.seq (WpV.region ?_)
  refine WpOps.take 2 (by simp only [go_sem, reduceCtorEq, Nat.reduceAdd, Nat.reduceMul, Nat.reduceSub, Nat.reduceLT, Nat.reduceLeDiff, Nat.reduceEqDiff, Nat.reduceBEq, Nat.reducePow]; rfl) ?_
  refine WpOps.step (by rfl) (by rfl) (OpW.callY rfl (by rfl) (by rfl) (by rfl) (enters_of Tryz.func64 (by kernel_rfl) rfl) ((hA).mono ?_))
  rintro _ _ ⟨rfl, hH⟩
  replace hH := hH.symm
  subst hH
  refine WpOps.take 1 (by simp only [go_sem, reduceCtorEq, Nat.reduceAdd, Nat.reduceMul, Nat.reduceSub, Nat.reduceLT, Nat.reduceLeDiff, Nat.reduceEqDiff, Nat.reduceBEq, Nat.reducePow]; rfl) (WpOps.nil ⟨Marks.nil _, ?_⟩)
  simp only [Vthen, VinBlock, if_true, if_false, Nat.reduceEqDiff, reduceCtorEq]
  refine WpV.cond rfl (fun hb => by cases hb) (fun hb => WpV.skip ?_)
  simp only [Vthen, VinBlock, if_true, if_false, Nat.reduceEqDiff, reduceCtorEq]
  refine WpV.seq (WpV.region ?_)
  refine WpOps.take 2 (by simp only [go_sem, reduceCtorEq, Nat.reduceAdd, Nat.reduceMul, Nat.reduceSub, Nat.reduceLT, Nat.reduceLeDiff, Nat.reduceEqDiff, Nat.reduceBEq, Nat.reducePow]; rfl) ?_
  refine WpOps.step (by rfl) (by rfl) (OpW.callY rfl (by rfl) (by rfl) (by rfl) (enters_of Tryz.func65 (by kernel_rfl) rfl) ((can_any H c hB nl2 clip2 gs lo hi hg n clip w hl hw h0).mono ?_))
  rintro _ _ ⟨rfl, hH⟩
  replace hH := hH.symm
  subst hH
  refine WpOps.take 2 (by simp only [go_sem, reduceCtorEq, Nat.reduceAdd, Nat.reduceMul, Nat.reduceSub, Nat.reduceLT, Nat.reduceLeDiff, Nat.reduceEqDiff, Nat.reduceBEq, Nat.reducePow]; rfl) (WpOps.nil ⟨Marks.nil _, ?_⟩)
  simp only [Vthen, VinBlock, if_true, if_false, Nat.reduceEqDiff, reduceCtorEq]
  refine WpV.ret ⟨Marks.nil _, List.nodup_nil, _, by simp only [Tryz.results41]; simp only [go_sem, reduceCtorEq, Nat.reduceAdd, Nat.reduceMul, Nat.reduceSub, Nat.reduceLT, Nat.reduceLeDiff, Nat.reduceEqDiff, Nat.reduceBEq, Nat.reducePow]; rfl, ?_⟩
  exact ⟨rfl, rfl⟩
end Go.Proofs.YtaekibilldjnmaaGreat
namespace Go.Proofs.YtaekibilldjnmaaGreat
open Go.Proofs

def Cs.moreOf (c : Cs) (a b : Int) : Int := match c.ps.find? (fun p => p.1 == a && p.2.1 == b) with | some p => p.2.2 | none => 0
theorem nodup_key : ∀ {ps : List (Int × Int × Int)}, (ps.map fun p => (p.1, p.2.1)).Nodup → ∀ p ∈ ps, ∀ q ∈ ps, p.1 = q.1 → p.2.1 = q.2.1 → p = q
  | [], _, p, hp, _, _, _, _ => by cases hp
  | x :: ps, h, p, hp, q, hq, h1, h2 => by
    rw [List.map_cons, List.nodup_cons] at h
    rcases List.mem_cons.1 hp with rfl | hp' <;> rcases List.mem_cons.1 hq with rfl | hq'
    · rfl
    · exact absurd (List.mem_map.2 ⟨q, hq', by rw [h1, h2]⟩) h.1
    · exact absurd (List.mem_map.2 ⟨p, hp', by rw [h1, h2]⟩) h.1
    · exact nodup_key h.2 p hp' q hq' h1 h2
theorem Cs.moreOf_mem {c : Cs} (hk : KeysOk c.ps) {p : Int × Int × Int} (hp : p ∈ c.ps) {a b : Int} (h1 : p.1 = a) (h2 : p.2.1 = b) : c.moreOf a b = p.2.2 := by
  unfold Cs.moreOf
  cases e : c.ps.find? (fun p => p.1 == a && p.2.1 == b) with
  | none => exact absurd (List.find?_eq_none.1 e p hp) (by simp [h1, h2])
  | some q =>
    have hq := List.find?_some e
    simp only [Bool.and_eq_true, beq_iff_eq] at hq
    have := nodup_key hk.2 q (List.mem_of_find?_eq_some e) p hp (by rw [hq.1, h1]) (by rw [hq.2, h2])
    rw [this]
theorem Cs.moreOf_none {c : Cs} {a b : Int} (h : ∀ p ∈ c.ps, ¬ (p.1 = a ∧ p.2.1 = b)) : c.moreOf a b = 0 := by
  unfold Cs.moreOf
  rw [List.find?_eq_none.2 fun p hp => by have := h p hp; simpa using this]

theorem more_at {H : Hp} {c : Cs} (hk : KeysOk c.ps) {o : Oper} {ev : Operand → Option AV} {m k : Operand} {a b : Int} (ho : o.op = .lookup 76 m k false) (hm : ev m = some (.fm (c.ps.map keyP) (c.ps.map moreP))) (hkk : ev k = some (.agg [vint a, vint b])) (ha : Small a) (hb : Small b) :
    OpW Tryz.prog o ev H (fun x' H' => x' = vint (c.moreOf a b) ∧ H' = H) := by
  refine OpW.lookup (z0 := vint 0) ho hm rfl hkk rfl (Tryz.key106 ha hb) (Tryz.keys76 hk.1) (by kernel_rfl) ?_ ?_
  · intro j y z hj hz hy
    rw [List.getElem?_map] at hj hz
    obtain ⟨p, hp, rfl⟩ := Option.map_eq_some_iff.1 hj
    rw [hp] at hz
    cases hz
    obtain ⟨e1, e2⟩ := keyP_conc hy
    exact ⟨by rw [Cs.moreOf_mem hk (List.mem_of_getElem? hp) e1 e2]; rfl, rfl⟩
  · intro hno
    refine ⟨?_, rfl⟩
    rw [Cs.moreOf_none fun p hp h => ?_]
    obtain ⟨j, hj, e⟩ := List.getElem_of_mem hp
    refine hno j (keyP p) (by rw [List.getElem?_map, List.getElem?_eq_getElem hj, e]; rfl) ?_
    rw [← h.1, ← h.2]; rfl

def Cs.moreN (c : Cs) (w : List Int) (k : Nat) : List Int := (List.range k).map fun i => c.moreOf (w.getD i 0) (w.getD (i + 1) 0)
abbrev Cs.mores (c : Cs) (w : List Int) : List Int := c.moreN w (w.length - 1)
theorem Cs.moreN_succ (c : Cs) (w : List Int) (k : Nat) : c.moreN w (k + 1) = c.moreN w k ++ [c.moreOf (w.getD k 0) (w.getD (k + 1) 0)] := by
  unfold Cs.moreN; rw [List.range_succ, List.map_append]; rfl
theorem Cs.moreN_len (c : Cs) (w : List Int) (k : Nat) : (c.moreN w k).length = k := by simp [Cs.moreN]
theorem two_at (w : List Int) (k : Nat) (h : k + 1 < w.length) : ((w.map vint).drop k).take 2 = [vint (w.getD k 0), vint (w.getD (k + 1) 0)] := by
  have h0 : k < w.length := by omega
  rw [List.drop_eq_getElem_cons (by simpa using h0), List.drop_eq_getElem_cons (by simpa using h)]
  simp [List.getD_eq_getElem?_getD, h0, h]

theorem mores_bld (H : Hp) (c : Cs) (hc : c.Fair) (nl clip : Bool) (w : List Int) (hl : w.length < 1000000) (hp : 0 < w.length) (hw : ∀ x ∈ w, Small x) :
    CallV Tryz.prog 67 [.agg c.box, vints nl clip w] H (fun r H' => Bld H 3 1 true (w.length - 1) ((c.mores w).map vint) r H') := by
  have hwr : IntKind.i64.wrap ((w.length : Int) - 1) = ((w.length - 1 : Nat) : Int) := by rw [wrap64 (by omega)]; omega
  refine CallV.body Tryz.func67 rfl Tryz.ntmps67 (by rfl) ?_
  refine WpV.seq (WpV.regionE (by simp only [go_sem, reduceCtorEq, Nat.reduceAdd, Nat.reduceMul, Nat.reduceSub, Nat.reduceLT, Nat.reduceLeDiff, Nat.reduceEqDiff, Nat.reduceBEq, Nat.reducePow]; rfl) (Marks.nil _) ?_)
  simp only [Vthen, VinBlock, if_true, if_false, Nat.reduceEqDiff, reduceCtorEq]
  refine WpV.seq (WpV.regionE (by simp only [go_sem, reduceCtorEq, Nat.reduceAdd, Nat.reduceMul, Nat.reduceSub, Nat.reduceLT, Nat.reduceLeDiff, Nat.reduceEqDiff, Nat.reduceBEq, Nat.reducePow]; rfl) (Marks.nil _) ?_)
  simp only [Vthen, VinBlock, if_true, if_false, Nat.reduceEqDiff, reduceCtorEq]
  refine WpV.seq ?_
  refine WpV.seq (WpV.regionE (by simp only [go_sem, reduceCtorEq, Nat.reduceAdd, Nat.reduceMul, Nat.reduceSub, Nat.reduceLT, Nat.reduceLeDiff, Nat.reduceEqDiff, Nat.reduceBEq, Nat.reducePow, hwr]; rfl) (Marks.nil _) ?_)
  simp only [Vthen, VinBlock, if_true, if_false, Nat.reduceEqDiff, reduceCtorEq]
  refine WpV.block (WpV.loopB 3 1 true (w.length - 1) (fun _ => True) (fun k => k) (fun k => (c.moreN w k).map vint) (fun k v => [(1, vints nl clip w), (2, .cp c.box 0), (5, v), (9, vint ((w.length - 1 : Nat) : Int)), (10, vint k)]) trivial (Bld.nil H 3 1 true) ?_ ?_)
  · exact .cons rfl rfl (.cons rfl rfl (.cons rfl rfl (.cons rfl rfl (.cons rfl rfl (.nil _)))))
  · intro k hk _ v H1 hB
    refine WpV.seq (WpV.regionE (by simp only [go_sem, reduceCtorEq, Nat.reduceAdd, Nat.reduceMul, Nat.reduceSub, Nat.reduceLT, Nat.reduceLeDiff, Nat.reduceEqDiff, Nat.reduceBEq, Nat.reducePow]; rfl) (Marks.nil _) ?_)
    simp only [Vthen, VinBlock, if_true, if_false, Nat.reduceEqDiff, reduceCtorEq]
    refine WpV.seq (WpV.cond rfl (fun hb => WpV.skip ?_) (fun hb => WpV.exit ?_))
    · have hlt : (k : Int) < ((w.length - 1 : Nat) : Int) := of_decide_eq_true ‹_›
      have hlt' : k < w.length - 1 := by omega
      have h2 : k + 1 < w.length := by omega
      have hwr2 : IntKind.i64.wrap ((k : Int) + 2) = ((k + 2 : Nat) : Int) := by rw [wrap64 (by omega)]; omega
      have hlo : (0 : Int) ≤ ((k + 2 : Nat) : Int) := by omega
      have hto : (((k + 2 : Nat) : Int)).toNat = k + 2 := Int.toNat_natCast _
      have hk2 : k + 2 - k = 2 := by omega
      have hle1 : k ≤ k + 2 := by omega
      have hle2 : k + 2 ≤ w.length := by omega
      have h2at := two_at w k h2
      have hs1 : Small (w.getD k 0) := hw _ (by rw [List.getD_eq_getElem?_getD, List.getElem?_eq_getElem (by omega)]; exact List.getElem_mem _)
      have hs2 : Small (w.getD (k + 1) 0) := hw _ (by rw [List.getD_eq_getElem?_getD, List.getElem?_eq_getElem h2]; exact List.getElem_mem _)
      simp only [Vthen, VinBlock, if_true, if_false, Nat.reduceEqDiff, reduceCtorEq]
      refine WpV.seq (WpV.block ?_)
      refine WpV.seq (WpV.regionE (by simp only [go_sem, reduceCtorEq, Nat.reduceAdd, Nat.reduceMul, Nat.reduceSub, Nat.reduceLT, Nat.reduceLeDiff, Nat.reduceEqDiff, Nat.reduceBEq, Nat.reducePow]; rfl) (Marks.nil _) ?_)
      simp only [Vthen, VinBlock, if_true, if_false, Nat.reduceEqDiff, reduceCtorEq]
      refine WpV.regionTN 14 Tryz.mixed (by kernel_rfl) (by kernel_rfl) (by kernel_rfl) ?_
      refine LexD.take 9 (by rfl) (by simp only [go_sem, reduceCtorEq, Nat.reduceAdd, Nat.reduceMul, Nat.reduceSub, Nat.reduceLT, Nat.reduceLeDiff, Nat.reduceEqDiff, Nat.reduceBEq, Nat.reducePow, hwr2]; rfl) ?_
      refine LexD.take 3 (by rfl) (by simp only [go_sem, reduceCtorEq, Nat.reduceAdd, Nat.reduceMul, Nat.reduceSub, Nat.reduceLT, Nat.reduceLeDiff, Nat.reduceEqDiff, Nat.reduceBEq, Nat.reducePow, hwr2, hlo, hto, hk2, hle1, hle2, h2at]; rfl) ?_
      refine LexD.step (by rfl) (by rfl) (more_at (c := c) hc.keys rfl rfl rfl hs1 hs2) ?_
      refine LexD.take 1 (by rfl) (by simp only [go_sem, reduceCtorEq, Nat.reduceAdd, Nat.reduceMul, Nat.reduceSub, Nat.reduceLT, Nat.reduceLeDiff, Nat.reduceEqDiff, Nat.reduceBEq, Nat.reducePow]; rfl) ?_
      refine LexD.nilE ?_
      refine LexT.step (by rfl) (by rfl) (OpW.appendB (m := 1) (ys := [vint (c.moreOf (w.getD k 0) (w.getD (k + 1) 0))]) rfl hB rfl rfl rfl (Tryz.el29 (by omega)) Tryz.underlying29 rfl rfl (by decide) (fun v' H' hB' => ?_))
      refine LexT.take 1 (by simp only [go_sem, reduceCtorEq, Nat.reduceAdd, Nat.reduceMul, Nat.reduceSub, Nat.reduceLT, Nat.reduceLeDiff, Nat.reduceEqDiff, Nat.reduceBEq, Nat.reducePow]; rfl) (LexT.nilE ⟨Marks.nil _, ?_⟩)
      simp only [Vthen, VinBlock, if_true, if_false, Nat.reduceEqDiff, reduceCtorEq]
      refine WpV.regionE (by simp only [go_sem, reduceCtorEq, Nat.reduceAdd, Nat.reduceMul, Nat.reduceSub, Nat.reduceLT, Nat.reduceLeDiff, Nat.reduceEqDiff, Nat.reduceBEq, Nat.reducePow]; rfl) (Marks.nil _) ?_
      simp only [Vthen, VinBlock, if_true, if_false, Nat.reduceEqDiff, reduceCtorEq]
      refine ⟨by first | rfl | trivial, hlt', trivial, v', ?_, .cons rfl rfl (.cons rfl rfl (.cons rfl rfl (.cons rfl rfl (.cons rfl ?_ (.nil _)))))⟩
      · rw [Cs.moreN_succ, List.map_append]; exact hB'
      · rw [wrap64 (by omega)]; rfl
    · have hge : k = w.length - 1 := by have := of_decide_eq_false ‹_›; omega
      subst hge
      simp only [Vthen, VinBlock, if_true, if_false, Nat.reduceEqDiff, reduceCtorEq]
      refine WpV.seq (WpV.regionE (by simp only [go_sem, reduceCtorEq, Nat.reduceAdd, Nat.reduceMul, Nat.reduceSub, Nat.reduceLT, Nat.reduceLeDiff, Nat.reduceEqDiff, Nat.reduceBEq, Nat.reducePow]; rfl) (Marks.nil _) ?_)
      simp only [Vthen, VinBlock, if_true, if_false, Nat.reduceEqDiff, reduceCtorEq]
      refine WpV.ret ⟨Marks.nil _, List.nodup_nil, _, by simp only [Tryz.results67]; simp only [go_sem, reduceCtorEq, Nat.reduceAdd, Nat.reduceMul, Nat.reduceSub, Nat.reduceLT, Nat.reduceLeDiff, Nat.reduceEqDiff, Nat.reduceBEq, Nat.reducePow]; rfl, ?_⟩
      exact hB
end Go.Proofs.YtaekibilldjnmaaGreat
namespace Go.Proofs.YtaekibilldjnmaaGreat
open Go.Proofs

/-- A row of which the first numbers have been laid anew. -/
def mixL (a b : List Int) (k : Nat) : List Int := a.take k ++ b.drop k
theorem mixL_zero (a b : List Int) : mixL a b 0 = b := by simp [mixL]
theorem mixL_all {a b : List Int} (h : a.length = b.length) : mixL a b a.length = a := by unfold mixL; rw [List.take_length, h, List.drop_length, List.append_nil]
theorem mixL_len {a b : List Int} (h : a.length = b.length) {k : Nat} (hk : k ≤ a.length) : (mixL a b k).length = a.length := by simp [mixL]; omega
theorem mixL_get {a b : List Int} (h : a.length = b.length) {k : Nat} (hk : k < a.length) : ((mixL a b k).map vint)[k]? = some (vint (b.getD k 0)) := by
  have hb : k < b.length := by omega
  have e : (a.take k).length = k := by simp; omega
  rw [List.getElem?_map, mixL, List.getElem?_append_right (by omega), e, Nat.sub_self, List.getElem?_drop, Nat.add_zero, List.getElem?_eq_getElem hb]
  simp [List.getD_eq_getElem?_getD, hb]
theorem mixL_set {a b : List Int} (h : a.length = b.length) {k : Nat} (hk : k < a.length) : putC ((mixL a b k).map vint) k [vint (a.getD k 0)] = (mixL a b (k + 1)).map vint := by
  have hb : k < b.length := by omega
  rw [putC_set _ _ _ (by simp [mixL_len h (Nat.le_of_lt hk)]; exact hk), ← List.map_set]
  congr 1
  have e : (a.take k).length = k := by simp; omega
  rw [mixL, List.set_append_right _ _ (by omega), e, Nat.sub_self, List.drop_eq_getElem_cons hb, List.set_cons_zero, mixL, List.take_add_one, List.getElem?_eq_getElem hk]
  simp only [Option.toList_some, List.append_assoc, List.singleton_append]
  rw [show a.getD k 0 = a[k] by simp [List.getD_eq_getElem?_getD, hk]]

theorem Cs.moreOf_le {c : Cs} (hc : c.Fair) (a b : Int) : -5 ≤ c.moreOf a b ∧ c.moreOf a b ≤ 5 := by
  unfold Cs.moreOf
  cases e : c.ps.find? (fun p => p.1 == a && p.2.1 == b) with
  | none => simp
  | some p => have := hc.mores p (List.mem_of_find?_eq_some e); simp only; omega
theorem Cs.mores_le {c : Cs} (hc : c.Fair) (w : List Int) (k : Nat) : ∀ x ∈ c.moreN w k, -5 ≤ x ∧ x ≤ 5 := fun x hx => by
  obtain ⟨i, -, rfl⟩ := List.mem_map.1 hx; exact Cs.moreOf_le hc _ _
def Cs.close (c : Cs) (m : Int) : Int := if (0 : Int) > c.least - m then 0 else c.least - m
def Cs.closest (c : Cs) (w : List Int) : List Int := (c.mores w).map c.close
theorem Cs.closest_len (c : Cs) (w : List Int) : (c.closest w).length = w.length - 1 := by simp [Cs.closest, Cs.moreN_len]
theorem Cs.closest_le {c : Cs} (hc : c.Fair) (w : List Int) : ∀ x ∈ c.closest w, 0 ≤ x ∧ x ≤ 15 := fun x hx => by
  obtain ⟨m, hm, rfl⟩ := List.mem_map.1 hx
  have := Cs.mores_le hc w _ m hm
  have := hc.least
  unfold Cs.close; split <;> omega
theorem Cs.close_at (c : Cs) (w : List Int) {k : Nat} (h : k < w.length - 1) : (c.closest w).getD k 0 = c.close ((c.mores w).getD k 0) := by
  have h1 : k < (c.moreN w (w.length - 1)).length := by rw [Cs.moreN_len]; exact h
  have h2 : k < (c.closest w).length := by rw [Cs.closest_len]; exact h
  rw [List.getD_eq_getElem?_getD, List.getD_eq_getElem?_getD, List.getElem?_eq_getElem h1, List.getElem?_eq_getElem h2]
  simp [Cs.closest]

set_option maxHeartbeats 1000000 in
theorem closest_bld (H : Hp) (c : Cs) (hc : c.Fair) (nl clip : Bool) (w : List Int) (hl : w.length < 1000000) (hp : 0 < w.length) (hw : ∀ x ∈ w, Small x) :
    CallV Tryz.prog 60 [.agg c.box, vints nl clip w] H (fun r H' => Bld H 3 1 true (w.length - 1) ((c.closest w).map vint) r H') := by
  have hml := Cs.moreN_len c w (w.length - 1)
  have hcl := Cs.closest_len c w
  have hlen : (c.closest w).length = (c.mores w).length := by rw [hcl, hml]
  have hle := hc.least
  refine CallV.body Tryz.func60 rfl Tryz.ntmps60 (by rfl) ?_
  refine WpV.seq (WpV.regionE (by simp only [go_sem, reduceCtorEq, Nat.reduceAdd, Nat.reduceMul, Nat.reduceSub, Nat.reduceLT, Nat.reduceLeDiff, Nat.reduceEqDiff, Nat.reduceBEq, Nat.reducePow]; rfl) (Marks.nil _) ?_)
  simp only [Vthen, VinBlock, if_true, if_false, Nat.reduceEqDiff, reduceCtorEq]
  refine WpV.seq (WpV.region ?_)
  refine WpOps.take 2 (by simp only [go_sem, reduceCtorEq, Nat.reduceAdd, Nat.reduceMul, Nat.reduceSub, Nat.reduceLT, Nat.reduceLeDiff, Nat.reduceEqDiff, Nat.reduceBEq, Nat.reducePow]; rfl) ?_
  refine WpOps.step (by rfl) (by rfl) (OpW.callY rfl (by rfl) (by rfl) (by rfl) (enters_of Tryz.func67 (by kernel_rfl) rfl) ((mores_bld H c hc nl clip w hl hp hw).mono ?_))
  rintro v H1 ⟨hxl, ⟨h0, he, rfl, rfl⟩ | ⟨hpos, id, ver, hid, rfl, rfl⟩⟩
  · refine WpOps.take 1 (by simp only [go_sem, reduceCtorEq, Nat.reduceAdd, Nat.reduceMul, Nat.reduceSub, Nat.reduceLT, Nat.reduceLeDiff, Nat.reduceEqDiff, Nat.reduceBEq, Nat.reducePow]; rfl) (WpOps.nil ⟨Marks.nil _, ?_⟩)
    simp only [Vthen, VinBlock, if_true, if_false, Nat.reduceEqDiff, reduceCtorEq]
    refine WpV.seq ?_
    refine WpV.seq (WpV.regionE (by simp only [go_sem, reduceCtorEq, Nat.reduceAdd, Nat.reduceMul, Nat.reduceSub, Nat.reduceLT, Nat.reduceLeDiff, Nat.reduceEqDiff, Nat.reduceBEq, Nat.reducePow]; rfl) (Marks.nil _) ?_)
    simp only [Vthen, VinBlock, if_true, if_false, Nat.reduceEqDiff, reduceCtorEq]
    refine WpV.block (WpV.loopN 0 (fun k => [(5, .sl true true 0 []), (12, vint 0), (13, vint 0)]) (fun _ => H1) ?_ rfl ?_)
    · exact .cons rfl rfl (.cons rfl rfl (.cons rfl rfl (.nil _)))
    · intro k hk
      refine WpV.seq (WpV.regionE (by simp only [go_sem, reduceCtorEq, Nat.reduceAdd, Nat.reduceMul, Nat.reduceSub, Nat.reduceLT, Nat.reduceLeDiff, Nat.reduceEqDiff, Nat.reduceBEq, Nat.reducePow, Int.lt_irrefl]; rfl) (Marks.nil _) ?_)
      simp only [Vthen, VinBlock, if_true, if_false, Nat.reduceEqDiff, reduceCtorEq]
      refine WpV.seq (WpV.cond rfl (fun hb => by cases hb) (fun hb => WpV.exit ?_))
      simp only [Vthen, VinBlock, if_true, if_false, Nat.reduceEqDiff, reduceCtorEq]
      refine WpV.seq (WpV.regionE (by simp only [go_sem, reduceCtorEq, Nat.reduceAdd, Nat.reduceMul, Nat.reduceSub, Nat.reduceLT, Nat.reduceLeDiff, Nat.reduceEqDiff, Nat.reduceBEq, Nat.reducePow]; rfl) (Marks.nil _) ?_)
      simp only [Vthen, VinBlock, if_true, if_false, Nat.reduceEqDiff, reduceCtorEq]
      refine WpV.ret ⟨Marks.nil _, List.nodup_nil, _, by simp only [Tryz.results60]; simp only [go_sem, reduceCtorEq, Nat.reduceAdd, Nat.reduceMul, Nat.reduceSub, Nat.reduceLT, Nat.reduceLeDiff, Nat.reduceEqDiff, Nat.reduceBEq, Nat.reducePow]; rfl, ?_⟩
      exact ⟨by rw [List.length_map, hcl]; omega, .inl ⟨h0, by rw [List.map_eq_nil_iff, ← List.length_eq_zero_iff, hcl, h0], rfl, rfl⟩⟩
  · refine WpOps.take 1 (by simp only [go_sem, reduceCtorEq, Nat.reduceAdd, Nat.reduceMul, Nat.reduceSub, Nat.reduceLT, Nat.reduceLeDiff, Nat.reduceEqDiff, Nat.reduceBEq, Nat.reducePow]; rfl) (WpOps.nil ⟨Marks.nil _, ?_⟩)
    simp only [Vthen, VinBlock, if_true, if_false, Nat.reduceEqDiff, reduceCtorEq]
    generalize hn : w.length - 1 = n at *
    refine WpV.seq ?_
    refine WpV.seq (WpV.regionE (by simp only [go_sem, reduceCtorEq, Nat.reduceAdd, Nat.reduceMul, Nat.reduceSub, Nat.reduceLT, Nat.reduceLeDiff, Nat.reduceEqDiff, Nat.reduceBEq, Nat.reducePow]; rfl) (Marks.nil _) ?_)
    simp only [Vthen, VinBlock, if_true, if_false, Nat.reduceEqDiff, reduceCtorEq]
    refine WpV.block (WpV.loopN n (fun k => [(2, .cp c.box 0), (5, .rs id ver 1 0 n false), (11, .rs id ver 1 0 n false), (12, vint n), (13, vint k)]) (fun k => H.set id (some (.cells 3 ver ((mixL (c.closest w) (c.mores w) k).map vint)))) ?_ ?_ ?_)
    · exact .cons rfl rfl (.cons rfl rfl (.cons rfl rfl (.cons rfl rfl (.cons rfl rfl (.nil _)))))
    · simp only [mixL_zero, hn]
    · intro k hk
      refine WpV.seq (WpV.regionE (by simp only [go_sem, reduceCtorEq, Nat.reduceAdd, Nat.reduceMul, Nat.reduceSub, Nat.reduceLT, Nat.reduceLeDiff, Nat.reduceEqDiff, Nat.reduceBEq, Nat.reducePow]; rfl) (Marks.nil _) ?_)
      simp only [Vthen, VinBlock, if_true, if_false, Nat.reduceEqDiff, reduceCtorEq]
      refine WpV.seq (WpV.cond rfl (fun hb => WpV.skip ?_) (fun hb => WpV.exit ?_))
      · have hlt : (k : Int) < (n : Int) := of_decide_eq_true ‹_›
        have hlt' : k < n := by omega
        have hkc : k < (c.closest w).length := by omega
        have hgk := mixL_get hlen hkc
        have hset := mixL_set hlen hkc
        have hca := Cs.close_at c w (k := k) (by omega)
        have hlm := mixL_len hlen (Nat.le_of_lt hkc)
        have hmk : -5 ≤ (c.mores w).getD k 0 ∧ (c.mores w).getD k 0 ≤ 5 := Cs.mores_le hc w _ _ (by rw [List.getD_eq_getElem?_getD, List.getElem?_eq_getElem (show k < (c.mores w).length by omega)]; exact List.getElem_mem _)
        generalize (c.mores w).getD k 0 = mk at hgk hca hmk
        rw [hca] at hset
        simp only [Vthen, VinBlock, if_true, if_false, Nat.reduceEqDiff, reduceCtorEq]
        refine WpV.seq (WpV.block ?_)
        refine WpV.seq (WpV.regionE (by simp only [go_sem, reduceCtorEq, Nat.reduceAdd, Nat.reduceMul, Nat.reduceSub, Nat.reduceLT, Nat.reduceLeDiff, Nat.reduceEqDiff, Nat.reduceBEq, Nat.reducePow, hlt, hgk]; rfl) (Marks.nil _) ?_)
        simp only [Vthen, VinBlock, if_true, if_false, Nat.reduceEqDiff, reduceCtorEq]
        refine WpV.region ?_
        refine WpOps.take 9 (by simp only [go_sem, reduceCtorEq, Nat.reduceAdd, Nat.reduceMul, Nat.reduceSub, Nat.reduceLT, Nat.reduceLeDiff, Nat.reduceEqDiff, Nat.reduceBEq, Nat.reducePow, hlt]; rfl) ?_
        refine WpOps.step (by rfl) (by rfl) (OpW.store (ty := 3) (cs := (mixL (c.closest w) (c.mores w) k).map vint) rfl (by simp only [go_sem, reduceCtorEq, Nat.reduceAdd, Nat.reduceMul, Nat.reduceSub, Nat.reduceLT, Nat.reduceLeDiff, Nat.reduceEqDiff, Nat.reduceBEq, Nat.reducePow]; try rfl) (by simp only [go_sem, reduceCtorEq, Nat.reduceAdd, Nat.reduceMul, Nat.reduceSub, Nat.reduceLT, Nat.reduceLeDiff, Nat.reduceEqDiff, Nat.reduceBEq, Nat.reducePow]; try rfl) (Hp.set_eq _ _ _) (by simp only [go_sem, reduceCtorEq, Nat.reduceAdd, Nat.reduceMul, Nat.reduceSub, Nat.reduceLT, Nat.reduceLeDiff, Nat.reduceEqDiff, Nat.reduceBEq, Nat.reducePow]; try rfl) (by exact Tryz.sz3) (by simp; omega) ?_)
        refine WpOps.nil ⟨Marks.nil _, ?_⟩
        rw [Hp.set_set]
        simp only [Vthen, VinBlock, if_true, if_false, Nat.reduceEqDiff, reduceCtorEq]
        refine WpV.regionE (by simp only [go_sem, reduceCtorEq, Nat.reduceAdd, Nat.reduceMul, Nat.reduceSub, Nat.reduceLT, Nat.reduceLeDiff, Nat.reduceEqDiff, Nat.reduceBEq, Nat.reducePow]; rfl) (Marks.nil _) ?_
        simp only [Vthen, VinBlock, if_true, if_false, Nat.reduceEqDiff, reduceCtorEq]
        refine ⟨by first | rfl | trivial, hlt', .cons rfl rfl (.cons rfl rfl (.cons rfl rfl (.cons rfl rfl (.cons rfl ?_ (.nil _))))), ?_⟩
        · rw [wrap64 (by omega)]; rfl
        · rw [← hset]
          unfold Cs.close
          rw [wrap64 (by omega)]
      · have hge : k = n := by have := of_decide_eq_false ‹_›; omega
        subst hge
        simp only [Vthen, VinBlock, if_true, if_false, Nat.reduceEqDiff, reduceCtorEq]
        refine WpV.seq (WpV.regionE (by simp only [go_sem, reduceCtorEq, Nat.reduceAdd, Nat.reduceMul, Nat.reduceSub, Nat.reduceLT, Nat.reduceLeDiff, Nat.reduceEqDiff, Nat.reduceBEq, Nat.reducePow]; rfl) (Marks.nil _) ?_)
        simp only [Vthen, VinBlock, if_true, if_false, Nat.reduceEqDiff, reduceCtorEq]
        refine WpV.ret ⟨Marks.nil _, List.nodup_nil, _, by simp only [Tryz.results60]; simp only [go_sem, reduceCtorEq, Nat.reduceAdd, Nat.reduceMul, Nat.reduceSub, Nat.reduceLT, Nat.reduceLeDiff, Nat.reduceEqDiff, Nat.reduceBEq, Nat.reducePow]; rfl, ?_⟩
        refine ⟨by rw [List.length_map]; omega, .inr ⟨hpos, id, ver, hid, rfl, ?_⟩⟩
        have := mixL_all hlen
        rw [hcl] at this
        simp only [killA, this]

/-! ### Need -/
def Cs.need1 (c : Cs) (w : List Int) : Int := c.longF w (c.closest w)
def Cs.needF (c : Cs) (ws : List (List Int)) : Int := 2 * c.rim + ((ws.length : Int) - 1) * c.blank + (ws.map c.need1).sum
def Cs.Word (c : Cs) (w : List Int) : Prop := 0 < w.length ∧ w.length ≤ 7 ∧ c.Letters w
theorem Cs.Word.small {c : Cs} (hB : c.Fair) {w : List Int} (h : c.Word w) : ∀ x ∈ w, Small x := fun x hx => by
  have := h.2.2 x hx
  have := hB.len9
  unfold Small; omega
theorem Cs.word_iff {c : Cs} {w : List Int} : c.word w = true ↔ c.Word w := by
  unfold Cs.word Cs.Word
  rw [Bool.and_eq_true, Cs.letters_iff, insB_iff]
  simp only [List.mem_singleton, forall_eq]
  constructor
  · rintro ⟨⟨h1, h2⟩, h3⟩; exact ⟨by omega, by omega, h3⟩
  · rintro ⟨h1, h2, h3⟩; exact ⟨⟨by omega, by omega⟩, h3⟩
theorem sum_bound {xs : List Int} {a b : Int} (h : ∀ x ∈ xs, a ≤ x ∧ x ≤ b) : a * xs.length ≤ xs.sum ∧ xs.sum ≤ b * xs.length := by
  induction xs with
  | nil => simp
  | cons x xs ih =>
    have h1 := h x (by simp)
    have h2 := ih (fun y hy => h y (by simp [hy]))
    simp only [List.length_cons, List.sum_cons]
    rw [show ((xs.length + 1 : Nat) : Int) = (xs.length : Int) + 1 by omega, Int.mul_add, Int.mul_add, Int.mul_one, Int.mul_one]
    omega
theorem Cs.need1_le {c : Cs} (hc : c.Fair) {w : List Int} (hw : c.Word w) : 0 ≤ c.need1 w ∧ c.need1 w ≤ 400 := by
  have hB := hc.ws
  have h1 := sum_bound (xs := c.closest w) (a := 0) (b := 15) (Cs.closest_le hc w)
  have h2 := sum_bound (xs := w.map c.widthOf) (a := 0) (b := 30) (fun y hy => by
    obtain ⟨x, hx, rfl⟩ := List.mem_map.1 hy; exact Cs.width_le hB (hw.2.2 x hx))
  rw [Cs.closest_len] at h1
  rw [List.length_map] at h2
  have := hw.1
  have := hw.2.1
  unfold Cs.need1 Cs.longF
  omega

theorem closest_tame {c : Cs} (hc : c.Fair) {w : List Int} (hl : w.length < 1000000) : Tame (c.closest w) := ⟨by rw [Cs.closest_len]; omega, fun x hx => by have := Cs.closest_le hc w x hx; omega⟩

theorem need1_call (H : Hp) (c : Cs) (hc : c.Fair) (nl clip : Bool) (w : List Int) (hw : c.Word w) :
    CallV Tryz.prog 60 [.agg c.box, vints nl clip w] H (fun r H' => r = vints (true && decide ((c.closest w).length = 0)) (decide ((c.closest w).length = 0)) (c.closest w) ∧ H' = H) := by
  have h := (closest_bld H c hc nl clip w (by have := hw.2.1; omega) hw.1 (hw.small hc)).frz
  rw [← Cs.closest_len c w] at h
  exact h

set_option maxHeartbeats 1000000 in
theorem need_any (H : Hp) (c : Cs) (hc : c.Fair) (nl clip : Bool) (rs : List Row) (hn : rs.length ≤ 10) (hr : ∀ r ∈ rs, c.Word r.2.2) :
    CallV Tryz.prog 36 [.agg c.box, vrows nl clip rs] H (fun r H' => r = vint (c.needF (rs.map (·.2.2))) ∧ H' = H) := by
  have h1 := hc.rim
  have h2 := hc.blank
  have hlo : -30 ≤ ((rs.length : Int) - 1) * c.blank := by
    rcases Nat.eq_zero_or_pos rs.length with h | h
    · rw [h]; omega
    · have : 0 ≤ ((rs.length : Int) - 1) * c.blank := Int.mul_nonneg (by omega) h2.1
      omega
  have hhi : ((rs.length : Int) - 1) * c.blank ≤ 270 := by
    have := Int.mul_le_mul (a := (rs.length : Int) - 1) (b := c.blank) (c := 9) (d := 30) (by omega) h2.2 h2.1 (by omega)
    omega
  have hwb : IntKind.i64.wrap (IntKind.i64.wrap ((rs.length : Int) - 1) * c.blank) = ((rs.length : Int) - 1) * c.blank := by
    rw [wrap64 (n := (rs.length : Int) - 1) (by omega), wrap64 (by omega)]
  have hwr : IntKind.i64.wrap (2 * c.rim) = 2 * c.rim := wrap64 (by omega)
  have hws : IntKind.i64.wrap (2 * c.rim + ((rs.length : Int) - 1) * c.blank) = 2 * c.rim + ((rs.length : Int) - 1) * c.blank := wrap64 (by omega)
  generalize hbase : 2 * c.rim + ((rs.length : Int) - 1) * c.blank = base at *
  have hbl : -30 ≤ base ∧ base ≤ 400 := by omega
  have hxs : ∀ x ∈ rs.map (fun r => c.need1 r.2.2), 0 ≤ x ∧ x ≤ 400 := fun x hx => by
    obtain ⟨r, hr', rfl⟩ := List.mem_map.1 hx; exact Cs.need1_le hc (hr r hr')
  refine CallV.body Tryz.func36 rfl Tryz.ntmps36 (by rfl) ?_
  refine WpV.seq (WpV.regionE (by simp only [go_sem, reduceCtorEq, Nat.reduceAdd, Nat.reduceMul, Nat.reduceSub, Nat.reduceLT, Nat.reduceLeDiff, Nat.reduceEqDiff, Nat.reduceBEq, Nat.reducePow]; rfl) (Marks.nil _) ?_)
  simp only [Vthen, VinBlock, if_true, if_false, Nat.reduceEqDiff, reduceCtorEq]
  refine WpV.seq (WpV.region ?_)
  refine WpOps.take 6 (by simp only [go_sem, reduceCtorEq, Nat.reduceAdd, Nat.reduceMul, Nat.reduceSub, Nat.reduceLT, Nat.reduceLeDiff, Nat.reduceEqDiff, Nat.reduceBEq, Nat.reducePow]; rfl) ?_
  refine WpOps.take 5 (by simp only [go_sem, reduceCtorEq, Nat.reduceAdd, Nat.reduceMul, Nat.reduceSub, Nat.reduceLT, Nat.reduceLeDiff, Nat.reduceEqDiff, Nat.reduceBEq, Nat.reducePow, hwr, hwb]; rfl) ?_
  refine WpOps.take 2 (by simp only [go_sem, reduceCtorEq, Nat.reduceAdd, Nat.reduceMul, Nat.reduceSub, Nat.reduceLT, Nat.reduceLeDiff, Nat.reduceEqDiff, Nat.reduceBEq, Nat.reducePow, hwr, hwb, hbase, hws]; rfl) (WpOps.nil ⟨Marks.nil _, ?_⟩)
  simp only [Vthen, VinBlock, if_true, if_false, Nat.reduceEqDiff, reduceCtorEq]
  refine WpV.seq ?_
  refine WpV.seq (WpV.regionE (by simp only [go_sem, reduceCtorEq, Nat.reduceAdd, Nat.reduceMul, Nat.reduceSub, Nat.reduceLT, Nat.reduceLeDiff, Nat.reduceEqDiff, Nat.reduceBEq, Nat.reducePow]; rfl) (Marks.nil _) ?_)
  simp only [Vthen, VinBlock, if_true, if_false, Nat.reduceEqDiff, reduceCtorEq]
  refine WpV.block (WpV.loopN rs.length (fun k => [(2, .cp c.box 0), (5, vint (base + ((rs.map (fun r => c.need1 r.2.2)).take k).sum)), (20, vrows nl clip rs), (21, vint rs.length), (22, vint k)]) (fun _ => H) ?_ rfl ?_)
  · exact .cons rfl rfl (.cons rfl (by simp) (.cons rfl rfl (.cons rfl rfl (.cons rfl rfl (.nil _)))))
  · intro k hk
    refine WpV.seq (WpV.regionE (by simp only [go_sem, reduceCtorEq, Nat.reduceAdd, Nat.reduceMul, Nat.reduceSub, Nat.reduceLT, Nat.reduceLeDiff, Nat.reduceEqDiff, Nat.reduceBEq, Nat.reducePow]; rfl) (Marks.nil _) ?_)
    simp only [Vthen, VinBlock, if_true, if_false, Nat.reduceEqDiff, reduceCtorEq]
    refine WpV.seq (WpV.cond rfl (fun hb => WpV.skip ?_) (fun hb => WpV.exit ?_))
    · have hlt : (k : Int) < (rs.length : Int) := of_decide_eq_true ‹_›
      have hlt' : k < rs.length := by omega
      have hgk : (rs.map rowV)[k]? = some (rowV rs[k]) := by simp [hlt']
      have hwk := hr rs[k] (List.getElem_mem _)
      simp only [Vthen, VinBlock, if_true, if_false, Nat.reduceEqDiff, reduceCtorEq]
      refine WpV.seq (WpV.block ?_)
      refine WpV.seq (WpV.regionE (by simp only [go_sem, reduceCtorEq, Nat.reduceAdd, Nat.reduceMul, Nat.reduceSub, Nat.reduceLT, Nat.reduceLeDiff, Nat.reduceEqDiff, Nat.reduceBEq, Nat.reducePow, hlt, hgk]; rfl) (Marks.nil _) ?_)
      simp only [Vthen, VinBlock, if_true, if_false, Nat.reduceEqDiff, reduceCtorEq]
      refine WpV.regionTN 8 Tryz.mixed (by kernel_rfl) (by kernel_rfl) (by kernel_rfl) ?_
      refine LexD.take 5 (by rfl) (by simp only [go_sem, reduceCtorEq, Nat.reduceAdd, Nat.reduceMul, Nat.reduceSub, Nat.reduceLT, Nat.reduceLeDiff, Nat.reduceEqDiff, Nat.reduceBEq, Nat.reducePow]; rfl) ?_
      refine LexD.step (by rfl) (by rfl) (OpW.callY rfl (by rfl) (by rfl) (by rfl) (enters_of Tryz.func60 (by kernel_rfl) rfl) (need1_call H c hc _ _ _ hwk)) ?_
      refine LexD.step (by rfl) (by rfl) (OpW.callY rfl (by rfl) (by rfl) (by rfl) (enters_of Tryz.func59 (by kernel_rfl) rfl) (long_any H c hc.ws _ _ _ _ rs[k].2.2 (c.closest rs[k].2.2) hwk.2.2 (by have := hwk.2.1; omega) (closest_tame hc (by have := hwk.2.1; omega)))) ?_
      refine LexD.take 1 (by rfl) (by simp only [go_sem, reduceCtorEq, Nat.reduceAdd, Nat.reduceMul, Nat.reduceSub, Nat.reduceLT, Nat.reduceLeDiff, Nat.reduceEqDiff, Nat.reduceBEq, Nat.reducePow]; rfl) ?_
      refine LexD.nilE ?_
      refine LexT.take 1 (by simp only [go_sem, reduceCtorEq, Nat.reduceAdd, Nat.reduceMul, Nat.reduceSub, Nat.reduceLT, Nat.reduceLeDiff, Nat.reduceEqDiff, Nat.reduceBEq, Nat.reducePow]; rfl) (LexT.nilE ⟨Marks.nil _, ?_⟩)
      simp only [Vthen, VinBlock, if_true, if_false, Nat.reduceEqDiff, reduceCtorEq]
      refine WpV.regionE (by simp only [go_sem, reduceCtorEq, Nat.reduceAdd, Nat.reduceMul, Nat.reduceSub, Nat.reduceLT, Nat.reduceLeDiff, Nat.reduceEqDiff, Nat.reduceBEq, Nat.reducePow]; rfl) (Marks.nil _) ?_
      simp only [Vthen, VinBlock, if_true, if_false, Nat.reduceEqDiff, reduceCtorEq]
      have e1 := Cs.need1_le hc hwk
      have e2 := sum_bound (xs := (rs.map (fun r => c.need1 r.2.2)).take k) (a := 0) (b := 400) (fun x hx => hxs x (List.mem_of_mem_take hx))
      have e3 : ((rs.map (fun r => c.need1 r.2.2)).take k).length ≤ 10 := by simp; omega
      have e4 : c.longF rs[k].2.2 (c.closest rs[k].2.2) = c.need1 rs[k].2.2 := rfl
      refine ⟨by first | rfl | trivial, hlt', .cons rfl rfl (.cons rfl ?_ (.cons rfl rfl (.cons rfl rfl (.cons rfl ?_ (.nil _))))), by first | rfl | trivial⟩
      · rw [e4, sum_take _ _ (by simpa using hlt'), List.getElem_map, wrap64 (by omega)]
        congr 1; omega
      · rw [wrap64 (by omega)]; rfl
    · have hge : k = rs.length := by have := of_decide_eq_false ‹_›; omega
      subst hge
      rw [List.take_of_length_le (by simp)]
      simp only [Vthen, VinBlock, if_true, if_false, Nat.reduceEqDiff, reduceCtorEq]
      refine WpV.seq (WpV.regionE (by simp only [go_sem, reduceCtorEq, Nat.reduceAdd, Nat.reduceMul, Nat.reduceSub, Nat.reduceLT, Nat.reduceLeDiff, Nat.reduceEqDiff, Nat.reduceBEq, Nat.reducePow]; rfl) (Marks.nil _) ?_)
      simp only [Vthen, VinBlock, if_true, if_false, Nat.reduceEqDiff, reduceCtorEq]
      refine WpV.ret ⟨Marks.nil _, List.nodup_nil, _, by simp only [Tryz.results36]; simp only [go_sem, reduceCtorEq, Nat.reduceAdd, Nat.reduceMul, Nat.reduceSub, Nat.reduceLT, Nat.reduceLeDiff, Nat.reduceEqDiff, Nat.reduceBEq, Nat.reducePow]; rfl, ?_⟩
      refine ⟨?_, rfl⟩
      unfold Cs.needF
      rw [List.length_map, hbase, List.map_map]
      rfl

theorem goes_any (H : Hp) (c : Cs) (hc : c.Fair) (nl clip : Bool) (w : List Int) (hw : c.Word w) (n : Int) :
    CallV Tryz.prog 38 [.agg c.box, vints nl clip w, vint n] H (fun r H' => r = .bool (decide (c.needF [w] ≤ n)) ∧ H' = H) := by
  refine CallV.body Tryz.func38 rfl Tryz.ntmps38 (by rfl) ?_
  refine WpV.seq (WpV.regionE (by simp only [go_sem, reduceCtorEq, Nat.reduceAdd, Nat.reduceMul, Nat.reduceSub, Nat.reduceLT, Nat.reduceLeDiff, Nat.reduceEqDiff, Nat.reduceBEq, Nat.reducePow]; rfl) (Marks.nil _) ?_)
  simp only [Vthen, VinBlock, if_true, if_false, Nat.reduceEqDiff, reduceCtorEq]
  refine WpV.seq (WpV.region ?_)
  refine WpOps.take 3 (by simp only [go_sem, reduceCtorEq, Nat.reduceAdd, Nat.reduceMul, Nat.reduceSub, Nat.reduceLT, Nat.reduceLeDiff, Nat.reduceEqDiff, Nat.reduceBEq, Nat.reducePow]; rfl) ?_
  refine WpOps.step (by rfl) (by rfl) (OpW.callY rfl (by rfl) (by rfl) (by rfl) (enters_of Tryz.func36 (by kernel_rfl) rfl) ((need_any H c hc false true [(nl, clip, w)] (by simp) (by simpa using hw)).mono ?_))
  rintro _ _ ⟨rfl, hH⟩
  replace hH := hH.symm
  subst hH
  refine WpOps.take 3 (by simp only [go_sem, reduceCtorEq, Nat.reduceAdd, Nat.reduceMul, Nat.reduceSub, Nat.reduceLT, Nat.reduceLeDiff, Nat.reduceEqDiff, Nat.reduceBEq, Nat.reducePow]; rfl) (WpOps.nil ⟨Marks.nil _, ?_⟩)
  simp only [Vthen, VinBlock, if_true, if_false, Nat.reduceEqDiff, reduceCtorEq]
  refine WpV.ret ⟨Marks.nil _, List.nodup_nil, _, by simp only [Tryz.results38]; simp only [go_sem, reduceCtorEq, Nat.reduceAdd, Nat.reduceMul, Nat.reduceSub, Nat.reduceLT, Nat.reduceLeDiff, Nat.reduceEqDiff, Nat.reduceBEq, Nat.reducePow]; rfl, ?_⟩
  exact ⟨rfl, rfl⟩
end Go.Proofs.YtaekibilldjnmaaGreat
