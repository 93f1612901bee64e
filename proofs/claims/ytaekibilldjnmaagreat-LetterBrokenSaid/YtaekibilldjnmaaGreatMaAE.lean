/- Conditions for all elements of a list. What is valid: 'within' and those that ask it. What is a case; its box. A case's box; is a case valid. A valid case passes. Lists: sums, copies, one changed, the place of a number, the blots. -/
import Derived.Test.YtaekibilldjnmaaGreatMaAD
import Derived.WideKeyPair
set_option linter.unusedVariables false
set_option linter.unusedSimpArgs false
set_option linter.unusedSectionVars false
namespace Go.Proofs.YtaekibilldjnmaaGreat
open Go.Proofs

abbrev vint (n : Int) : AV := .int .i64 n
abbrev vints (nl clip : Bool) (xs : List Int) : AV := .sl nl clip xs.length (xs.map vint)
theorem all_one_ints (xs : List Int) : (xs.map vint).all AV.one = true := by simp [AV.one]
theorem ints_get (xs : List Int) {k : Nat} (hk : k < xs.length) : (xs.map vint)[k]? = some (vint xs[k]) := by simp [hk]

/-- The first number below n with a property, or -1. -/
def firstN (q : Nat → Bool) : Nat → Nat → Int
  | _, 0 => -1
  | k, m + 1 => if q k then (k : Int) else firstN q (k + 1) m
theorem firstN_hit (q : Nat → Bool) : ∀ (m s k : Nat), s ≤ k → k < s + m → (∀ j, s ≤ j → j < k → q j = false) → q k = true → firstN q s m = k
  | 0, s, k, h1, h2, _, _ => by omega
  | m + 1, s, k, h1, h2, h3, h4 => by
    unfold firstN
    by_cases e : s = k
    · subst e; rw [if_pos h4]
    · rw [if_neg (by rw [h3 s (Nat.le_refl _) (by omega)]; simp)]
      exact firstN_hit q m (s + 1) k (by omega) (by omega) (fun j hj => h3 j (by omega)) h4
theorem firstN_none (q : Nat → Bool) : ∀ (m s : Nat), (∀ j, s ≤ j → j < s + m → q j = false) → firstN q s m = -1
  | 0, s, _ => rfl
  | m + 1, s, h => by
    unfold firstN
    rw [if_neg (by rw [h s (Nat.le_refl _) (by omega)]; simp)]
    exact firstN_none q m (s + 1) (fun j h1 h2 => h j (by omega) (by omega))
theorem firstN_ge (q : Nat → Bool) (n : Nat) : decide (firstN q 0 n ≥ 0) = !decide (∀ i, i < n → q i = false) := by
  by_cases h : ∀ i, i < n → q i = false
  · rw [firstN_none q n 0 (fun j _ hj => h j (by omega)), decide_eq_true h]; rfl
  · rw [decide_eq_false h]
    have : ∃ k, k < n ∧ q k = true ∧ ∀ j, j < k → q j = false := by
      simp only [Classical.not_forall] at h
      obtain ⟨i, hi, hq⟩ := h
      have hex : ∃ i, i < n ∧ q i = true := ⟨i, hi, by simpa using hq⟩
      clear hi hq
      obtain ⟨i, hi⟩ := hex
      induction i using Nat.strongRecOn with
      | _ i ih =>
        by_cases e : ∃ j, j < i ∧ q j = true
        · obtain ⟨j, hj, hq⟩ := e; exact ih j hj ⟨by omega, hq⟩
        · exact ⟨i, hi.1, hi.2, fun j hj => by cases hqj : q j with
            | false => rfl
            | true => exact absurd ⟨j, hj, hqj⟩ e⟩
    obtain ⟨k, hk, hq, hj⟩ := this
    rw [firstN_hit q n 0 k (Nat.zero_le _) (by omega) (fun j _ h => hj j h) hq]
    simp

/-- 'slices.IndexFunc', 'slices.ContainsFunc', 'every': of a condition that turns nothing. -/
theorem idx_int (H : Hp) (nl clip : Bool) (n : Nat) (cells : List AV) (els : Nat → AV) (g : FuncId) (fs cs : List AV) (q : Nat → Bool) (hn : n < 1000000) (hl : cells.length = n) (hr : ∀ k, k < n → cells[k]? = some (els k)) (eg : EntersF Tryz.prog g)
    (hq : ∀ k, k < n → CallV Tryz.prog g (fs ++ [els k] ++ cs) H (fun r H' => r = .bool (q k) ∧ H' = H)) : CallV Tryz.prog 109 [.sl nl clip n cells, .fn (.func g) fs cs] H (fun r H' => r = vint (firstN q 0 n) ∧ H' = H) := by
  refine CallV.body Tryz.func109 rfl Tryz.ntmps109 (by rfl) ?_
  refine WpV.seq (WpV.regionE (by simp only [go_sem, reduceCtorEq, Nat.reduceAdd, Nat.reduceMul, Nat.reduceSub, Nat.reduceLT, Nat.reduceLeDiff, Nat.reduceEqDiff, Nat.reduceBEq, Nat.reducePow]; rfl) (Marks.nil _) ?_)
  simp only [Vthen, VinBlock, if_true, if_false, Nat.reduceEqDiff, reduceCtorEq]
  refine WpV.seq (WpV.seq (WpV.regionE (by simp only [go_sem, reduceCtorEq, Nat.reduceAdd, Nat.reduceMul, Nat.reduceSub, Nat.reduceLT, Nat.reduceLeDiff, Nat.reduceEqDiff, Nat.reduceBEq, Nat.reducePow]; rfl) (Marks.nil _) ?_))
  simp only [Vthen, VinBlock, if_true, if_false, Nat.reduceEqDiff, reduceCtorEq]
  refine WpV.block (WpV.loopP n (fun k => ∀ j, j < k → q j = false) (fun k => [(0, .sl nl clip n cells), (1, .fn (.func g) fs cs), (7, vint n), (8, vint k)]) (fun _ => H) (fun j hj => absurd hj (Nat.not_lt_zero _)) ?_ rfl ?_)
  · exact .cons rfl rfl (.cons rfl rfl (.cons rfl rfl (.cons rfl rfl (.nil _))))
  · intro k hk hp
    refine WpV.seq (WpV.regionE (by simp only [go_sem, reduceCtorEq, Nat.reduceAdd, Nat.reduceMul, Nat.reduceSub, Nat.reduceLT, Nat.reduceLeDiff, Nat.reduceEqDiff, Nat.reduceBEq, Nat.reducePow]; rfl) (Marks.nil _) ?_)
    simp only [Vthen, VinBlock, if_true, if_false, Nat.reduceEqDiff, reduceCtorEq]
    refine WpV.seq (WpV.cond rfl (fun hb => WpV.skip ?_) (fun hb => WpV.exit ?_))
    · have hlt : (k : Int) < (n : Int) := of_decide_eq_true hb
      have hlt' : k < n := by omega
      simp only [Vthen, VinBlock, if_true, if_false, Nat.reduceEqDiff, reduceCtorEq]
      refine WpV.seq (WpV.block (WpV.seq (WpV.regionE (by simp only [go_sem, reduceCtorEq, Nat.reduceAdd, Nat.reduceMul, Nat.reduceSub, Nat.reduceLT, Nat.reduceLeDiff, Nat.reduceEqDiff, Nat.reduceBEq, Nat.reducePow]; rfl) (Marks.nil _) ?_)))
      simp only [Vthen, VinBlock, if_true, if_false, Nat.reduceEqDiff, reduceCtorEq]
      refine WpV.seq (WpV.region ?_)
      refine WpOps.take 5 (by simp only [go_sem, reduceCtorEq, Nat.reduceAdd, Nat.reduceMul, Nat.reduceSub, Nat.reduceLT, Nat.reduceLeDiff, Nat.reduceEqDiff, Nat.reduceBEq, Nat.reducePow, hlt, hr k hlt']; rfl) ?_
      refine WpOps.step (by rfl) (by rfl) (OpW.callY rfl (by rfl) (by rfl) (by rfl) eg ((hq k hlt').mono ?_))
      rintro _ _ ⟨rfl, rfl⟩
      refine WpOps.nil ⟨Marks.nil _, ?_⟩
      simp only [Vthen, VinBlock, if_true, if_false, Nat.reduceEqDiff, reduceCtorEq]
      refine WpV.cond rfl (fun hqk => ?_) (fun hqk => WpV.skip ?_)
      · refine WpV.seq (WpV.regionE (by simp only [go_sem, reduceCtorEq, Nat.reduceAdd, Nat.reduceMul, Nat.reduceSub, Nat.reduceLT, Nat.reduceLeDiff, Nat.reduceEqDiff, Nat.reduceBEq, Nat.reducePow]; rfl) (Marks.nil _) ?_)
        simp only [Vthen, VinBlock, if_true, if_false, Nat.reduceEqDiff, reduceCtorEq]
        refine WpV.ret ⟨Marks.nil _, List.nodup_nil, _, by simp only [Tryz.results109]; simp only [go_sem, reduceCtorEq, Nat.reduceAdd, Nat.reduceMul, Nat.reduceSub, Nat.reduceLT, Nat.reduceLeDiff, Nat.reduceEqDiff, Nat.reduceBEq, Nat.reducePow]; rfl, ?_⟩
        exact ⟨by rw [firstN_hit q n 0 k (Nat.zero_le _) (by omega) (fun j _ hj => hp j hj) hqk], rfl⟩
      · simp only [Vthen, VinBlock, if_true, if_false, Nat.reduceEqDiff, reduceCtorEq]
        refine WpV.regionE (by simp only [go_sem, reduceCtorEq, Nat.reduceAdd, Nat.reduceMul, Nat.reduceSub, Nat.reduceLT, Nat.reduceLeDiff, Nat.reduceEqDiff, Nat.reduceBEq, Nat.reducePow]; rfl) (Marks.nil _) ?_
        simp only [Vthen, VinBlock, if_true, if_false, Nat.reduceEqDiff, reduceCtorEq]
        refine ⟨by first | rfl | trivial, hlt', fun j hj => ?_, .cons rfl rfl (.cons rfl rfl (.cons rfl rfl (.cons rfl ?_ (.nil _)))), by first | rfl | trivial⟩
        · by_cases e : j = k
          · subst e; exact hqk
          · exact hp j (by omega)
        · rw [wrap64 (by omega)]; rfl
    · have hge : k = n := by have := of_decide_eq_false hb; omega
      subst hge
      simp only [Vthen, VinBlock, if_true, if_false, Nat.reduceEqDiff, reduceCtorEq]
      refine WpV.seq (WpV.regionE (by simp only [go_sem, reduceCtorEq, Nat.reduceAdd, Nat.reduceMul, Nat.reduceSub, Nat.reduceLT, Nat.reduceLeDiff, Nat.reduceEqDiff, Nat.reduceBEq, Nat.reducePow]; rfl) (Marks.nil _) ?_)
      simp only [Vthen, VinBlock, if_true, if_false, Nat.reduceEqDiff, reduceCtorEq]
      refine WpV.ret ⟨Marks.nil _, List.nodup_nil, _, by simp only [Tryz.results109]; simp only [go_sem, reduceCtorEq, Nat.reduceAdd, Nat.reduceMul, Nat.reduceSub, Nat.reduceLT, Nat.reduceLeDiff, Nat.reduceEqDiff, Nat.reduceBEq, Nat.reducePow]; rfl, ?_⟩
      exact ⟨by rw [firstN_none q k 0 (fun j _ hj => hp j (by omega))], rfl⟩

theorem cont_int (H : Hp) (nl clip : Bool) (n : Nat) (cells : List AV) (els : Nat → AV) (g : FuncId) (fs cs : List AV) (q : Nat → Bool) (hn : n < 1000000) (hl : cells.length = n) (hr : ∀ k, k < n → cells[k]? = some (els k)) (eg : EntersF Tryz.prog g)
    (hq : ∀ k, k < n → CallV Tryz.prog g (fs ++ [els k] ++ cs) H (fun r H' => r = .bool (q k) ∧ H' = H)) : CallV Tryz.prog 93 [.sl nl clip n cells, .fn (.func g) fs cs] H (fun r H' => r = .bool (!decide (∀ i, i < n → q i = false)) ∧ H' = H) := by
  refine CallV.body Tryz.func93 rfl Tryz.ntmps93 (by rfl) ?_
  refine WpV.seq (WpV.regionE (by simp only [go_sem, reduceCtorEq, Nat.reduceAdd, Nat.reduceMul, Nat.reduceSub, Nat.reduceLT, Nat.reduceLeDiff, Nat.reduceEqDiff, Nat.reduceBEq, Nat.reducePow]; rfl) (Marks.nil _) ?_)
  simp only [Vthen, VinBlock, if_true, if_false, Nat.reduceEqDiff, reduceCtorEq]
  refine WpV.seq (WpV.region ?_)
  refine WpOps.take 2 (by simp only [go_sem, reduceCtorEq, Nat.reduceAdd, Nat.reduceMul, Nat.reduceSub, Nat.reduceLT, Nat.reduceLeDiff, Nat.reduceEqDiff, Nat.reduceBEq, Nat.reducePow]; rfl) ?_
  refine WpOps.step (by rfl) (by rfl) (OpW.callY rfl (by rfl) (by rfl) (by rfl) (enters_of Tryz.func109 (by kernel_rfl) rfl) ((idx_int H nl clip n cells els g fs cs q hn hl hr eg hq).mono ?_))
  rintro _ _ ⟨rfl, hH⟩
  replace hH := hH.symm
  subst hH
  refine WpOps.take 2 (by simp only [go_sem, reduceCtorEq, Nat.reduceAdd, Nat.reduceMul, Nat.reduceSub, Nat.reduceLT, Nat.reduceLeDiff, Nat.reduceEqDiff, Nat.reduceBEq, Nat.reducePow]; rfl) (WpOps.nil ⟨Marks.nil _, ?_⟩)
  simp only [Vthen, VinBlock, if_true, if_false, Nat.reduceEqDiff, reduceCtorEq]
  refine WpV.ret ⟨Marks.nil _, List.nodup_nil, _, by simp only [Tryz.results93]; simp only [go_sem, reduceCtorEq, Nat.reduceAdd, Nat.reduceMul, Nat.reduceSub, Nat.reduceLT, Nat.reduceLeDiff, Nat.reduceEqDiff, Nat.reduceBEq, Nat.reducePow]; rfl, ?_⟩
  exact ⟨by rw [← firstN_ge], rfl⟩

theorem every1_int (H : Hp) (x : AV) (g : FuncId) (fs cs : List AV) (q : Bool) (eg : EntersF Tryz.prog g) (hq : CallV Tryz.prog g (fs ++ [x] ++ cs) H (fun r H' => r = .bool q ∧ H' = H)) :
    CallV Tryz.prog 94 [x, .cp [.fn (.func g) fs cs] 0] H (fun r H' => r = .bool (!q) ∧ H' = H) := by
  refine CallV.body Tryz.func94 rfl Tryz.ntmps94 (by rfl) ?_
  refine WpV.seq (WpV.regionE (by simp only [go_sem, reduceCtorEq, Nat.reduceAdd, Nat.reduceMul, Nat.reduceSub, Nat.reduceLT, Nat.reduceLeDiff, Nat.reduceEqDiff, Nat.reduceBEq, Nat.reducePow]; rfl) (Marks.nil _) ?_)
  simp only [Vthen, VinBlock, if_true, if_false, Nat.reduceEqDiff, reduceCtorEq]
  refine WpV.seq (WpV.region ?_)
  refine WpOps.take 2 (by simp only [go_sem, reduceCtorEq, Nat.reduceAdd, Nat.reduceMul, Nat.reduceSub, Nat.reduceLT, Nat.reduceLeDiff, Nat.reduceEqDiff, Nat.reduceBEq, Nat.reducePow]; rfl) ?_
  refine WpOps.step (by rfl) (by rfl) (OpW.callY rfl (by rfl) (by rfl) (by rfl) eg (hq.mono ?_))
  rintro _ _ ⟨rfl, rfl⟩
  refine WpOps.take 2 (by simp only [go_sem, reduceCtorEq, Nat.reduceAdd, Nat.reduceMul, Nat.reduceSub, Nat.reduceLT, Nat.reduceLeDiff, Nat.reduceEqDiff, Nat.reduceBEq, Nat.reducePow]; rfl) (WpOps.nil ⟨Marks.nil _, ?_⟩)
  simp only [Vthen, VinBlock, if_true, if_false, Nat.reduceEqDiff, reduceCtorEq]
  refine WpV.ret ⟨Marks.nil _, List.nodup_nil, _, by simp only [Tryz.results94]; simp only [go_sem, reduceCtorEq, Nat.reduceAdd, Nat.reduceMul, Nat.reduceSub, Nat.reduceLT, Nat.reduceLeDiff, Nat.reduceEqDiff, Nat.reduceBEq, Nat.reducePow]; rfl, ?_⟩
  exact ⟨by first | rfl | trivial, rfl⟩

theorem every_int (H : Hp) (nl clip : Bool) (n : Nat) (cells : List AV) (els : Nat → AV) (g : FuncId) (fs cs : List AV) (q : Nat → Bool) (hn : n < 1000000) (hl : cells.length = n) (hr : ∀ k, k < n → cells[k]? = some (els k)) (eg : EntersF Tryz.prog g)
    (hq : ∀ k, k < n → CallV Tryz.prog g (fs ++ [els k] ++ cs) H (fun r H' => r = .bool (q k) ∧ H' = H)) : CallV Tryz.prog 72 [.sl nl clip n cells, .fn (.func g) fs cs] H (fun r H' => r = .bool (decide (∀ i, i < n → q i = true)) ∧ H' = H) := by
  refine CallV.body Tryz.func72 rfl Tryz.ntmps72 (by rfl) ?_
  refine WpV.seq (WpV.regionE (by simp only [go_sem, reduceCtorEq, Nat.reduceAdd, Nat.reduceMul, Nat.reduceSub, Nat.reduceLT, Nat.reduceLeDiff, Nat.reduceEqDiff, Nat.reduceBEq, Nat.reducePow]; rfl) (Marks.nil _) ?_)
  simp only [Vthen, VinBlock, if_true, if_false, Nat.reduceEqDiff, reduceCtorEq]
  refine WpV.seq (WpV.region ?_)
  refine WpOps.take 2 (by simp only [go_sem, reduceCtorEq, Nat.reduceAdd, Nat.reduceMul, Nat.reduceSub, Nat.reduceLT, Nat.reduceLeDiff, Nat.reduceEqDiff, Nat.reduceBEq, Nat.reducePow]; rfl) ?_
  refine WpOps.step (by rfl) (by rfl) (OpW.callY rfl (by rfl) (by rfl) (by rfl) (enters_of Tryz.func93 (by kernel_rfl) rfl) ((cont_int H nl clip n cells els 94 [] [.cp [.fn (.func g) fs cs] 0] (fun k => !q k) hn hl hr (enters_of Tryz.func94 (by kernel_rfl) rfl) (fun k hk => every1_int H _ g fs cs (q k) eg (hq k hk))).mono ?_))
  rintro _ _ ⟨rfl, hH⟩
  replace hH := hH.symm
  subst hH
  refine WpOps.take 2 (by simp only [go_sem, reduceCtorEq, Nat.reduceAdd, Nat.reduceMul, Nat.reduceSub, Nat.reduceLT, Nat.reduceLeDiff, Nat.reduceEqDiff, Nat.reduceBEq, Nat.reducePow]; rfl) (WpOps.nil ⟨Marks.nil _, ?_⟩)
  simp only [Vthen, VinBlock, if_true, if_false, Nat.reduceEqDiff, reduceCtorEq]
  refine WpV.ret ⟨Marks.nil _, List.nodup_nil, _, by simp only [Tryz.results72]; simp only [go_sem, reduceCtorEq, Nat.reduceAdd, Nat.reduceMul, Nat.reduceSub, Nat.reduceLT, Nat.reduceLeDiff, Nat.reduceEqDiff, Nat.reduceBEq, Nat.reducePow]; rfl, ?_⟩
  exact ⟨by congr 1; simp, rfl⟩

/-- 'slices.IndexFunc', 'slices.ContainsFunc', 'every': of a condition that turns nothing. -/
theorem idx_row (H : Hp) (nl clip : Bool) (n : Nat) (cells : List AV) (els : Nat → AV) (g : FuncId) (fs cs : List AV) (q : Nat → Bool) (hn : n < 1000000) (hl : cells.length = n) (hr : ∀ k, k < n → cells[k]? = some (els k)) (eg : EntersF Tryz.prog g)
    (hq : ∀ k, k < n → CallV Tryz.prog g (fs ++ [els k] ++ cs) H (fun r H' => r = .bool (q k) ∧ H' = H)) : CallV Tryz.prog 117 [.sl nl clip n cells, .fn (.func g) fs cs] H (fun r H' => r = vint (firstN q 0 n) ∧ H' = H) := by
  refine CallV.body Tryz.func117 rfl Tryz.ntmps117 (by rfl) ?_
  refine WpV.seq (WpV.regionE (by simp only [go_sem, reduceCtorEq, Nat.reduceAdd, Nat.reduceMul, Nat.reduceSub, Nat.reduceLT, Nat.reduceLeDiff, Nat.reduceEqDiff, Nat.reduceBEq, Nat.reducePow]; rfl) (Marks.nil _) ?_)
  simp only [Vthen, VinBlock, if_true, if_false, Nat.reduceEqDiff, reduceCtorEq]
  refine WpV.seq (WpV.seq (WpV.regionE (by simp only [go_sem, reduceCtorEq, Nat.reduceAdd, Nat.reduceMul, Nat.reduceSub, Nat.reduceLT, Nat.reduceLeDiff, Nat.reduceEqDiff, Nat.reduceBEq, Nat.reducePow]; rfl) (Marks.nil _) ?_))
  simp only [Vthen, VinBlock, if_true, if_false, Nat.reduceEqDiff, reduceCtorEq]
  refine WpV.block (WpV.loopP n (fun k => ∀ j, j < k → q j = false) (fun k => [(0, .sl nl clip n cells), (1, .fn (.func g) fs cs), (7, vint n), (8, vint k)]) (fun _ => H) (fun j hj => absurd hj (Nat.not_lt_zero _)) ?_ rfl ?_)
  · exact .cons rfl rfl (.cons rfl rfl (.cons rfl rfl (.cons rfl rfl (.nil _))))
  · intro k hk hp
    refine WpV.seq (WpV.regionE (by simp only [go_sem, reduceCtorEq, Nat.reduceAdd, Nat.reduceMul, Nat.reduceSub, Nat.reduceLT, Nat.reduceLeDiff, Nat.reduceEqDiff, Nat.reduceBEq, Nat.reducePow]; rfl) (Marks.nil _) ?_)
    simp only [Vthen, VinBlock, if_true, if_false, Nat.reduceEqDiff, reduceCtorEq]
    refine WpV.seq (WpV.cond rfl (fun hb => WpV.skip ?_) (fun hb => WpV.exit ?_))
    · have hlt : (k : Int) < (n : Int) := of_decide_eq_true hb
      have hlt' : k < n := by omega
      simp only [Vthen, VinBlock, if_true, if_false, Nat.reduceEqDiff, reduceCtorEq]
      refine WpV.seq (WpV.block (WpV.seq (WpV.regionE (by simp only [go_sem, reduceCtorEq, Nat.reduceAdd, Nat.reduceMul, Nat.reduceSub, Nat.reduceLT, Nat.reduceLeDiff, Nat.reduceEqDiff, Nat.reduceBEq, Nat.reducePow]; rfl) (Marks.nil _) ?_)))
      simp only [Vthen, VinBlock, if_true, if_false, Nat.reduceEqDiff, reduceCtorEq]
      refine WpV.seq (WpV.region ?_)
      refine WpOps.take 5 (by simp only [go_sem, reduceCtorEq, Nat.reduceAdd, Nat.reduceMul, Nat.reduceSub, Nat.reduceLT, Nat.reduceLeDiff, Nat.reduceEqDiff, Nat.reduceBEq, Nat.reducePow, hlt, hr k hlt']; rfl) ?_
      refine WpOps.step (by rfl) (by rfl) (OpW.callY rfl (by rfl) (by rfl) (by rfl) eg ((hq k hlt').mono ?_))
      rintro _ _ ⟨rfl, rfl⟩
      refine WpOps.nil ⟨Marks.nil _, ?_⟩
      simp only [Vthen, VinBlock, if_true, if_false, Nat.reduceEqDiff, reduceCtorEq]
      refine WpV.cond rfl (fun hqk => ?_) (fun hqk => WpV.skip ?_)
      · refine WpV.seq (WpV.regionE (by simp only [go_sem, reduceCtorEq, Nat.reduceAdd, Nat.reduceMul, Nat.reduceSub, Nat.reduceLT, Nat.reduceLeDiff, Nat.reduceEqDiff, Nat.reduceBEq, Nat.reducePow]; rfl) (Marks.nil _) ?_)
        simp only [Vthen, VinBlock, if_true, if_false, Nat.reduceEqDiff, reduceCtorEq]
        refine WpV.ret ⟨Marks.nil _, List.nodup_nil, _, by simp only [Tryz.results117]; simp only [go_sem, reduceCtorEq, Nat.reduceAdd, Nat.reduceMul, Nat.reduceSub, Nat.reduceLT, Nat.reduceLeDiff, Nat.reduceEqDiff, Nat.reduceBEq, Nat.reducePow]; rfl, ?_⟩
        exact ⟨by rw [firstN_hit q n 0 k (Nat.zero_le _) (by omega) (fun j _ hj => hp j hj) hqk], rfl⟩
      · simp only [Vthen, VinBlock, if_true, if_false, Nat.reduceEqDiff, reduceCtorEq]
        refine WpV.regionE (by simp only [go_sem, reduceCtorEq, Nat.reduceAdd, Nat.reduceMul, Nat.reduceSub, Nat.reduceLT, Nat.reduceLeDiff, Nat.reduceEqDiff, Nat.reduceBEq, Nat.reducePow]; rfl) (Marks.nil _) ?_
        simp only [Vthen, VinBlock, if_true, if_false, Nat.reduceEqDiff, reduceCtorEq]
        refine ⟨by first | rfl | trivial, hlt', fun j hj => ?_, .cons rfl rfl (.cons rfl rfl (.cons rfl rfl (.cons rfl ?_ (.nil _)))), by first | rfl | trivial⟩
        · by_cases e : j = k
          · subst e; exact hqk
          · exact hp j (by omega)
        · rw [wrap64 (by omega)]; rfl
    · have hge : k = n := by have := of_decide_eq_false hb; omega
      subst hge
      simp only [Vthen, VinBlock, if_true, if_false, Nat.reduceEqDiff, reduceCtorEq]
      refine WpV.seq (WpV.regionE (by simp only [go_sem, reduceCtorEq, Nat.reduceAdd, Nat.reduceMul, Nat.reduceSub, Nat.reduceLT, Nat.reduceLeDiff, Nat.reduceEqDiff, Nat.reduceBEq, Nat.reducePow]; rfl) (Marks.nil _) ?_)
      simp only [Vthen, VinBlock, if_true, if_false, Nat.reduceEqDiff, reduceCtorEq]
      refine WpV.ret ⟨Marks.nil _, List.nodup_nil, _, by simp only [Tryz.results117]; simp only [go_sem, reduceCtorEq, Nat.reduceAdd, Nat.reduceMul, Nat.reduceSub, Nat.reduceLT, Nat.reduceLeDiff, Nat.reduceEqDiff, Nat.reduceBEq, Nat.reducePow]; rfl, ?_⟩
      exact ⟨by rw [firstN_none q k 0 (fun j _ hj => hp j (by omega))], rfl⟩

theorem cont_row (H : Hp) (nl clip : Bool) (n : Nat) (cells : List AV) (els : Nat → AV) (g : FuncId) (fs cs : List AV) (q : Nat → Bool) (hn : n < 1000000) (hl : cells.length = n) (hr : ∀ k, k < n → cells[k]? = some (els k)) (eg : EntersF Tryz.prog g)
    (hq : ∀ k, k < n → CallV Tryz.prog g (fs ++ [els k] ++ cs) H (fun r H' => r = .bool (q k) ∧ H' = H)) : CallV Tryz.prog 110 [.sl nl clip n cells, .fn (.func g) fs cs] H (fun r H' => r = .bool (!decide (∀ i, i < n → q i = false)) ∧ H' = H) := by
  refine CallV.body Tryz.func110 rfl Tryz.ntmps110 (by rfl) ?_
  refine WpV.seq (WpV.regionE (by simp only [go_sem, reduceCtorEq, Nat.reduceAdd, Nat.reduceMul, Nat.reduceSub, Nat.reduceLT, Nat.reduceLeDiff, Nat.reduceEqDiff, Nat.reduceBEq, Nat.reducePow]; rfl) (Marks.nil _) ?_)
  simp only [Vthen, VinBlock, if_true, if_false, Nat.reduceEqDiff, reduceCtorEq]
  refine WpV.seq (WpV.region ?_)
  refine WpOps.take 2 (by simp only [go_sem, reduceCtorEq, Nat.reduceAdd, Nat.reduceMul, Nat.reduceSub, Nat.reduceLT, Nat.reduceLeDiff, Nat.reduceEqDiff, Nat.reduceBEq, Nat.reducePow]; rfl) ?_
  refine WpOps.step (by rfl) (by rfl) (OpW.callY rfl (by rfl) (by rfl) (by rfl) (enters_of Tryz.func117 (by kernel_rfl) rfl) ((idx_row H nl clip n cells els g fs cs q hn hl hr eg hq).mono ?_))
  rintro _ _ ⟨rfl, hH⟩
  replace hH := hH.symm
  subst hH
  refine WpOps.take 2 (by simp only [go_sem, reduceCtorEq, Nat.reduceAdd, Nat.reduceMul, Nat.reduceSub, Nat.reduceLT, Nat.reduceLeDiff, Nat.reduceEqDiff, Nat.reduceBEq, Nat.reducePow]; rfl) (WpOps.nil ⟨Marks.nil _, ?_⟩)
  simp only [Vthen, VinBlock, if_true, if_false, Nat.reduceEqDiff, reduceCtorEq]
  refine WpV.ret ⟨Marks.nil _, List.nodup_nil, _, by simp only [Tryz.results110]; simp only [go_sem, reduceCtorEq, Nat.reduceAdd, Nat.reduceMul, Nat.reduceSub, Nat.reduceLT, Nat.reduceLeDiff, Nat.reduceEqDiff, Nat.reduceBEq, Nat.reducePow]; rfl, ?_⟩
  exact ⟨by rw [← firstN_ge], rfl⟩

theorem every1_row (H : Hp) (x : AV) (g : FuncId) (fs cs : List AV) (q : Bool) (eg : EntersF Tryz.prog g) (hq : CallV Tryz.prog g (fs ++ [x] ++ cs) H (fun r H' => r = .bool q ∧ H' = H)) :
    CallV Tryz.prog 111 [x, .cp [.fn (.func g) fs cs] 0] H (fun r H' => r = .bool (!q) ∧ H' = H) := by
  refine CallV.body Tryz.func111 rfl Tryz.ntmps111 (by rfl) ?_
  refine WpV.seq (WpV.regionE (by simp only [go_sem, reduceCtorEq, Nat.reduceAdd, Nat.reduceMul, Nat.reduceSub, Nat.reduceLT, Nat.reduceLeDiff, Nat.reduceEqDiff, Nat.reduceBEq, Nat.reducePow]; rfl) (Marks.nil _) ?_)
  simp only [Vthen, VinBlock, if_true, if_false, Nat.reduceEqDiff, reduceCtorEq]
  refine WpV.seq (WpV.region ?_)
  refine WpOps.take 2 (by simp only [go_sem, reduceCtorEq, Nat.reduceAdd, Nat.reduceMul, Nat.reduceSub, Nat.reduceLT, Nat.reduceLeDiff, Nat.reduceEqDiff, Nat.reduceBEq, Nat.reducePow]; rfl) ?_
  refine WpOps.step (by rfl) (by rfl) (OpW.callY rfl (by rfl) (by rfl) (by rfl) eg (hq.mono ?_))
  rintro _ _ ⟨rfl, rfl⟩
  refine WpOps.take 2 (by simp only [go_sem, reduceCtorEq, Nat.reduceAdd, Nat.reduceMul, Nat.reduceSub, Nat.reduceLT, Nat.reduceLeDiff, Nat.reduceEqDiff, Nat.reduceBEq, Nat.reducePow]; rfl) (WpOps.nil ⟨Marks.nil _, ?_⟩)
  simp only [Vthen, VinBlock, if_true, if_false, Nat.reduceEqDiff, reduceCtorEq]
  refine WpV.ret ⟨Marks.nil _, List.nodup_nil, _, by simp only [Tryz.results111]; simp only [go_sem, reduceCtorEq, Nat.reduceAdd, Nat.reduceMul, Nat.reduceSub, Nat.reduceLT, Nat.reduceLeDiff, Nat.reduceEqDiff, Nat.reduceBEq, Nat.reducePow]; rfl, ?_⟩
  exact ⟨by first | rfl | trivial, rfl⟩

theorem every_row (H : Hp) (nl clip : Bool) (n : Nat) (cells : List AV) (els : Nat → AV) (g : FuncId) (fs cs : List AV) (q : Nat → Bool) (hn : n < 1000000) (hl : cells.length = n) (hr : ∀ k, k < n → cells[k]? = some (els k)) (eg : EntersF Tryz.prog g)
    (hq : ∀ k, k < n → CallV Tryz.prog g (fs ++ [els k] ++ cs) H (fun r H' => r = .bool (q k) ∧ H' = H)) : CallV Tryz.prog 96 [.sl nl clip n cells, .fn (.func g) fs cs] H (fun r H' => r = .bool (decide (∀ i, i < n → q i = true)) ∧ H' = H) := by
  refine CallV.body Tryz.func96 rfl Tryz.ntmps96 (by rfl) ?_
  refine WpV.seq (WpV.regionE (by simp only [go_sem, reduceCtorEq, Nat.reduceAdd, Nat.reduceMul, Nat.reduceSub, Nat.reduceLT, Nat.reduceLeDiff, Nat.reduceEqDiff, Nat.reduceBEq, Nat.reducePow]; rfl) (Marks.nil _) ?_)
  simp only [Vthen, VinBlock, if_true, if_false, Nat.reduceEqDiff, reduceCtorEq]
  refine WpV.seq (WpV.region ?_)
  refine WpOps.take 2 (by simp only [go_sem, reduceCtorEq, Nat.reduceAdd, Nat.reduceMul, Nat.reduceSub, Nat.reduceLT, Nat.reduceLeDiff, Nat.reduceEqDiff, Nat.reduceBEq, Nat.reducePow]; rfl) ?_
  refine WpOps.step (by rfl) (by rfl) (OpW.callY rfl (by rfl) (by rfl) (by rfl) (enters_of Tryz.func110 (by kernel_rfl) rfl) ((cont_row H nl clip n cells els 111 [] [.cp [.fn (.func g) fs cs] 0] (fun k => !q k) hn hl hr (enters_of Tryz.func111 (by kernel_rfl) rfl) (fun k hk => every1_row H _ g fs cs (q k) eg (hq k hk))).mono ?_))
  rintro _ _ ⟨rfl, hH⟩
  replace hH := hH.symm
  subst hH
  refine WpOps.take 2 (by simp only [go_sem, reduceCtorEq, Nat.reduceAdd, Nat.reduceMul, Nat.reduceSub, Nat.reduceLT, Nat.reduceLeDiff, Nat.reduceEqDiff, Nat.reduceBEq, Nat.reducePow]; rfl) (WpOps.nil ⟨Marks.nil _, ?_⟩)
  simp only [Vthen, VinBlock, if_true, if_false, Nat.reduceEqDiff, reduceCtorEq]
  refine WpV.ret ⟨Marks.nil _, List.nodup_nil, _, by simp only [Tryz.results96]; simp only [go_sem, reduceCtorEq, Nat.reduceAdd, Nat.reduceMul, Nat.reduceSub, Nat.reduceLT, Nat.reduceLeDiff, Nat.reduceEqDiff, Nat.reduceBEq, Nat.reducePow]; rfl, ?_⟩
  exact ⟨by congr 1; simp, rfl⟩

/-- 'slices.IndexFunc', 'slices.ContainsFunc', 'every': of a condition that turns nothing. -/
theorem idx_pair (H : Hp) (nl clip : Bool) (n : Nat) (cells : List AV) (els : Nat → AV) (g : FuncId) (fs cs : List AV) (q : Nat → Bool) (hn : n < 1000000) (hl : cells.length = n * 3) (hr : ∀ k, k < n → .agg ((cells.drop (k * 3)).take 3) = els k) (eg : EntersF Tryz.prog g)
    (hq : ∀ k, k < n → CallV Tryz.prog g (fs ++ [els k] ++ cs) H (fun r H' => r = .bool (q k) ∧ H' = H)) : CallV Tryz.prog 118 [.sl nl clip n cells, .fn (.func g) fs cs] H (fun r H' => r = vint (firstN q 0 n) ∧ H' = H) := by
  refine CallV.body Tryz.func118 rfl Tryz.ntmps118 (by rfl) ?_
  refine WpV.seq (WpV.regionE (by simp only [go_sem, reduceCtorEq, Nat.reduceAdd, Nat.reduceMul, Nat.reduceSub, Nat.reduceLT, Nat.reduceLeDiff, Nat.reduceEqDiff, Nat.reduceBEq, Nat.reducePow]; rfl) (Marks.nil _) ?_)
  simp only [Vthen, VinBlock, if_true, if_false, Nat.reduceEqDiff, reduceCtorEq]
  refine WpV.seq (WpV.seq (WpV.regionE (by simp only [go_sem, reduceCtorEq, Nat.reduceAdd, Nat.reduceMul, Nat.reduceSub, Nat.reduceLT, Nat.reduceLeDiff, Nat.reduceEqDiff, Nat.reduceBEq, Nat.reducePow]; rfl) (Marks.nil _) ?_))
  simp only [Vthen, VinBlock, if_true, if_false, Nat.reduceEqDiff, reduceCtorEq]
  refine WpV.block (WpV.loopP n (fun k => ∀ j, j < k → q j = false) (fun k => [(0, .sl nl clip n cells), (1, .fn (.func g) fs cs), (7, vint n), (8, vint k)]) (fun _ => H) (fun j hj => absurd hj (Nat.not_lt_zero _)) ?_ rfl ?_)
  · exact .cons rfl rfl (.cons rfl rfl (.cons rfl rfl (.cons rfl rfl (.nil _))))
  · intro k hk hp
    refine WpV.seq (WpV.regionE (by simp only [go_sem, reduceCtorEq, Nat.reduceAdd, Nat.reduceMul, Nat.reduceSub, Nat.reduceLT, Nat.reduceLeDiff, Nat.reduceEqDiff, Nat.reduceBEq, Nat.reducePow]; rfl) (Marks.nil _) ?_)
    simp only [Vthen, VinBlock, if_true, if_false, Nat.reduceEqDiff, reduceCtorEq]
    refine WpV.seq (WpV.cond rfl (fun hb => WpV.skip ?_) (fun hb => WpV.exit ?_))
    · have hlt : (k : Int) < (n : Int) := of_decide_eq_true hb
      have hlt' : k < n := by omega
      have hle : k * 3 + 3 ≤ cells.length := by omega
      simp only [Vthen, VinBlock, if_true, if_false, Nat.reduceEqDiff, reduceCtorEq]
      refine WpV.seq (WpV.block (WpV.seq (WpV.regionE (by simp only [go_sem, reduceCtorEq, Nat.reduceAdd, Nat.reduceMul, Nat.reduceSub, Nat.reduceLT, Nat.reduceLeDiff, Nat.reduceEqDiff, Nat.reduceBEq, Nat.reducePow]; rfl) (Marks.nil _) ?_)))
      simp only [Vthen, VinBlock, if_true, if_false, Nat.reduceEqDiff, reduceCtorEq]
      refine WpV.seq (WpV.region ?_)
      refine WpOps.take 5 (by simp only [go_sem, reduceCtorEq, Nat.reduceAdd, Nat.reduceMul, Nat.reduceSub, Nat.reduceLT, Nat.reduceLeDiff, Nat.reduceEqDiff, Nat.reduceBEq, Nat.reducePow, hlt, hle]; rfl) ?_
      rw [hr k hlt']
      refine WpOps.step (by rfl) (by rfl) (OpW.callY rfl (by rfl) (by rfl) (by rfl) eg ((hq k hlt').mono ?_))
      rintro _ _ ⟨rfl, rfl⟩
      refine WpOps.nil ⟨Marks.nil _, ?_⟩
      simp only [Vthen, VinBlock, if_true, if_false, Nat.reduceEqDiff, reduceCtorEq]
      refine WpV.cond rfl (fun hqk => ?_) (fun hqk => WpV.skip ?_)
      · refine WpV.seq (WpV.regionE (by simp only [go_sem, reduceCtorEq, Nat.reduceAdd, Nat.reduceMul, Nat.reduceSub, Nat.reduceLT, Nat.reduceLeDiff, Nat.reduceEqDiff, Nat.reduceBEq, Nat.reducePow]; rfl) (Marks.nil _) ?_)
        simp only [Vthen, VinBlock, if_true, if_false, Nat.reduceEqDiff, reduceCtorEq]
        refine WpV.ret ⟨Marks.nil _, List.nodup_nil, _, by simp only [Tryz.results118]; simp only [go_sem, reduceCtorEq, Nat.reduceAdd, Nat.reduceMul, Nat.reduceSub, Nat.reduceLT, Nat.reduceLeDiff, Nat.reduceEqDiff, Nat.reduceBEq, Nat.reducePow]; rfl, ?_⟩
        exact ⟨by rw [firstN_hit q n 0 k (Nat.zero_le _) (by omega) (fun j _ hj => hp j hj) hqk], rfl⟩
      · simp only [Vthen, VinBlock, if_true, if_false, Nat.reduceEqDiff, reduceCtorEq]
        refine WpV.regionE (by simp only [go_sem, reduceCtorEq, Nat.reduceAdd, Nat.reduceMul, Nat.reduceSub, Nat.reduceLT, Nat.reduceLeDiff, Nat.reduceEqDiff, Nat.reduceBEq, Nat.reducePow]; rfl) (Marks.nil _) ?_
        simp only [Vthen, VinBlock, if_true, if_false, Nat.reduceEqDiff, reduceCtorEq]
        refine ⟨by first | rfl | trivial, hlt', fun j hj => ?_, .cons rfl rfl (.cons rfl rfl (.cons rfl rfl (.cons rfl ?_ (.nil _)))), by first | rfl | trivial⟩
        · by_cases e : j = k
          · subst e; exact hqk
          · exact hp j (by omega)
        · rw [wrap64 (by omega)]; rfl
    · have hge : k = n := by have := of_decide_eq_false hb; omega
      subst hge
      simp only [Vthen, VinBlock, if_true, if_false, Nat.reduceEqDiff, reduceCtorEq]
      refine WpV.seq (WpV.regionE (by simp only [go_sem, reduceCtorEq, Nat.reduceAdd, Nat.reduceMul, Nat.reduceSub, Nat.reduceLT, Nat.reduceLeDiff, Nat.reduceEqDiff, Nat.reduceBEq, Nat.reducePow]; rfl) (Marks.nil _) ?_)
      simp only [Vthen, VinBlock, if_true, if_false, Nat.reduceEqDiff, reduceCtorEq]
      refine WpV.ret ⟨Marks.nil _, List.nodup_nil, _, by simp only [Tryz.results118]; simp only [go_sem, reduceCtorEq, Nat.reduceAdd, Nat.reduceMul, Nat.reduceSub, Nat.reduceLT, Nat.reduceLeDiff, Nat.reduceEqDiff, Nat.reduceBEq, Nat.reducePow]; rfl, ?_⟩
      exact ⟨by rw [firstN_none q k 0 (fun j _ hj => hp j (by omega))], rfl⟩

theorem cont_pair (H : Hp) (nl clip : Bool) (n : Nat) (cells : List AV) (els : Nat → AV) (g : FuncId) (fs cs : List AV) (q : Nat → Bool) (hn : n < 1000000) (hl : cells.length = n * 3) (hr : ∀ k, k < n → .agg ((cells.drop (k * 3)).take 3) = els k) (eg : EntersF Tryz.prog g)
    (hq : ∀ k, k < n → CallV Tryz.prog g (fs ++ [els k] ++ cs) H (fun r H' => r = .bool (q k) ∧ H' = H)) : CallV Tryz.prog 113 [.sl nl clip n cells, .fn (.func g) fs cs] H (fun r H' => r = .bool (!decide (∀ i, i < n → q i = false)) ∧ H' = H) := by
  refine CallV.body Tryz.func113 rfl Tryz.ntmps113 (by rfl) ?_
  refine WpV.seq (WpV.regionE (by simp only [go_sem, reduceCtorEq, Nat.reduceAdd, Nat.reduceMul, Nat.reduceSub, Nat.reduceLT, Nat.reduceLeDiff, Nat.reduceEqDiff, Nat.reduceBEq, Nat.reducePow]; rfl) (Marks.nil _) ?_)
  simp only [Vthen, VinBlock, if_true, if_false, Nat.reduceEqDiff, reduceCtorEq]
  refine WpV.seq (WpV.region ?_)
  refine WpOps.take 2 (by simp only [go_sem, reduceCtorEq, Nat.reduceAdd, Nat.reduceMul, Nat.reduceSub, Nat.reduceLT, Nat.reduceLeDiff, Nat.reduceEqDiff, Nat.reduceBEq, Nat.reducePow]; rfl) ?_
  refine WpOps.step (by rfl) (by rfl) (OpW.callY rfl (by rfl) (by rfl) (by rfl) (enters_of Tryz.func118 (by kernel_rfl) rfl) ((idx_pair H nl clip n cells els g fs cs q hn hl hr eg hq).mono ?_))
  rintro _ _ ⟨rfl, hH⟩
  replace hH := hH.symm
  subst hH
  refine WpOps.take 2 (by simp only [go_sem, reduceCtorEq, Nat.reduceAdd, Nat.reduceMul, Nat.reduceSub, Nat.reduceLT, Nat.reduceLeDiff, Nat.reduceEqDiff, Nat.reduceBEq, Nat.reducePow]; rfl) (WpOps.nil ⟨Marks.nil _, ?_⟩)
  simp only [Vthen, VinBlock, if_true, if_false, Nat.reduceEqDiff, reduceCtorEq]
  refine WpV.ret ⟨Marks.nil _, List.nodup_nil, _, by simp only [Tryz.results113]; simp only [go_sem, reduceCtorEq, Nat.reduceAdd, Nat.reduceMul, Nat.reduceSub, Nat.reduceLT, Nat.reduceLeDiff, Nat.reduceEqDiff, Nat.reduceBEq, Nat.reducePow]; rfl, ?_⟩
  exact ⟨by rw [← firstN_ge], rfl⟩

theorem every1_pair (H : Hp) (x : AV) (a b c : Int) (hx : x = .agg [vint a, vint b, vint c]) (g : FuncId) (fs cs : List AV) (q : Bool) (eg : EntersF Tryz.prog g) (hq : CallV Tryz.prog g (fs ++ [x] ++ cs) H (fun r H' => r = .bool q ∧ H' = H)) :
    CallV Tryz.prog 114 [x, .cp [.fn (.func g) fs cs] 0] H (fun r H' => r = .bool (!q) ∧ H' = H) := by
  subst hx
  refine CallV.body Tryz.func114 rfl Tryz.ntmps114 (by rfl) ?_
  refine WpV.seq (WpV.regionE (by simp only [go_sem, reduceCtorEq, Nat.reduceAdd, Nat.reduceMul, Nat.reduceSub, Nat.reduceLT, Nat.reduceLeDiff, Nat.reduceEqDiff, Nat.reduceBEq, Nat.reducePow]; rfl) (Marks.nil _) ?_)
  simp only [Vthen, VinBlock, if_true, if_false, Nat.reduceEqDiff, reduceCtorEq]
  refine WpV.seq (WpV.region ?_)
  refine WpOps.take 2 (by simp only [go_sem, reduceCtorEq, Nat.reduceAdd, Nat.reduceMul, Nat.reduceSub, Nat.reduceLT, Nat.reduceLeDiff, Nat.reduceEqDiff, Nat.reduceBEq, Nat.reducePow]; rfl) ?_
  refine WpOps.step (by rfl) (by rfl) (OpW.callY rfl (by rfl) (by rfl) (by rfl) eg (hq.mono ?_))
  rintro _ _ ⟨rfl, rfl⟩
  refine WpOps.take 2 (by simp only [go_sem, reduceCtorEq, Nat.reduceAdd, Nat.reduceMul, Nat.reduceSub, Nat.reduceLT, Nat.reduceLeDiff, Nat.reduceEqDiff, Nat.reduceBEq, Nat.reducePow]; rfl) (WpOps.nil ⟨Marks.nil _, ?_⟩)
  simp only [Vthen, VinBlock, if_true, if_false, Nat.reduceEqDiff, reduceCtorEq]
  refine WpV.ret ⟨Marks.nil _, List.nodup_nil, _, by simp only [Tryz.results114]; simp only [go_sem, reduceCtorEq, Nat.reduceAdd, Nat.reduceMul, Nat.reduceSub, Nat.reduceLT, Nat.reduceLeDiff, Nat.reduceEqDiff, Nat.reduceBEq, Nat.reducePow]; rfl, ?_⟩
  exact ⟨by first | rfl | trivial, rfl⟩

theorem every_pair (H : Hp) (nl clip : Bool) (n : Nat) (cells : List AV) (els : Nat → AV) (g : FuncId) (fs cs : List AV) (q : Nat → Bool) (hn : n < 1000000) (hl : cells.length = n * 3) (hr : ∀ k, k < n → .agg ((cells.drop (k * 3)).take 3) = els k) (ha : ∀ k, k < n → ∃ a b c : Int, els k = .agg [vint a, vint b, vint c]) (eg : EntersF Tryz.prog g)
    (hq : ∀ k, k < n → CallV Tryz.prog g (fs ++ [els k] ++ cs) H (fun r H' => r = .bool (q k) ∧ H' = H)) : CallV Tryz.prog 102 [.sl nl clip n cells, .fn (.func g) fs cs] H (fun r H' => r = .bool (decide (∀ i, i < n → q i = true)) ∧ H' = H) := by
  refine CallV.body Tryz.func102 rfl Tryz.ntmps102 (by rfl) ?_
  refine WpV.seq (WpV.regionE (by simp only [go_sem, reduceCtorEq, Nat.reduceAdd, Nat.reduceMul, Nat.reduceSub, Nat.reduceLT, Nat.reduceLeDiff, Nat.reduceEqDiff, Nat.reduceBEq, Nat.reducePow]; rfl) (Marks.nil _) ?_)
  simp only [Vthen, VinBlock, if_true, if_false, Nat.reduceEqDiff, reduceCtorEq]
  refine WpV.seq (WpV.region ?_)
  refine WpOps.take 2 (by simp only [go_sem, reduceCtorEq, Nat.reduceAdd, Nat.reduceMul, Nat.reduceSub, Nat.reduceLT, Nat.reduceLeDiff, Nat.reduceEqDiff, Nat.reduceBEq, Nat.reducePow]; rfl) ?_
  refine WpOps.step (by rfl) (by rfl) (OpW.callY rfl (by rfl) (by rfl) (by rfl) (enters_of Tryz.func113 (by kernel_rfl) rfl) ((cont_pair H nl clip n cells els 114 [] [.cp [.fn (.func g) fs cs] 0] (fun k => !q k) hn hl hr (enters_of Tryz.func114 (by kernel_rfl) rfl) (fun k hk => by obtain ⟨a, b, c, e⟩ := ha k hk; exact every1_pair H _ a b c e g fs cs (q k) eg (hq k hk))).mono ?_))
  rintro _ _ ⟨rfl, hH⟩
  replace hH := hH.symm
  subst hH
  refine WpOps.take 2 (by simp only [go_sem, reduceCtorEq, Nat.reduceAdd, Nat.reduceMul, Nat.reduceSub, Nat.reduceLT, Nat.reduceLeDiff, Nat.reduceEqDiff, Nat.reduceBEq, Nat.reducePow]; rfl) (WpOps.nil ⟨Marks.nil _, ?_⟩)
  simp only [Vthen, VinBlock, if_true, if_false, Nat.reduceEqDiff, reduceCtorEq]
  refine WpV.ret ⟨Marks.nil _, List.nodup_nil, _, by simp only [Tryz.results102]; simp only [go_sem, reduceCtorEq, Nat.reduceAdd, Nat.reduceMul, Nat.reduceSub, Nat.reduceLT, Nat.reduceLeDiff, Nat.reduceEqDiff, Nat.reduceBEq, Nat.reducePow]; rfl, ?_⟩
  exact ⟨by congr 1; simp, rfl⟩

end Go.Proofs.YtaekibilldjnmaaGreat
namespace Go.Proofs.YtaekibilldjnmaaGreat
open Go.Proofs

abbrev EN (f : FuncId) : Prop := EntersF Tryz.prog f
def inB (lo hi n : Int) : Bool := decide (lo ≤ n) && decide (n ≤ hi)
def insB (lo hi : Int) (xs : List Int) : Bool := xs.all (inB lo hi)

theorem in_one (H : Hp) (lo hi n : Int) : CallV Tryz.prog 73 [vint n, .cp [vint lo] 0, .cp [vint hi] 0] H (fun r H' => r = .bool (inB lo hi n) ∧ H' = H) := by
  refine CallV.body Tryz.func73 rfl Tryz.ntmps73 (by rfl) ?_
  refine WpV.seq (WpV.regionE (by simp only [go_sem, reduceCtorEq, Nat.reduceAdd, Nat.reduceMul, Nat.reduceSub, Nat.reduceLT, Nat.reduceLeDiff, Nat.reduceEqDiff, Nat.reduceBEq, Nat.reducePow]; rfl) (Marks.nil _) ?_)
  simp only [Vthen, VinBlock, if_true, if_false, Nat.reduceEqDiff, reduceCtorEq]
  by_cases h : lo ≤ n
  · refine WpV.seq (WpV.regionE (by simp only [go_sem, reduceCtorEq, Nat.reduceAdd, Nat.reduceMul, Nat.reduceSub, Nat.reduceLT, Nat.reduceLeDiff, Nat.reduceEqDiff, Nat.reduceBEq, Nat.reducePow, h]; rfl) (Marks.nil _) ?_)
    simp only [Vthen, VinBlock, if_true, if_false, Nat.reduceEqDiff, reduceCtorEq]
    refine WpV.ret ⟨Marks.nil _, List.nodup_nil, _, by simp only [Tryz.results73]; simp only [go_sem, reduceCtorEq, Nat.reduceAdd, Nat.reduceMul, Nat.reduceSub, Nat.reduceLT, Nat.reduceLeDiff, Nat.reduceEqDiff, Nat.reduceBEq, Nat.reducePow]; rfl, ?_⟩
    exact ⟨by simp [inB, h], rfl⟩
  · refine WpV.seq (WpV.regionE (by simp only [go_sem, reduceCtorEq, Nat.reduceAdd, Nat.reduceMul, Nat.reduceSub, Nat.reduceLT, Nat.reduceLeDiff, Nat.reduceEqDiff, Nat.reduceBEq, Nat.reducePow, h]; rfl) (Marks.nil _) ?_)
    simp only [Vthen, VinBlock, if_true, if_false, Nat.reduceEqDiff, reduceCtorEq]
    refine WpV.ret ⟨Marks.nil _, List.nodup_nil, _, by simp only [Tryz.results73]; simp only [go_sem, reduceCtorEq, Nat.reduceAdd, Nat.reduceMul, Nat.reduceSub, Nat.reduceLT, Nat.reduceLeDiff, Nat.reduceEqDiff, Nat.reduceBEq, Nat.reducePow]; rfl, ?_⟩
    exact ⟨by simp [inB, h], rfl⟩

theorem all_get (p : Int → Bool) (xs : List Int) : decide (∀ i, i < xs.length → (fun i => p (xs.getD i 0)) i = true) = xs.all p := by
  rw [Bool.eq_iff_iff, decide_eq_true_iff, List.all_eq_true]
  constructor
  · intro h x hx
    obtain ⟨i, hi, rfl⟩ := List.getElem_of_mem hx
    have := h i hi
    simpa [List.getD_eq_getElem?_getD, hi] using this
  · intro h i hi
    have := h xs[i] (List.getElem_mem _)
    simpa [List.getD_eq_getElem?_getD, hi] using this

theorem within_any (H : Hp) (lo hi : Int) (nl clip : Bool) (xs : List Int) (hn : xs.length < 1000000) : CallV Tryz.prog 49 [vint lo, vint hi, vints nl clip xs] H (fun r H' => r = .bool (insB lo hi xs) ∧ H' = H) := by
  refine CallV.body Tryz.func49 rfl Tryz.ntmps49 (by rfl) ?_
  refine WpV.seq (WpV.regionE (by simp only [go_sem, reduceCtorEq, Nat.reduceAdd, Nat.reduceMul, Nat.reduceSub, Nat.reduceLT, Nat.reduceLeDiff, Nat.reduceEqDiff, Nat.reduceBEq, Nat.reducePow]; rfl) (Marks.nil _) ?_)
  simp only [Vthen, VinBlock, if_true, if_false, Nat.reduceEqDiff, reduceCtorEq]
  refine WpV.seq (WpV.region ?_)
  refine WpOps.take 2 (by simp only [go_sem, reduceCtorEq, Nat.reduceAdd, Nat.reduceMul, Nat.reduceSub, Nat.reduceLT, Nat.reduceLeDiff, Nat.reduceEqDiff, Nat.reduceBEq, Nat.reducePow]; rfl) ?_
  refine WpOps.step (by rfl) (by rfl) (OpW.callY rfl (by rfl) (by rfl) (by rfl) (enters_of Tryz.func72 (by kernel_rfl) rfl) ((every_int H nl clip xs.length (xs.map vint) (fun i => vint (xs.getD i 0)) 73 [] [.cp [vint lo] 0, .cp [vint hi] 0] (fun i => inB lo hi (xs.getD i 0)) hn (by simp) (fun k hk => by simp [hk]) (enters_of Tryz.func73 (by kernel_rfl) rfl) (fun k _ => in_one H lo hi _)).mono ?_))
  rintro _ _ ⟨rfl, hH⟩
  replace hH := hH.symm
  subst hH
  refine WpOps.take 1 (by simp only [go_sem, reduceCtorEq, Nat.reduceAdd, Nat.reduceMul, Nat.reduceSub, Nat.reduceLT, Nat.reduceLeDiff, Nat.reduceEqDiff, Nat.reduceBEq, Nat.reducePow]; rfl) (WpOps.nil ⟨Marks.nil _, ?_⟩)
  simp only [Vthen, VinBlock, if_true, if_false, Nat.reduceEqDiff, reduceCtorEq]
  refine WpV.ret ⟨Marks.nil _, List.nodup_nil, _, by simp only [Tryz.results49]; simp only [go_sem, reduceCtorEq, Nat.reduceAdd, Nat.reduceMul, Nat.reduceSub, Nat.reduceLT, Nat.reduceLeDiff, Nat.reduceEqDiff, Nat.reduceBEq, Nat.reducePow]; rfl, ?_⟩
  exact ⟨by rw [all_get (inB lo hi)]; rfl, rfl⟩

theorem lengths_any (H : Hp) (nl clip : Bool) (xs : List Int) (hn : xs.length < 1000000) : CallV Tryz.prog 50 [vints nl clip xs] H (fun r H' => r = .bool (insB 1 400 xs) ∧ H' = H) := by
  refine CallV.body Tryz.func50 rfl Tryz.ntmps50 (by rfl) ?_
  refine WpV.seq (WpV.regionE (by simp only [go_sem, reduceCtorEq, Nat.reduceAdd, Nat.reduceMul, Nat.reduceSub, Nat.reduceLT, Nat.reduceLeDiff, Nat.reduceEqDiff, Nat.reduceBEq, Nat.reducePow]; rfl) (Marks.nil _) ?_)
  simp only [Vthen, VinBlock, if_true, if_false, Nat.reduceEqDiff, reduceCtorEq]
  refine WpV.seq (WpV.region ?_)
  refine WpOps.take 1 (by simp only [go_sem, reduceCtorEq, Nat.reduceAdd, Nat.reduceMul, Nat.reduceSub, Nat.reduceLT, Nat.reduceLeDiff, Nat.reduceEqDiff, Nat.reduceBEq, Nat.reducePow]; rfl) ?_
  refine WpOps.step (by rfl) (by rfl) (OpW.callY rfl (by rfl) (by rfl) (by rfl) (enters_of Tryz.func49 (by kernel_rfl) rfl) ((within_any H 1 400 nl clip xs hn).mono ?_))
  rintro _ _ ⟨rfl, hH⟩
  replace hH := hH.symm
  subst hH
  refine WpOps.take 1 (by simp only [go_sem, reduceCtorEq, Nat.reduceAdd, Nat.reduceMul, Nat.reduceSub, Nat.reduceLT, Nat.reduceLeDiff, Nat.reduceEqDiff, Nat.reduceBEq, Nat.reducePow]; rfl) (WpOps.nil ⟨Marks.nil _, ?_⟩)
  simp only [Vthen, VinBlock, if_true, if_false, Nat.reduceEqDiff, reduceCtorEq]
  refine WpV.ret ⟨Marks.nil _, List.nodup_nil, _, by simp only [Tryz.results50]; simp only [go_sem, reduceCtorEq, Nat.reduceAdd, Nat.reduceMul, Nat.reduceSub, Nat.reduceLT, Nat.reduceLeDiff, Nat.reduceEqDiff, Nat.reduceBEq, Nat.reducePow]; rfl, ?_⟩
  exact ⟨rfl, rfl⟩

/-- A case, as it lies in memory. -/
structure Cs where
  wn : Bool
  wc : Bool
  ws : List Int
  pn : Bool
  pc : Bool
  ps : List (Int × Int × Int)
  rim : Int
  least : Int
  blank : Int
def pairC (p : Int × Int × Int) : List AV := [vint p.1, vint p.2.1, vint p.2.2]
abbrev Cs.cells (c : Cs) : List AV := [vints c.wn c.wc c.ws, .sl c.pn c.pc c.ps.length (c.ps.flatMap pairC), vint c.rim, vint c.least, vint c.blank]
structure Cs.Ok (c : Cs) : Prop where
  ws : c.ws.length < 1000000
  ps : c.ps.length < 1000000

def Cs.letters (c : Cs) (xs : List Int) : Bool := insB 0 (c.ws.length - 1) xs

theorem letters_any (H : Hp) (c : Cs) (hc : c.Ok) (nl clip : Bool) (xs : List Int) (hn : xs.length < 1000000) : CallV Tryz.prog 83 [.agg c.cells, vints nl clip xs] H (fun r H' => r = .bool (c.letters xs) ∧ H' = H) := by
  have := hc.ws
  refine CallV.body Tryz.func83 rfl Tryz.ntmps83 (by rfl) ?_
  refine WpV.seq (WpV.regionE (by simp only [go_sem, reduceCtorEq, Nat.reduceAdd, Nat.reduceMul, Nat.reduceSub, Nat.reduceLT, Nat.reduceLeDiff, Nat.reduceEqDiff, Nat.reduceBEq, Nat.reducePow]; rfl) (Marks.nil _) ?_)
  simp only [Vthen, VinBlock, if_true, if_false, Nat.reduceEqDiff, reduceCtorEq]
  refine WpV.seq (WpV.region ?_)
  refine WpOps.take 5 (by simp only [go_sem, reduceCtorEq, Nat.reduceAdd, Nat.reduceMul, Nat.reduceSub, Nat.reduceLT, Nat.reduceLeDiff, Nat.reduceEqDiff, Nat.reduceBEq, Nat.reducePow]; rfl) ?_
  refine WpOps.step (by rfl) (by rfl) (OpW.callY rfl (by rfl) (by rfl) (by rfl) (enters_of Tryz.func49 (by kernel_rfl) rfl) ((within_any H 0 _ nl clip xs hn).mono ?_))
  rintro _ _ ⟨rfl, hH⟩
  replace hH := hH.symm
  subst hH
  refine WpOps.take 1 (by simp only [go_sem, reduceCtorEq, Nat.reduceAdd, Nat.reduceMul, Nat.reduceSub, Nat.reduceLT, Nat.reduceLeDiff, Nat.reduceEqDiff, Nat.reduceBEq, Nat.reducePow]; rfl) (WpOps.nil ⟨Marks.nil _, ?_⟩)
  simp only [Vthen, VinBlock, if_true, if_false, Nat.reduceEqDiff, reduceCtorEq]
  refine WpV.ret ⟨Marks.nil _, List.nodup_nil, _, by simp only [Tryz.results83]; simp only [go_sem, reduceCtorEq, Nat.reduceAdd, Nat.reduceMul, Nat.reduceSub, Nat.reduceLT, Nat.reduceLeDiff, Nat.reduceEqDiff, Nat.reduceBEq, Nat.reducePow]; rfl, ?_⟩
  exact ⟨by rw [wrap64 (by omega)]; rfl, rfl⟩

theorem gaps_any (H : Hp) (nl clip : Bool) (w : List Int) (nl2 clip2 : Bool) (gs : List Int) (hw : w.length < 1000000) (hg : gs.length < 1000000) :
    CallV Tryz.prog 66 [vints nl clip w, vints nl2 clip2 gs] H (fun r H' => r = .bool (((gs.length : Int) == w.length - 1) && insB 0 400 gs) ∧ H' = H) := by
  refine CallV.body Tryz.func66 rfl Tryz.ntmps66 (by rfl) ?_
  refine WpV.seq (WpV.regionE (by simp only [go_sem, reduceCtorEq, Nat.reduceAdd, Nat.reduceMul, Nat.reduceSub, Nat.reduceLT, Nat.reduceLeDiff, Nat.reduceEqDiff, Nat.reduceBEq, Nat.reducePow]; rfl) (Marks.nil _) ?_)
  simp only [Vthen, VinBlock, if_true, if_false, Nat.reduceEqDiff, reduceCtorEq]
  cases h : ((gs.length : Int) == IntKind.i64.wrap (w.length - 1))
  · refine WpV.seq (WpV.region ?_)
    refine WpOps.take 8 (by simp only [go_sem, reduceCtorEq, Nat.reduceAdd, Nat.reduceMul, Nat.reduceSub, Nat.reduceLT, Nat.reduceLeDiff, Nat.reduceEqDiff, Nat.reduceBEq, Nat.reducePow, h]; rfl) ?_
    refine WpOps.take 3 (by simp only [go_sem, reduceCtorEq, Nat.reduceAdd, Nat.reduceMul, Nat.reduceSub, Nat.reduceLT, Nat.reduceLeDiff, Nat.reduceEqDiff, Nat.reduceBEq, Nat.reducePow, h]; rfl) (WpOps.nil ⟨Marks.nil _, ?_⟩)
    simp only [Vthen, VinBlock, if_true, if_false, Nat.reduceEqDiff, reduceCtorEq]
    refine WpV.ret ⟨Marks.nil _, List.nodup_nil, _, by simp only [Tryz.results66]; simp only [go_sem, reduceCtorEq, Nat.reduceAdd, Nat.reduceMul, Nat.reduceSub, Nat.reduceLT, Nat.reduceLeDiff, Nat.reduceEqDiff, Nat.reduceBEq, Nat.reducePow]; rfl, ?_⟩
    rw [wrap64 (by omega)] at h
    exact ⟨by simp [h], rfl⟩
  · refine WpV.seq (WpV.region ?_)
    refine WpOps.take 8 (by simp only [go_sem, reduceCtorEq, Nat.reduceAdd, Nat.reduceMul, Nat.reduceSub, Nat.reduceLT, Nat.reduceLeDiff, Nat.reduceEqDiff, Nat.reduceBEq, Nat.reducePow, h]; rfl) ?_
    refine WpOps.step (by rfl) (by rfl) (OpW.callY rfl (by rfl) (by rfl) (by rfl) (enters_of Tryz.func49 (by kernel_rfl) rfl) ((within_any H 0 400 nl2 clip2 gs hg).mono ?_))
    rintro _ _ ⟨rfl, hH⟩
    replace hH := hH.symm
    subst hH
    refine WpOps.take 2 (by simp only [go_sem, reduceCtorEq, Nat.reduceAdd, Nat.reduceMul, Nat.reduceSub, Nat.reduceLT, Nat.reduceLeDiff, Nat.reduceEqDiff, Nat.reduceBEq, Nat.reducePow, h]; rfl) (WpOps.nil ⟨Marks.nil _, ?_⟩)
    simp only [Vthen, VinBlock, if_true, if_false, Nat.reduceEqDiff, reduceCtorEq]
    refine WpV.ret ⟨Marks.nil _, List.nodup_nil, _, by simp only [Tryz.results66]; simp only [go_sem, reduceCtorEq, Nat.reduceAdd, Nat.reduceMul, Nat.reduceSub, Nat.reduceLT, Nat.reduceLeDiff, Nat.reduceEqDiff, Nat.reduceBEq, Nat.reducePow]; rfl, ?_⟩
    rw [wrap64 (by omega)] at h
    exact ⟨by simp [h], rfl⟩

def Cs.word (c : Cs) (w : List Int) : Bool := insB 1 7 [(w.length : Int)] && c.letters w
def Cs.blotted (c : Cs) (w : List Int) : Bool := insB 1 7 [(w.length : Int)] && w.all (fun n => (n == -1) || c.letters [n])

theorem word_any (H : Hp) (c : Cs) (hc : c.Ok) (nl clip : Bool) (w : List Int) (hw : w.length < 1000000) : CallV Tryz.prog 58 [.agg c.cells, vints nl clip w] H (fun r H' => r = .bool (c.word w) ∧ H' = H) := by
  refine CallV.body Tryz.func58 rfl Tryz.ntmps58 (by rfl) ?_
  refine WpV.seq (WpV.regionE (by simp only [go_sem, reduceCtorEq, Nat.reduceAdd, Nat.reduceMul, Nat.reduceSub, Nat.reduceLT, Nat.reduceLeDiff, Nat.reduceEqDiff, Nat.reduceBEq, Nat.reducePow]; rfl) (Marks.nil _) ?_)
  simp only [Vthen, VinBlock, if_true, if_false, Nat.reduceEqDiff, reduceCtorEq]
  have h1 := within_any H 1 7 false true [(w.length : Int)] (by simp)
  cases hb : insB 1 7 [(w.length : Int)]
  · rw [hb] at h1
    refine WpV.seq (WpV.region ?_)
    refine WpOps.take 3 (by simp only [go_sem, reduceCtorEq, Nat.reduceAdd, Nat.reduceMul, Nat.reduceSub, Nat.reduceLT, Nat.reduceLeDiff, Nat.reduceEqDiff, Nat.reduceBEq, Nat.reducePow]; rfl) ?_
    refine WpOps.step (by rfl) (by rfl) (OpW.callY rfl (by rfl) (by rfl) (by rfl) (enters_of Tryz.func49 (by kernel_rfl) rfl) ((h1).mono ?_))
    rintro _ _ ⟨rfl, hH⟩
    replace hH := hH.symm
    subst hH
    refine WpOps.take 6 (by simp only [go_sem, reduceCtorEq, Nat.reduceAdd, Nat.reduceMul, Nat.reduceSub, Nat.reduceLT, Nat.reduceLeDiff, Nat.reduceEqDiff, Nat.reduceBEq, Nat.reducePow]; rfl) (WpOps.nil ⟨Marks.nil _, ?_⟩)
    simp only [Vthen, VinBlock, if_true, if_false, Nat.reduceEqDiff, reduceCtorEq]
    refine WpV.ret ⟨Marks.nil _, List.nodup_nil, _, by simp only [Tryz.results58]; simp only [go_sem, reduceCtorEq, Nat.reduceAdd, Nat.reduceMul, Nat.reduceSub, Nat.reduceLT, Nat.reduceLeDiff, Nat.reduceEqDiff, Nat.reduceBEq, Nat.reducePow]; rfl, ?_⟩
    exact ⟨by simp [Cs.word, hb], rfl⟩
  · rw [hb] at h1
    refine WpV.seq (WpV.region ?_)
    refine WpOps.take 3 (by simp only [go_sem, reduceCtorEq, Nat.reduceAdd, Nat.reduceMul, Nat.reduceSub, Nat.reduceLT, Nat.reduceLeDiff, Nat.reduceEqDiff, Nat.reduceBEq, Nat.reducePow]; rfl) ?_
    refine WpOps.step (by rfl) (by rfl) (OpW.callY rfl (by rfl) (by rfl) (by rfl) (enters_of Tryz.func49 (by kernel_rfl) rfl) ((h1).mono ?_))
    rintro _ _ ⟨rfl, hH⟩
    replace hH := hH.symm
    subst hH
    refine WpOps.take 3 (by simp only [go_sem, reduceCtorEq, Nat.reduceAdd, Nat.reduceMul, Nat.reduceSub, Nat.reduceLT, Nat.reduceLeDiff, Nat.reduceEqDiff, Nat.reduceBEq, Nat.reducePow]; rfl) ?_
    refine WpOps.step (by rfl) (by rfl) (OpW.callY rfl (by rfl) (by rfl) (by rfl) (enters_of Tryz.func83 (by kernel_rfl) rfl) ((letters_any H c hc nl clip w hw).mono ?_))
    rintro _ _ ⟨rfl, hH⟩
    replace hH := hH.symm
    subst hH
    refine WpOps.take 2 (by simp only [go_sem, reduceCtorEq, Nat.reduceAdd, Nat.reduceMul, Nat.reduceSub, Nat.reduceLT, Nat.reduceLeDiff, Nat.reduceEqDiff, Nat.reduceBEq, Nat.reducePow]; rfl) (WpOps.nil ⟨Marks.nil _, ?_⟩)
    simp only [Vthen, VinBlock, if_true, if_false, Nat.reduceEqDiff, reduceCtorEq]
    refine WpV.ret ⟨Marks.nil _, List.nodup_nil, _, by simp only [Tryz.results58]; simp only [go_sem, reduceCtorEq, Nat.reduceAdd, Nat.reduceMul, Nat.reduceSub, Nat.reduceLT, Nat.reduceLeDiff, Nat.reduceEqDiff, Nat.reduceBEq, Nat.reducePow]; rfl, ?_⟩
    exact ⟨by simp [Cs.word, hb], rfl⟩

theorem blot_one (H : Hp) (c : Cs) (hc : c.Ok) (n : Int) : CallV Tryz.prog 106 [vint n, .cp c.cells 0] H (fun r H' => r = .bool ((n == -1) || c.letters [n]) ∧ H' = H) := by
  refine CallV.body Tryz.func106 rfl Tryz.ntmps106 (by rfl) ?_
  refine WpV.seq (WpV.regionE (by simp only [go_sem, reduceCtorEq, Nat.reduceAdd, Nat.reduceMul, Nat.reduceSub, Nat.reduceLT, Nat.reduceLeDiff, Nat.reduceEqDiff, Nat.reduceBEq, Nat.reducePow]; rfl) (Marks.nil _) ?_)
  simp only [Vthen, VinBlock, if_true, if_false, Nat.reduceEqDiff, reduceCtorEq]
  cases h : (n == -1)
  · refine WpV.seq (WpV.region ?_)
    refine WpOps.take 6 (by simp only [go_sem, reduceCtorEq, Nat.reduceAdd, Nat.reduceMul, Nat.reduceSub, Nat.reduceLT, Nat.reduceLeDiff, Nat.reduceEqDiff, Nat.reduceBEq, Nat.reducePow, h]; rfl) ?_
    refine WpOps.step (by rfl) (by rfl) (OpW.callY rfl (by rfl) (by rfl) (by rfl) (enters_of Tryz.func83 (by kernel_rfl) rfl) ((letters_any H c hc false true [n] (by simp)).mono ?_))
    rintro _ _ ⟨rfl, hH⟩
    replace hH := hH.symm
    subst hH
    refine WpOps.take 2 (by simp only [go_sem, reduceCtorEq, Nat.reduceAdd, Nat.reduceMul, Nat.reduceSub, Nat.reduceLT, Nat.reduceLeDiff, Nat.reduceEqDiff, Nat.reduceBEq, Nat.reducePow, h]; rfl) (WpOps.nil ⟨Marks.nil _, ?_⟩)
    simp only [Vthen, VinBlock, if_true, if_false, Nat.reduceEqDiff, reduceCtorEq]
    refine WpV.ret ⟨Marks.nil _, List.nodup_nil, _, by simp only [Tryz.results106]; simp only [go_sem, reduceCtorEq, Nat.reduceAdd, Nat.reduceMul, Nat.reduceSub, Nat.reduceLT, Nat.reduceLeDiff, Nat.reduceEqDiff, Nat.reduceBEq, Nat.reducePow]; rfl, ?_⟩
    exact ⟨by simp [h], rfl⟩
  · refine WpV.seq (WpV.region ?_)
    refine WpOps.take 8 (by simp only [go_sem, reduceCtorEq, Nat.reduceAdd, Nat.reduceMul, Nat.reduceSub, Nat.reduceLT, Nat.reduceLeDiff, Nat.reduceEqDiff, Nat.reduceBEq, Nat.reducePow, h]; rfl) ?_
    refine WpOps.take 1 (by simp only [go_sem, reduceCtorEq, Nat.reduceAdd, Nat.reduceMul, Nat.reduceSub, Nat.reduceLT, Nat.reduceLeDiff, Nat.reduceEqDiff, Nat.reduceBEq, Nat.reducePow, h]; rfl) (WpOps.nil ⟨Marks.nil _, ?_⟩)
    simp only [Vthen, VinBlock, if_true, if_false, Nat.reduceEqDiff, reduceCtorEq]
    refine WpV.ret ⟨Marks.nil _, List.nodup_nil, _, by simp only [Tryz.results106]; simp only [go_sem, reduceCtorEq, Nat.reduceAdd, Nat.reduceMul, Nat.reduceSub, Nat.reduceLT, Nat.reduceLeDiff, Nat.reduceEqDiff, Nat.reduceBEq, Nat.reducePow]; rfl, ?_⟩
    exact ⟨by simp [h], rfl⟩

theorem blotted_any (H : Hp) (c : Cs) (hc : c.Ok) (nl clip : Bool) (w : List Int) (hw : w.length < 1000000) : CallV Tryz.prog 87 [.agg c.cells, vints nl clip w] H (fun r H' => r = .bool (c.blotted w) ∧ H' = H) := by
  refine CallV.body Tryz.func87 rfl Tryz.ntmps87 (by rfl) ?_
  refine WpV.seq (WpV.regionE (by simp only [go_sem, reduceCtorEq, Nat.reduceAdd, Nat.reduceMul, Nat.reduceSub, Nat.reduceLT, Nat.reduceLeDiff, Nat.reduceEqDiff, Nat.reduceBEq, Nat.reducePow]; rfl) (Marks.nil _) ?_)
  simp only [Vthen, VinBlock, if_true, if_false, Nat.reduceEqDiff, reduceCtorEq]
  have h1 := within_any H 1 7 false true [(w.length : Int)] (by simp)
  cases hb : insB 1 7 [(w.length : Int)]
  · rw [hb] at h1
    refine WpV.seq (WpV.region ?_)
    refine WpOps.take 3 (by simp only [go_sem, reduceCtorEq, Nat.reduceAdd, Nat.reduceMul, Nat.reduceSub, Nat.reduceLT, Nat.reduceLeDiff, Nat.reduceEqDiff, Nat.reduceBEq, Nat.reducePow]; rfl) ?_
    refine WpOps.step (by rfl) (by rfl) (OpW.callY rfl (by rfl) (by rfl) (by rfl) (enters_of Tryz.func49 (by kernel_rfl) rfl) ((h1).mono ?_))
    rintro _ _ ⟨rfl, hH⟩
    replace hH := hH.symm
    subst hH
    refine WpOps.take 6 (by simp only [go_sem, reduceCtorEq, Nat.reduceAdd, Nat.reduceMul, Nat.reduceSub, Nat.reduceLT, Nat.reduceLeDiff, Nat.reduceEqDiff, Nat.reduceBEq, Nat.reducePow]; rfl) (WpOps.nil ⟨Marks.nil _, ?_⟩)
    simp only [Vthen, VinBlock, if_true, if_false, Nat.reduceEqDiff, reduceCtorEq]
    refine WpV.ret ⟨Marks.nil _, List.nodup_nil, _, by simp only [Tryz.results87]; simp only [go_sem, reduceCtorEq, Nat.reduceAdd, Nat.reduceMul, Nat.reduceSub, Nat.reduceLT, Nat.reduceLeDiff, Nat.reduceEqDiff, Nat.reduceBEq, Nat.reducePow]; rfl, ?_⟩
    exact ⟨by simp [Cs.blotted, hb], rfl⟩
  · rw [hb] at h1
    refine WpV.seq (WpV.region ?_)
    refine WpOps.take 3 (by simp only [go_sem, reduceCtorEq, Nat.reduceAdd, Nat.reduceMul, Nat.reduceSub, Nat.reduceLT, Nat.reduceLeDiff, Nat.reduceEqDiff, Nat.reduceBEq, Nat.reducePow]; rfl) ?_
    refine WpOps.step (by rfl) (by rfl) (OpW.callY rfl (by rfl) (by rfl) (by rfl) (enters_of Tryz.func49 (by kernel_rfl) rfl) ((h1).mono ?_))
    rintro _ _ ⟨rfl, hH⟩
    replace hH := hH.symm
    subst hH
    refine WpOps.take 3 (by simp only [go_sem, reduceCtorEq, Nat.reduceAdd, Nat.reduceMul, Nat.reduceSub, Nat.reduceLT, Nat.reduceLeDiff, Nat.reduceEqDiff, Nat.reduceBEq, Nat.reducePow]; rfl) ?_
    refine WpOps.step (by rfl) (by rfl) (OpW.callY rfl (by rfl) (by rfl) (by rfl) (enters_of Tryz.func72 (by kernel_rfl) rfl) ((every_int H nl clip w.length (w.map vint) (fun i => vint (w.getD i 0)) 106 [] [.cp c.cells 0] (fun i => (w.getD i 0 == -1) || c.letters [w.getD i 0]) hw (by simp) (fun k hk => by simp [hk]) (enters_of Tryz.func106 (by kernel_rfl) rfl) (fun k _ => blot_one H c hc _)).mono ?_))
    rintro _ _ ⟨rfl, hH⟩
    replace hH := hH.symm
    subst hH
    refine WpOps.take 2 (by simp only [go_sem, reduceCtorEq, Nat.reduceAdd, Nat.reduceMul, Nat.reduceSub, Nat.reduceLT, Nat.reduceLeDiff, Nat.reduceEqDiff, Nat.reduceBEq, Nat.reducePow]; rfl) (WpOps.nil ⟨Marks.nil _, ?_⟩)
    simp only [Vthen, VinBlock, if_true, if_false, Nat.reduceEqDiff, reduceCtorEq]
    refine WpV.ret ⟨Marks.nil _, List.nodup_nil, _, by simp only [Tryz.results87]; simp only [go_sem, reduceCtorEq, Nat.reduceAdd, Nat.reduceMul, Nat.reduceSub, Nat.reduceLT, Nat.reduceLeDiff, Nat.reduceEqDiff, Nat.reduceBEq, Nat.reducePow]; rfl, ?_⟩
    refine ⟨?_, rfl⟩
    rw [all_get (fun n => (n == -1) || c.letters [n])]
    simp [Cs.blotted, hb]

/-- A list of lists. -/
abbrev Row := Bool × Bool × List Int
def rowV (r : Row) : AV := vints r.1 r.2.1 r.2.2
abbrev vrows (nl clip : Bool) (rs : List Row) : AV := .sl nl clip rs.length (rs.map rowV)
def RowsOk (rs : List Row) : Prop := rs.length < 1000000 ∧ ∀ r ∈ rs, r.2.2.length < 1000000

theorem word_one (H : Hp) (c : Cs) (hc : c.Ok) (r : Row) (hr : r.2.2.length < 1000000) : CallV Tryz.prog 97 [rowV r, .cp c.cells 0] H (fun x H' => x = .bool (c.word r.2.2) ∧ H' = H) := by
  refine CallV.body Tryz.func97 rfl Tryz.ntmps97 (by rfl) ?_
  refine WpV.seq (WpV.regionE (by simp only [go_sem, reduceCtorEq, Nat.reduceAdd, Nat.reduceMul, Nat.reduceSub, Nat.reduceLT, Nat.reduceLeDiff, Nat.reduceEqDiff, Nat.reduceBEq, Nat.reducePow]; rfl) (Marks.nil _) ?_)
  simp only [Vthen, VinBlock, if_true, if_false, Nat.reduceEqDiff, reduceCtorEq]
  refine WpV.seq (WpV.region ?_)
  refine WpOps.take 2 (by simp only [go_sem, reduceCtorEq, Nat.reduceAdd, Nat.reduceMul, Nat.reduceSub, Nat.reduceLT, Nat.reduceLeDiff, Nat.reduceEqDiff, Nat.reduceBEq, Nat.reducePow]; rfl) ?_
  refine WpOps.step (by rfl) (by rfl) (OpW.callY rfl (by rfl) (by rfl) (by rfl) (enters_of Tryz.func58 (by kernel_rfl) rfl) ((word_any H c hc r.1 r.2.1 r.2.2 hr).mono ?_))
  rintro _ _ ⟨rfl, hH⟩
  replace hH := hH.symm
  subst hH
  refine WpOps.take 1 (by simp only [go_sem, reduceCtorEq, Nat.reduceAdd, Nat.reduceMul, Nat.reduceSub, Nat.reduceLT, Nat.reduceLeDiff, Nat.reduceEqDiff, Nat.reduceBEq, Nat.reducePow]; rfl) (WpOps.nil ⟨Marks.nil _, ?_⟩)
  simp only [Vthen, VinBlock, if_true, if_false, Nat.reduceEqDiff, reduceCtorEq]
  refine WpV.ret ⟨Marks.nil _, List.nodup_nil, _, by simp only [Tryz.results97]; simp only [go_sem, reduceCtorEq, Nat.reduceAdd, Nat.reduceMul, Nat.reduceSub, Nat.reduceLT, Nat.reduceLeDiff, Nat.reduceEqDiff, Nat.reduceBEq, Nat.reducePow]; rfl, ?_⟩
  exact ⟨rfl, rfl⟩

theorem all_getR (p : Row → Bool) (xs : List Row) (d : Row) : decide (∀ i, i < xs.length → (fun i => p (xs.getD i d)) i = true) = xs.all p := by
  rw [Bool.eq_iff_iff, decide_eq_true_iff, List.all_eq_true]
  constructor
  · intro h x hx
    obtain ⟨i, hi, rfl⟩ := List.getElem_of_mem hx
    have := h i hi
    simpa [List.getD_eq_getElem?_getD, hi] using this
  · intro h i hi
    have := h xs[i] (List.getElem_mem _)
    simpa [List.getD_eq_getElem?_getD, hi] using this

theorem words_any (H : Hp) (c : Cs) (hc : c.Ok) (nl clip : Bool) (rs : List Row) (hr : RowsOk rs) : CallV Tryz.prog 76 [.agg c.cells, vrows nl clip rs] H (fun x H' => x = .bool (rs.all fun r => c.word r.2.2) ∧ H' = H) := by
  refine CallV.body Tryz.func76 rfl Tryz.ntmps76 (by rfl) ?_
  refine WpV.seq (WpV.regionE (by simp only [go_sem, reduceCtorEq, Nat.reduceAdd, Nat.reduceMul, Nat.reduceSub, Nat.reduceLT, Nat.reduceLeDiff, Nat.reduceEqDiff, Nat.reduceBEq, Nat.reducePow]; rfl) (Marks.nil _) ?_)
  simp only [Vthen, VinBlock, if_true, if_false, Nat.reduceEqDiff, reduceCtorEq]
  refine WpV.seq (WpV.region ?_)
  refine WpOps.take 2 (by simp only [go_sem, reduceCtorEq, Nat.reduceAdd, Nat.reduceMul, Nat.reduceSub, Nat.reduceLT, Nat.reduceLeDiff, Nat.reduceEqDiff, Nat.reduceBEq, Nat.reducePow]; rfl) ?_
  refine WpOps.step (by rfl) (by rfl) (OpW.callY rfl (by rfl) (by rfl) (by rfl) (enters_of Tryz.func96 (by kernel_rfl) rfl) ((every_row H nl clip rs.length (rs.map rowV) (fun i => rowV (rs.getD i (false, false, []))) 97 [] [.cp c.cells 0] (fun i => c.word (rs.getD i (false, false, [])).2.2) hr.1 (by simp) (fun k hk => by simp [hk]) (enters_of Tryz.func97 (by kernel_rfl) rfl) (fun k hk => word_one H c hc _ (hr.2 _ (by rw [List.getD_eq_getElem?_getD, List.getElem?_eq_getElem hk]; exact List.getElem_mem _)))).mono ?_))
  rintro _ _ ⟨rfl, hH⟩
  replace hH := hH.symm
  subst hH
  refine WpOps.take 1 (by simp only [go_sem, reduceCtorEq, Nat.reduceAdd, Nat.reduceMul, Nat.reduceSub, Nat.reduceLT, Nat.reduceLeDiff, Nat.reduceEqDiff, Nat.reduceBEq, Nat.reducePow]; rfl) (WpOps.nil ⟨Marks.nil _, ?_⟩)
  simp only [Vthen, VinBlock, if_true, if_false, Nat.reduceEqDiff, reduceCtorEq]
  refine WpV.ret ⟨Marks.nil _, List.nodup_nil, _, by simp only [Tryz.results76]; simp only [go_sem, reduceCtorEq, Nat.reduceAdd, Nat.reduceMul, Nat.reduceSub, Nat.reduceLT, Nat.reduceLeDiff, Nat.reduceEqDiff, Nat.reduceBEq, Nat.reducePow]; rfl, ?_⟩
  refine ⟨?_, rfl⟩
  rw [all_getR (fun r => c.word r.2.2)]
end Go.Proofs.YtaekibilldjnmaaGreat
namespace Go.Proofs.YtaekibilldjnmaaGreat
open Go.Proofs

theorem Frz.cellM {H : Hp} {fr : Fr} {id k : Nat} {ty : TypeId} {ver i : Nat} {cs ks vs : List AV} (ho : H k = some (.cells ty ver cs)) (hk : k ≠ id) (hi : cs[i]? = some (.mp id)) (ho2 : H id = some (.map ks vs)) :
    Frz fr H fr ((H.set k (some (.cells ty ver (cs.set i (.fm ks vs))))).set id none) := fun _ ρ _ _ hs hd =>
  ⟨ρ.drop id, Ext.drop hd id, hs.ext (Ext.drop hd id) hd.live, HD.cell (hd := hd) ho hk hi (fun _ hv => den_freezeM hd hv ho2)⟩
theorem fresh_ne {H : Hp} {i j : Nat} {o : Ob} (h : (H.set i (some o)) j = none) : j ≠ i ∧ H j = none := by
  by_cases e : j = i
  · subst e; rw [Hp.set_eq] at h; cases h
  · exact ⟨e, by rwa [Hp.set_ne _ _ e] at h⟩

def Cs.pairOk (c : Cs) (p : Int × Int × Int) : Bool := c.letters [p.1, p.2.1] && insB (-5) 5 [p.2.2]
def Cs.base (c : Cs) : Bool := insB 1 8 [(c.ws.length : Int)] && insB 1 30 c.ws && insB 0 20 [c.rim] && insB 0 10 [c.least] && insB 0 30 [c.blank]

theorem pair_one (H : Hp) (c : Cs) (hc : c.Ok) (p : Int × Int × Int) : CallV Tryz.prog 103 [.agg (pairC p), .cp c.cells 0] H (fun r H' => r = .bool (c.pairOk p) ∧ H' = H) := by
  unfold pairC
  refine CallV.body Tryz.func103 rfl Tryz.ntmps103 (by rfl) ?_
  refine WpV.seq (WpV.regionE (by simp only [go_sem, reduceCtorEq, Nat.reduceAdd, Nat.reduceMul, Nat.reduceSub, Nat.reduceLT, Nat.reduceLeDiff, Nat.reduceEqDiff, Nat.reduceBEq, Nat.reducePow]; rfl) (Marks.nil _) ?_)
  simp only [Vthen, VinBlock, if_true, if_false, Nat.reduceEqDiff, reduceCtorEq]
  have h1 := letters_any H c hc false true [p.1, p.2.1] (by simp)
  cases hb : c.letters [p.1, p.2.1]
  · rw [hb] at h1
    refine WpV.seq (WpV.region ?_)
    refine WpOps.take 6 (by simp only [go_sem, reduceCtorEq, Nat.reduceAdd, Nat.reduceMul, Nat.reduceSub, Nat.reduceLT, Nat.reduceLeDiff, Nat.reduceEqDiff, Nat.reduceBEq, Nat.reducePow]; rfl) ?_
    refine WpOps.step (by rfl) (by rfl) (OpW.callY rfl (by rfl) (by rfl) (by rfl) (enters_of Tryz.func83 (by kernel_rfl) rfl) ((h1).mono ?_))
    rintro _ _ ⟨rfl, hH⟩
    replace hH := hH.symm
    subst hH
    refine WpOps.take 7 (by simp only [go_sem, reduceCtorEq, Nat.reduceAdd, Nat.reduceMul, Nat.reduceSub, Nat.reduceLT, Nat.reduceLeDiff, Nat.reduceEqDiff, Nat.reduceBEq, Nat.reducePow]; rfl) (WpOps.nil ⟨Marks.nil _, ?_⟩)
    simp only [Vthen, VinBlock, if_true, if_false, Nat.reduceEqDiff, reduceCtorEq]
    refine WpV.ret ⟨Marks.nil _, List.nodup_nil, _, by simp only [Tryz.results103]; simp only [go_sem, reduceCtorEq, Nat.reduceAdd, Nat.reduceMul, Nat.reduceSub, Nat.reduceLT, Nat.reduceLeDiff, Nat.reduceEqDiff, Nat.reduceBEq, Nat.reducePow]; rfl, ?_⟩
    exact ⟨by simp [Cs.pairOk, hb], rfl⟩
  · rw [hb] at h1
    refine WpV.seq (WpV.region ?_)
    refine WpOps.take 6 (by simp only [go_sem, reduceCtorEq, Nat.reduceAdd, Nat.reduceMul, Nat.reduceSub, Nat.reduceLT, Nat.reduceLeDiff, Nat.reduceEqDiff, Nat.reduceBEq, Nat.reducePow]; rfl) ?_
    refine WpOps.step (by rfl) (by rfl) (OpW.callY rfl (by rfl) (by rfl) (by rfl) (enters_of Tryz.func83 (by kernel_rfl) rfl) ((h1).mono ?_))
    rintro _ _ ⟨rfl, hH⟩
    replace hH := hH.symm
    subst hH
    refine WpOps.take 4 (by simp only [go_sem, reduceCtorEq, Nat.reduceAdd, Nat.reduceMul, Nat.reduceSub, Nat.reduceLT, Nat.reduceLeDiff, Nat.reduceEqDiff, Nat.reduceBEq, Nat.reducePow]; rfl) ?_
    refine WpOps.step (by rfl) (by rfl) (OpW.callY rfl (by rfl) (by rfl) (by rfl) (enters_of Tryz.func49 (by kernel_rfl) rfl) ((within_any H (-5) 5 false true [p.2.2] (by simp)).mono ?_))
    rintro _ _ ⟨rfl, hH⟩
    replace hH := hH.symm
    subst hH
    refine WpOps.take 2 (by simp only [go_sem, reduceCtorEq, Nat.reduceAdd, Nat.reduceMul, Nat.reduceSub, Nat.reduceLT, Nat.reduceLeDiff, Nat.reduceEqDiff, Nat.reduceBEq, Nat.reducePow]; rfl) (WpOps.nil ⟨Marks.nil _, ?_⟩)
    simp only [Vthen, VinBlock, if_true, if_false, Nat.reduceEqDiff, reduceCtorEq]
    refine WpV.ret ⟨Marks.nil _, List.nodup_nil, _, by simp only [Tryz.results103]; simp only [go_sem, reduceCtorEq, Nat.reduceAdd, Nat.reduceMul, Nat.reduceSub, Nat.reduceLT, Nat.reduceLeDiff, Nat.reduceEqDiff, Nat.reduceBEq, Nat.reducePow]; rfl, ?_⟩
    exact ⟨by simp [Cs.pairOk, hb], rfl⟩

theorem all_getP (p : Int × Int × Int → Bool) (xs : List (Int × Int × Int)) (d : Int × Int × Int) : decide (∀ i, i < xs.length → (fun i => p (xs.getD i d)) i = true) = xs.all p := by
  rw [Bool.eq_iff_iff, decide_eq_true_iff, List.all_eq_true]
  constructor
  · intro h x hx
    obtain ⟨i, hi, rfl⟩ := List.getElem_of_mem hx
    have := h i hi
    simpa [List.getD_eq_getElem?_getD, hi] using this
  · intro h i hi
    have := h xs[i] (List.getElem_mem _)
    simpa [List.getD_eq_getElem?_getD, hi] using this
theorem pairs_len (ps : List (Int × Int × Int)) : (ps.flatMap pairC).length = ps.length * 3 := by
  induction ps with
  | nil => rfl
  | cons p ps ih => rw [List.flatMap_cons, List.length_append, ih]; simp [pairC]; omega
theorem pairs_at : ∀ (ps : List (Int × Int × Int)) (k : Nat), k < ps.length → ((ps.flatMap pairC).drop (k * 3)).take 3 = pairC (ps.getD k (0, 0, 0))
  | [], k, h => by simp at h
  | p :: ps, 0, _ => by simp [pairC]
  | p :: ps, k + 1, h => by
    have e : (k + 1) * 3 = k * 3 + 3 := by omega
    rw [e]
    show ((vint p.1 :: vint p.2.1 :: vint p.2.2 :: ps.flatMap pairC).drop (k * 3 + 3)).take 3 = _
    simp only [List.drop_succ_cons]
    rw [pairs_at ps k (by simpa using h)]
    rfl

theorem pairs_any (H : Hp) (c : Cs) (hc : c.Ok) : CallV Tryz.prog 82 [.agg c.cells] H (fun r H' => r = .bool (c.ps.all c.pairOk) ∧ H' = H) := by
  refine CallV.body Tryz.func82 rfl Tryz.ntmps82 (by rfl) ?_
  refine WpV.seq (WpV.regionE (by simp only [go_sem, reduceCtorEq, Nat.reduceAdd, Nat.reduceMul, Nat.reduceSub, Nat.reduceLT, Nat.reduceLeDiff, Nat.reduceEqDiff, Nat.reduceBEq, Nat.reducePow]; rfl) (Marks.nil _) ?_)
  simp only [Vthen, VinBlock, if_true, if_false, Nat.reduceEqDiff, reduceCtorEq]
  refine WpV.seq (WpV.region ?_)
  refine WpOps.take 3 (by simp only [go_sem, reduceCtorEq, Nat.reduceAdd, Nat.reduceMul, Nat.reduceSub, Nat.reduceLT, Nat.reduceLeDiff, Nat.reduceEqDiff, Nat.reduceBEq, Nat.reducePow]; rfl) ?_
  refine WpOps.step (by rfl) (by rfl) (OpW.callY rfl (by rfl) (by rfl) (by rfl) (enters_of Tryz.func102 (by kernel_rfl) rfl) ((every_pair H c.pn c.pc c.ps.length (c.ps.flatMap pairC) (fun i => .agg (pairC (c.ps.getD i (0, 0, 0)))) 103 [] [.cp c.cells 0] (fun i => c.pairOk (c.ps.getD i (0, 0, 0))) hc.ps (pairs_len _) (fun k hk => by rw [pairs_at _ _ hk]) (fun k hk => ⟨_, _, _, rfl⟩) (enters_of Tryz.func103 (by kernel_rfl) rfl) (fun k _ => pair_one H c hc _)).mono ?_))
  rintro _ _ ⟨rfl, hH⟩
  replace hH := hH.symm
  subst hH
  refine WpOps.take 1 (by simp only [go_sem, reduceCtorEq, Nat.reduceAdd, Nat.reduceMul, Nat.reduceSub, Nat.reduceLT, Nat.reduceLeDiff, Nat.reduceEqDiff, Nat.reduceBEq, Nat.reducePow]; rfl) (WpOps.nil ⟨Marks.nil _, ?_⟩)
  simp only [Vthen, VinBlock, if_true, if_false, Nat.reduceEqDiff, reduceCtorEq]
  refine WpV.ret ⟨Marks.nil _, List.nodup_nil, _, by simp only [Tryz.results82]; simp only [go_sem, reduceCtorEq, Nat.reduceAdd, Nat.reduceMul, Nat.reduceSub, Nat.reduceLT, Nat.reduceLeDiff, Nat.reduceEqDiff, Nat.reduceBEq, Nat.reducePow]; rfl, ?_⟩
  refine ⟨?_, rfl⟩
  rw [all_getP c.pairOk]

set_option maxHeartbeats 4000000 in
theorem case_any (H : Hp) (c : Cs) (hc : c.Ok) : CallV Tryz.prog 81 [.agg c.cells] H (fun r H' => r = .bool c.base ∧ H' = H) := by
  refine CallV.body Tryz.func81 rfl Tryz.ntmps81 (by rfl) ?_
  refine WpV.seq (WpV.regionE (by simp only [go_sem, reduceCtorEq, Nat.reduceAdd, Nat.reduceMul, Nat.reduceSub, Nat.reduceLT, Nat.reduceLeDiff, Nat.reduceEqDiff, Nat.reduceBEq, Nat.reducePow]; rfl) (Marks.nil _) ?_)
  simp only [Vthen, VinBlock, if_true, if_false, Nat.reduceEqDiff, reduceCtorEq]
  have h1 := within_any H 1 8 false true [(c.ws.length : Int)] (by simp)
  have h2 := within_any H 1 30 c.wn c.wc c.ws hc.ws
  have h3 := within_any H 0 20 false true [c.rim] (by simp)
  have h4 := within_any H 0 10 false true [c.least] (by simp)
  have h5 := within_any H 0 30 false true [c.blank] (by simp)
  cases b1 : insB 1 8 [(c.ws.length : Int)]
  · rw [b1] at h1
    refine WpV.seq (WpV.region ?_)
    refine WpOps.take 4 (by simp only [go_sem, reduceCtorEq, Nat.reduceAdd, Nat.reduceMul, Nat.reduceSub, Nat.reduceLT, Nat.reduceLeDiff, Nat.reduceEqDiff, Nat.reduceBEq, Nat.reducePow]; rfl) ?_
    refine WpOps.step (by rfl) (by rfl) (OpW.callY rfl (by rfl) (by rfl) (by rfl) (enters_of Tryz.func49 (by kernel_rfl) rfl) ((h1).mono ?_))
    rintro _ _ ⟨rfl, hH⟩
    replace hH := hH.symm
    subst hH
    refine WpOps.take 8 (by simp only [go_sem, reduceCtorEq, Nat.reduceAdd, Nat.reduceMul, Nat.reduceSub, Nat.reduceLT, Nat.reduceLeDiff, Nat.reduceEqDiff, Nat.reduceBEq, Nat.reducePow]; rfl) ?_
    refine WpOps.take 8 (by simp only [go_sem, reduceCtorEq, Nat.reduceAdd, Nat.reduceMul, Nat.reduceSub, Nat.reduceLT, Nat.reduceLeDiff, Nat.reduceEqDiff, Nat.reduceBEq, Nat.reducePow]; rfl) ?_
    refine WpOps.take 8 (by simp only [go_sem, reduceCtorEq, Nat.reduceAdd, Nat.reduceMul, Nat.reduceSub, Nat.reduceLT, Nat.reduceLeDiff, Nat.reduceEqDiff, Nat.reduceBEq, Nat.reducePow]; rfl) (WpOps.nil ⟨Marks.nil _, ?_⟩)
    simp only [Vthen, VinBlock, if_true, if_false, Nat.reduceEqDiff, reduceCtorEq]
    refine WpV.ret ⟨Marks.nil _, List.nodup_nil, _, by simp only [Tryz.results81]; simp only [go_sem, reduceCtorEq, Nat.reduceAdd, Nat.reduceMul, Nat.reduceSub, Nat.reduceLT, Nat.reduceLeDiff, Nat.reduceEqDiff, Nat.reduceBEq, Nat.reducePow]; rfl, ?_⟩
    exact ⟨by simp [Cs.base, b1], rfl⟩
  rw [b1] at h1
  cases b2 : insB 1 30 c.ws
  · rw [b2] at h2
    refine WpV.seq (WpV.region ?_)
    refine WpOps.take 4 (by simp only [go_sem, reduceCtorEq, Nat.reduceAdd, Nat.reduceMul, Nat.reduceSub, Nat.reduceLT, Nat.reduceLeDiff, Nat.reduceEqDiff, Nat.reduceBEq, Nat.reducePow]; rfl) ?_
    refine WpOps.step (by rfl) (by rfl) (OpW.callY rfl (by rfl) (by rfl) (by rfl) (enters_of Tryz.func49 (by kernel_rfl) rfl) ((h1).mono ?_))
    rintro _ _ ⟨rfl, hH⟩
    replace hH := hH.symm
    subst hH
    refine WpOps.take 3 (by simp only [go_sem, reduceCtorEq, Nat.reduceAdd, Nat.reduceMul, Nat.reduceSub, Nat.reduceLT, Nat.reduceLeDiff, Nat.reduceEqDiff, Nat.reduceBEq, Nat.reducePow]; rfl) ?_
    refine WpOps.step (by rfl) (by rfl) (OpW.callY rfl (by rfl) (by rfl) (by rfl) (enters_of Tryz.func49 (by kernel_rfl) rfl) ((h2).mono ?_))
    rintro _ _ ⟨rfl, hH⟩
    replace hH := hH.symm
    subst hH
    refine WpOps.take 8 (by simp only [go_sem, reduceCtorEq, Nat.reduceAdd, Nat.reduceMul, Nat.reduceSub, Nat.reduceLT, Nat.reduceLeDiff, Nat.reduceEqDiff, Nat.reduceBEq, Nat.reducePow]; rfl) ?_
    refine WpOps.take 8 (by simp only [go_sem, reduceCtorEq, Nat.reduceAdd, Nat.reduceMul, Nat.reduceSub, Nat.reduceLT, Nat.reduceLeDiff, Nat.reduceEqDiff, Nat.reduceBEq, Nat.reducePow]; rfl) ?_
    refine WpOps.take 4 (by simp only [go_sem, reduceCtorEq, Nat.reduceAdd, Nat.reduceMul, Nat.reduceSub, Nat.reduceLT, Nat.reduceLeDiff, Nat.reduceEqDiff, Nat.reduceBEq, Nat.reducePow]; rfl) (WpOps.nil ⟨Marks.nil _, ?_⟩)
    simp only [Vthen, VinBlock, if_true, if_false, Nat.reduceEqDiff, reduceCtorEq]
    refine WpV.ret ⟨Marks.nil _, List.nodup_nil, _, by simp only [Tryz.results81]; simp only [go_sem, reduceCtorEq, Nat.reduceAdd, Nat.reduceMul, Nat.reduceSub, Nat.reduceLT, Nat.reduceLeDiff, Nat.reduceEqDiff, Nat.reduceBEq, Nat.reducePow]; rfl, ?_⟩
    exact ⟨by simp [Cs.base, b1, b2], rfl⟩
  rw [b2] at h2
  cases b3 : insB 0 20 [c.rim]
  · rw [b3] at h3
    refine WpV.seq (WpV.region ?_)
    refine WpOps.take 4 (by simp only [go_sem, reduceCtorEq, Nat.reduceAdd, Nat.reduceMul, Nat.reduceSub, Nat.reduceLT, Nat.reduceLeDiff, Nat.reduceEqDiff, Nat.reduceBEq, Nat.reducePow]; rfl) ?_
    refine WpOps.step (by rfl) (by rfl) (OpW.callY rfl (by rfl) (by rfl) (by rfl) (enters_of Tryz.func49 (by kernel_rfl) rfl) ((h1).mono ?_))
    rintro _ _ ⟨rfl, hH⟩
    replace hH := hH.symm
    subst hH
    refine WpOps.take 3 (by simp only [go_sem, reduceCtorEq, Nat.reduceAdd, Nat.reduceMul, Nat.reduceSub, Nat.reduceLT, Nat.reduceLeDiff, Nat.reduceEqDiff, Nat.reduceBEq, Nat.reducePow]; rfl) ?_
    refine WpOps.step (by rfl) (by rfl) (OpW.callY rfl (by rfl) (by rfl) (by rfl) (enters_of Tryz.func49 (by kernel_rfl) rfl) ((h2).mono ?_))
    rintro _ _ ⟨rfl, hH⟩
    replace hH := hH.symm
    subst hH
    refine WpOps.take 5 (by simp only [go_sem, reduceCtorEq, Nat.reduceAdd, Nat.reduceMul, Nat.reduceSub, Nat.reduceLT, Nat.reduceLeDiff, Nat.reduceEqDiff, Nat.reduceBEq, Nat.reducePow]; rfl) ?_
    refine WpOps.step (by rfl) (by rfl) (OpW.callY rfl (by rfl) (by rfl) (by rfl) (enters_of Tryz.func49 (by kernel_rfl) rfl) ((h3).mono ?_))
    rintro _ _ ⟨rfl, hH⟩
    replace hH := hH.symm
    subst hH
    refine WpOps.take 8 (by simp only [go_sem, reduceCtorEq, Nat.reduceAdd, Nat.reduceMul, Nat.reduceSub, Nat.reduceLT, Nat.reduceLeDiff, Nat.reduceEqDiff, Nat.reduceBEq, Nat.reducePow]; rfl) ?_
    refine WpOps.take 6 (by simp only [go_sem, reduceCtorEq, Nat.reduceAdd, Nat.reduceMul, Nat.reduceSub, Nat.reduceLT, Nat.reduceLeDiff, Nat.reduceEqDiff, Nat.reduceBEq, Nat.reducePow]; rfl) (WpOps.nil ⟨Marks.nil _, ?_⟩)
    simp only [Vthen, VinBlock, if_true, if_false, Nat.reduceEqDiff, reduceCtorEq]
    refine WpV.ret ⟨Marks.nil _, List.nodup_nil, _, by simp only [Tryz.results81]; simp only [go_sem, reduceCtorEq, Nat.reduceAdd, Nat.reduceMul, Nat.reduceSub, Nat.reduceLT, Nat.reduceLeDiff, Nat.reduceEqDiff, Nat.reduceBEq, Nat.reducePow]; rfl, ?_⟩
    exact ⟨by simp [Cs.base, b1, b2, b3], rfl⟩
  rw [b3] at h3
  cases b4 : insB 0 10 [c.least]
  · rw [b4] at h4
    refine WpV.seq (WpV.region ?_)
    refine WpOps.take 4 (by simp only [go_sem, reduceCtorEq, Nat.reduceAdd, Nat.reduceMul, Nat.reduceSub, Nat.reduceLT, Nat.reduceLeDiff, Nat.reduceEqDiff, Nat.reduceBEq, Nat.reducePow]; rfl) ?_
    refine WpOps.step (by rfl) (by rfl) (OpW.callY rfl (by rfl) (by rfl) (by rfl) (enters_of Tryz.func49 (by kernel_rfl) rfl) ((h1).mono ?_))
    rintro _ _ ⟨rfl, hH⟩
    replace hH := hH.symm
    subst hH
    refine WpOps.take 3 (by simp only [go_sem, reduceCtorEq, Nat.reduceAdd, Nat.reduceMul, Nat.reduceSub, Nat.reduceLT, Nat.reduceLeDiff, Nat.reduceEqDiff, Nat.reduceBEq, Nat.reducePow]; rfl) ?_
    refine WpOps.step (by rfl) (by rfl) (OpW.callY rfl (by rfl) (by rfl) (by rfl) (enters_of Tryz.func49 (by kernel_rfl) rfl) ((h2).mono ?_))
    rintro _ _ ⟨rfl, hH⟩
    replace hH := hH.symm
    subst hH
    refine WpOps.take 5 (by simp only [go_sem, reduceCtorEq, Nat.reduceAdd, Nat.reduceMul, Nat.reduceSub, Nat.reduceLT, Nat.reduceLeDiff, Nat.reduceEqDiff, Nat.reduceBEq, Nat.reducePow]; rfl) ?_
    refine WpOps.step (by rfl) (by rfl) (OpW.callY rfl (by rfl) (by rfl) (by rfl) (enters_of Tryz.func49 (by kernel_rfl) rfl) ((h3).mono ?_))
    rintro _ _ ⟨rfl, hH⟩
    replace hH := hH.symm
    subst hH
    refine WpOps.take 5 (by simp only [go_sem, reduceCtorEq, Nat.reduceAdd, Nat.reduceMul, Nat.reduceSub, Nat.reduceLT, Nat.reduceLeDiff, Nat.reduceEqDiff, Nat.reduceBEq, Nat.reducePow]; rfl) ?_
    refine WpOps.step (by rfl) (by rfl) (OpW.callY rfl (by rfl) (by rfl) (by rfl) (enters_of Tryz.func49 (by kernel_rfl) rfl) ((h4).mono ?_))
    rintro _ _ ⟨rfl, hH⟩
    replace hH := hH.symm
    subst hH
    refine WpOps.take 8 (by simp only [go_sem, reduceCtorEq, Nat.reduceAdd, Nat.reduceMul, Nat.reduceSub, Nat.reduceLT, Nat.reduceLeDiff, Nat.reduceEqDiff, Nat.reduceBEq, Nat.reducePow]; rfl) (WpOps.nil ⟨Marks.nil _, ?_⟩)
    simp only [Vthen, VinBlock, if_true, if_false, Nat.reduceEqDiff, reduceCtorEq]
    refine WpV.ret ⟨Marks.nil _, List.nodup_nil, _, by simp only [Tryz.results81]; simp only [go_sem, reduceCtorEq, Nat.reduceAdd, Nat.reduceMul, Nat.reduceSub, Nat.reduceLT, Nat.reduceLeDiff, Nat.reduceEqDiff, Nat.reduceBEq, Nat.reducePow]; rfl, ?_⟩
    exact ⟨by simp [Cs.base, b1, b2, b3, b4], rfl⟩
  rw [b4] at h4
  refine WpV.seq (WpV.region ?_)
  refine WpOps.take 4 (by simp only [go_sem, reduceCtorEq, Nat.reduceAdd, Nat.reduceMul, Nat.reduceSub, Nat.reduceLT, Nat.reduceLeDiff, Nat.reduceEqDiff, Nat.reduceBEq, Nat.reducePow]; rfl) ?_
  refine WpOps.step (by rfl) (by rfl) (OpW.callY rfl (by rfl) (by rfl) (by rfl) (enters_of Tryz.func49 (by kernel_rfl) rfl) ((h1).mono ?_))
  rintro _ _ ⟨rfl, hH⟩
  replace hH := hH.symm
  subst hH
  refine WpOps.take 3 (by simp only [go_sem, reduceCtorEq, Nat.reduceAdd, Nat.reduceMul, Nat.reduceSub, Nat.reduceLT, Nat.reduceLeDiff, Nat.reduceEqDiff, Nat.reduceBEq, Nat.reducePow]; rfl) ?_
  refine WpOps.step (by rfl) (by rfl) (OpW.callY rfl (by rfl) (by rfl) (by rfl) (enters_of Tryz.func49 (by kernel_rfl) rfl) ((h2).mono ?_))
  rintro _ _ ⟨rfl, hH⟩
  replace hH := hH.symm
  subst hH
  refine WpOps.take 5 (by simp only [go_sem, reduceCtorEq, Nat.reduceAdd, Nat.reduceMul, Nat.reduceSub, Nat.reduceLT, Nat.reduceLeDiff, Nat.reduceEqDiff, Nat.reduceBEq, Nat.reducePow]; rfl) ?_
  refine WpOps.step (by rfl) (by rfl) (OpW.callY rfl (by rfl) (by rfl) (by rfl) (enters_of Tryz.func49 (by kernel_rfl) rfl) ((h3).mono ?_))
  rintro _ _ ⟨rfl, hH⟩
  replace hH := hH.symm
  subst hH
  refine WpOps.take 5 (by simp only [go_sem, reduceCtorEq, Nat.reduceAdd, Nat.reduceMul, Nat.reduceSub, Nat.reduceLT, Nat.reduceLeDiff, Nat.reduceEqDiff, Nat.reduceBEq, Nat.reducePow]; rfl) ?_
  refine WpOps.step (by rfl) (by rfl) (OpW.callY rfl (by rfl) (by rfl) (by rfl) (enters_of Tryz.func49 (by kernel_rfl) rfl) ((h4).mono ?_))
  rintro _ _ ⟨rfl, hH⟩
  replace hH := hH.symm
  subst hH
  refine WpOps.take 5 (by simp only [go_sem, reduceCtorEq, Nat.reduceAdd, Nat.reduceMul, Nat.reduceSub, Nat.reduceLT, Nat.reduceLeDiff, Nat.reduceEqDiff, Nat.reduceBEq, Nat.reducePow]; rfl) ?_
  refine WpOps.step (by rfl) (by rfl) (OpW.callY rfl (by rfl) (by rfl) (by rfl) (enters_of Tryz.func49 (by kernel_rfl) rfl) ((h5).mono ?_))
  rintro _ _ ⟨rfl, hH⟩
  replace hH := hH.symm
  subst hH
  refine WpOps.take 2 (by simp only [go_sem, reduceCtorEq, Nat.reduceAdd, Nat.reduceMul, Nat.reduceSub, Nat.reduceLT, Nat.reduceLeDiff, Nat.reduceEqDiff, Nat.reduceBEq, Nat.reducePow]; rfl) (WpOps.nil ⟨Marks.nil _, ?_⟩)
  simp only [Vthen, VinBlock, if_true, if_false, Nat.reduceEqDiff, reduceCtorEq]
  refine WpV.ret ⟨Marks.nil _, List.nodup_nil, _, by simp only [Tryz.results81]; simp only [go_sem, reduceCtorEq, Nat.reduceAdd, Nat.reduceMul, Nat.reduceSub, Nat.reduceLT, Nat.reduceLeDiff, Nat.reduceEqDiff, Nat.reduceBEq, Nat.reducePow]; rfl, ?_⟩
  exact ⟨by simp [Cs.base, b1, b2, b3, b4], rfl⟩
end Go.Proofs.YtaekibilldjnmaaGreat
namespace Go.Proofs.YtaekibilldjnmaaGreat
open Go.Proofs

def keyP (p : Int × Int × Int) : AV := .agg [vint p.1, vint p.2.1]
def moreP (p : Int × Int × Int) : AV := vint p.2.2
abbrev Cs.box (c : Cs) : List AV := [vints c.wn c.wc c.ws, .sl c.pn c.pc c.ps.length (c.ps.flatMap pairC), vint c.rim, vint c.least, vint c.blank, .fm (c.ps.map keyP) (c.ps.map moreP)]

def Small (n : Int) : Prop := -9223372036854775808 ≤ n ∧ n < 9223372036854775808
theorem Small.wf {n : Int} (h : Small n) : (Lit.int .i64 n).wf = true := by
  have h1 : IntKind.i64.min = -9223372036854775808 := by decide
  have h2 : IntKind.i64.max = 9223372036854775807 := by decide
  simp only [Lit.wf, h1, h2, Bool.and_eq_true, decide_eq_true_eq]
  unfold Small at h; omega
theorem Tryz.under76 : Tryz.prog.underlying 76 = some (.map 106 3) := by kernel_rfl
theorem Tryz.law106 : WideMaps.KeyLaw Tryz.prog 106 := deep_law (m := 10) (by decide) (by kernel_rfl) (by kernel_rfl) (by kernel_rfl)
theorem Tryz.arr106 : WideMaps.ArrKey Tryz.prog 106 3 2 := ⟨by kernel_rfl, by kernel_rfl, by kernel_rfl, by kernel_rfl⟩
theorem Tryz.key106 {a b : Int} (ha : Small a) (hb : Small b) : keyOf Tryz.prog 106 (.agg #[.int .i64 a, .int .i64 b]) = some (.string (keyBytes [.int .i64 a, .int .i64 b])) :=
  WideMaps.keyOf_pair Tryz.arr106 (by kernel_rfl) ⟨Tryz.prog.types.size - 1, by kernel_rfl⟩ ha.wf hb.wf
def KeysOk (ps : List (Int × Int × Int)) : Prop := (∀ p ∈ ps, Small p.1 ∧ Small p.2.1) ∧ (ps.map fun p => (p.1, p.2.1)).Nodup
theorem Tryz.keys76 {ps : List (Int × Int × Int)} (h : ∀ p ∈ ps, Small p.1 ∧ Small p.2.1) : Keys Tryz.prog 76 106 3 (ps.map keyP) := ⟨Tryz.under76, Tryz.law106, fun y hy => by
  obtain ⟨p, hp, rfl⟩ := List.mem_map.1 hy
  exact ⟨_, _, rfl, Tryz.key106 (h p hp).1 (h p hp).2⟩⟩
theorem keyP_conc {p : Int × Int × Int} {a b : Int} (h : (keyP p).conc = some (.agg #[.int .i64 a, .int .i64 b])) : p.1 = a ∧ p.2.1 = b := by
  simp [keyP, AV.conc, AV.concs] at h; exact h

set_option maxHeartbeats 4000000 in
theorem box_of (H : Hp) (c : Cs) (hc : c.Ok) (hk : KeysOk c.ps) : CallV Tryz.prog 35 [.agg c.cells] H (fun r H' => r = .agg c.box ∧ H' = H) := by
  have hps := hc.ps
  refine CallV.body Tryz.func35 rfl Tryz.ntmps35 (by rfl) ?_
  refine WpV.seq (WpV.region ?_)
  refine WpOps.take 1 (by simp only [go_sem, reduceCtorEq, Nat.reduceAdd, Nat.reduceMul, Nat.reduceSub, Nat.reduceLT, Nat.reduceLeDiff, Nat.reduceEqDiff, Nat.reduceBEq, Nat.reducePow]; rfl) ?_
  refine WpOps.step (by rfl) (by rfl) (OpW.alloc rfl (Tryz.ze78) (fun i2 h2 => ?_))
  refine WpOps.nil ⟨Marks.nil _, ?_⟩
  simp only [Vthen, VinBlock, if_true, if_false, Nat.reduceEqDiff, reduceCtorEq]
  refine WpV.seq (WpV.region ?_)
  refine WpOps.take 1 (by simp only [go_sem, reduceCtorEq, Nat.reduceAdd, Nat.reduceMul, Nat.reduceSub, Nat.reduceLT, Nat.reduceLeDiff, Nat.reduceEqDiff, Nat.reduceBEq, Nat.reducePow]; rfl) ?_
  refine WpOps.step (by rfl) (by rfl) (OpW.makeMap rfl (fun im hm => ?_))
  refine WpOps.take 1 (by simp only [go_sem, reduceCtorEq, Nat.reduceAdd, Nat.reduceMul, Nat.reduceSub, Nat.reduceLT, Nat.reduceLeDiff, Nat.reduceEqDiff, Nat.reduceBEq, Nat.reducePow]; rfl) ?_
  refine WpOps.step (by rfl) (by rfl) (OpW.alloc rfl (Tryz.ze78) (fun i3 h3 => ?_))
  obtain ⟨n2, hm'⟩ := fresh_ne hm
  obtain ⟨n3, h3'⟩ := fresh_ne h3
  obtain ⟨n4, h3''⟩ := fresh_ne h3'
  refine WpOps.step (by rfl) (by rfl) (OpW.store (ty := 78) rfl (by simp only [go_sem, reduceCtorEq, Nat.reduceAdd, Nat.reduceMul, Nat.reduceSub, Nat.reduceLT, Nat.reduceLeDiff, Nat.reduceEqDiff, Nat.reduceBEq, Nat.reducePow]; try rfl) (by simp only [go_sem, reduceCtorEq, Nat.reduceAdd, Nat.reduceMul, Nat.reduceSub, Nat.reduceLT, Nat.reduceLeDiff, Nat.reduceEqDiff, Nat.reduceBEq, Nat.reducePow]; try rfl) (Hp.set_eq _ _ _) (by simp only [go_sem, reduceCtorEq, Nat.reduceAdd, Nat.reduceMul, Nat.reduceSub, Nat.reduceLT, Nat.reduceLeDiff, Nat.reduceEqDiff, Nat.reduceBEq, Nat.reducePow]; try rfl) (by exact Tryz.sz78) (by simp) ?_)
  simp only [go_sem, reduceCtorEq, Nat.reduceAdd, Nat.reduceMul, Nat.reduceSub, Nat.reduceLT, Nat.reduceLeDiff, Nat.reduceEqDiff, Nat.reduceBEq, Nat.reducePow, Hp.set_set]
  refine WpOps.nil ⟨Marks.nil _, ?_⟩
  simp only [Vthen, VinBlock, if_true, if_false, Nat.reduceEqDiff, reduceCtorEq]
  generalize hZ : ([AV.sl true true 0 [], .sl true true 0 [], .int .i64 0, .int .i64 0, .int .i64 0, .nilm] : List AV) = Z
  refine WpV.seq ?_
  refine WpV.seq (WpV.regionE (by simp only [go_sem, reduceCtorEq, Nat.reduceAdd, Nat.reduceMul, Nat.reduceSub, Nat.reduceLT, Nat.reduceLeDiff, Nat.reduceEqDiff, Nat.reduceBEq, Nat.reducePow]; rfl) (Marks.nil _) ?_)
  simp only [Vthen, VinBlock, if_true, if_false, Nat.reduceEqDiff, reduceCtorEq]
  refine WpV.block (WpV.loopN c.ps.length (fun k => [(2, .rp i2 0 0), (3, .rp i3 0 0), (10, .sl c.pn c.pc c.ps.length (c.ps.flatMap pairC)), (11, vint c.ps.length), (12, vint k)])
    (fun k => ((H.set i2 (some (.cells 78 0 Z))).set im (some (.map ((c.ps.take k).map keyP) ((c.ps.take k).map moreP)))).set i3 (some (.cells 78 0 [vints c.wn c.wc c.ws, .sl c.pn c.pc c.ps.length (c.ps.flatMap pairC), vint c.rim, vint c.least, vint c.blank, .mp im]))) ?_ ?_ ?_)
  · exact .cons rfl rfl (.cons rfl rfl (.cons rfl rfl (.cons rfl rfl (.cons rfl rfl (.nil _)))))
  · rfl
  · intro k hk'
    refine WpV.seq (WpV.regionE (by simp only [go_sem, reduceCtorEq, Nat.reduceAdd, Nat.reduceMul, Nat.reduceSub, Nat.reduceLT, Nat.reduceLeDiff, Nat.reduceEqDiff, Nat.reduceBEq, Nat.reducePow]; rfl) (Marks.nil _) ?_)
    simp only [Vthen, VinBlock, if_true, if_false, Nat.reduceEqDiff, reduceCtorEq]
    refine WpV.seq (WpV.cond rfl (fun hb => WpV.skip ?_) (fun hb => WpV.exit ?_))
    · have hlt : (k : Int) < (c.ps.length : Int) := of_decide_eq_true hb
      have hlt' : k < c.ps.length := by omega
      have hle : k * 3 + 3 ≤ (c.ps.flatMap pairC).length := by rw [pairs_len]; omega
      have hat := pairs_at c.ps k hlt'
      have hgk : c.ps.getD k (0, 0, 0) = c.ps[k] := by simp [List.getD_eq_getElem?_getD, hlt']
      rw [hgk] at hat
      generalize hp : c.ps[k] = p at hat
      simp only [Vthen, VinBlock, if_true, if_false, Nat.reduceEqDiff, reduceCtorEq]
      refine WpV.seq (WpV.block ?_)
      refine WpV.seq (WpV.region ?_)
      refine WpOps.take 2 (by simp only [go_sem, reduceCtorEq, Nat.reduceAdd, Nat.reduceMul, Nat.reduceSub, Nat.reduceLT, Nat.reduceLeDiff, Nat.reduceEqDiff, Nat.reduceBEq, Nat.reducePow, hlt, hle, hat]; rfl) ?_
      refine WpOps.step (by rfl) (by rfl) (OpW.alloc rfl (Tryz.ze74) (fun i5 h5 => ?_))
      obtain ⟨m3, h5'⟩ := fresh_ne h5
      obtain ⟨mm, h5''⟩ := fresh_ne h5'
      obtain ⟨m2, h5n⟩ := fresh_ne h5''
      refine WpOps.step (by rfl) (by rfl) (OpW.store (ty := 74) rfl (by simp only [go_sem, reduceCtorEq, Nat.reduceAdd, Nat.reduceMul, Nat.reduceSub, Nat.reduceLT, Nat.reduceLeDiff, Nat.reduceEqDiff, Nat.reduceBEq, Nat.reducePow]; try rfl) (by simp only [go_sem, reduceCtorEq, Nat.reduceAdd, Nat.reduceMul, Nat.reduceSub, Nat.reduceLT, Nat.reduceLeDiff, Nat.reduceEqDiff, Nat.reduceBEq, Nat.reducePow]; try rfl) (Hp.set_eq _ _ _) (by simp only [pairC, go_sem, reduceCtorEq, Nat.reduceAdd, Nat.reduceMul, Nat.reduceSub, Nat.reduceLT, Nat.reduceLeDiff, Nat.reduceEqDiff, Nat.reduceBEq, Nat.reducePow]; rfl) (by exact Tryz.sz74) (by simp) ?_)
      simp only [pairC, go_sem, reduceCtorEq, Nat.reduceAdd, Nat.reduceMul, Nat.reduceSub, Nat.reduceLT, Nat.reduceLeDiff, Nat.reduceEqDiff, Nat.reduceBEq, Nat.reducePow, Hp.set_set]
      refine WpOps.nil ⟨Marks.nil _, ?_⟩
      simp only [Vthen, VinBlock, if_true, if_false, Nat.reduceEqDiff, reduceCtorEq]
      refine WpV.region ?_
      refine WpOps.take 9 (by simp only [go_sem, reduceCtorEq, Nat.reduceAdd, Nat.reduceMul, Nat.reduceSub, Nat.reduceLT, Nat.reduceLeDiff, Nat.reduceEqDiff, Nat.reduceBEq, Nat.reducePow, Hp.set_ne, m3.symm, mm.symm, n3.symm, ne_eq, not_false_eq_true]; rfl) ?_
      have hmem : p ∈ c.ps := by rw [← hp]; exact List.getElem_mem _
      refine WpOps.step (by rfl) (by rfl) (OpW.mapUpdate (ks := (c.ps.take k).map keyP) (vs := (c.ps.take k).map moreP) (u := .agg #[.int .i64 p.1, .int .i64 p.2.1]) (x := keyP p) (z := vint p.2.2) rfl (by simp only [go_sem, reduceCtorEq, Nat.reduceAdd, Nat.reduceMul, Nat.reduceSub, Nat.reduceLT, Nat.reduceLeDiff, Nat.reduceEqDiff, Nat.reduceBEq, Nat.reducePow]; try rfl) (by simp only [Hp.set_ne, m3.symm, mm.symm, n3.symm, ne_eq, not_false_eq_true, Hp.set_eq]) (by simp only [go_sem, reduceCtorEq, Nat.reduceAdd, Nat.reduceMul, Nat.reduceSub, Nat.reduceLT, Nat.reduceLeDiff, Nat.reduceEqDiff, Nat.reduceBEq, Nat.reducePow]; try rfl) (by simp only [go_sem, reduceCtorEq, Nat.reduceAdd, Nat.reduceMul, Nat.reduceSub, Nat.reduceLT, Nat.reduceLeDiff, Nat.reduceEqDiff, Nat.reduceBEq, Nat.reducePow]; try rfl) rfl (Tryz.key106 (hk.1 p hmem).1 (hk.1 p hmem).2) (Tryz.keys76 fun q hq => hk.1 q (List.mem_of_mem_take hq)) ?_ ?_)
      · intro j y hj hy
        exfalso
        rw [List.getElem?_map] at hj
        obtain ⟨q, hq, rfl⟩ := Option.map_eq_some_iff.1 hj
        obtain ⟨e1, e2⟩ := keyP_conc hy
        have hjk : j < k := by
          have := (List.getElem?_eq_some_iff.1 hq).1
          simp at this; omega
        rw [List.getElem?_take, if_pos hjk] at hq
        have hjl : j < c.ps.length := by omega
        have hnd := (List.pairwise_iff_getElem.1 hk.2) j k (by simpa using hjl) (by simpa using hlt') hjk
        apply hnd
        have hq' : c.ps[j] = q := by rw [List.getElem?_eq_getElem hjl] at hq; exact Option.some.inj hq
        simp only [List.getElem_map, hq', hp, e1, e2]
      · intro _
        refine WpOps.nil ⟨Marks.nil _, ?_⟩
        simp only [Vthen, VinBlock, if_true, if_false, Nat.reduceEqDiff, reduceCtorEq]
        refine WpV.pre (Frz.drop _ _ i5) (Marks.nil _) ?_
        refine WpV.regionE (by simp only [go_sem, reduceCtorEq, Nat.reduceAdd, Nat.reduceMul, Nat.reduceSub, Nat.reduceLT, Nat.reduceLeDiff, Nat.reduceEqDiff, Nat.reduceBEq, Nat.reducePow]; rfl) (Marks.nil _) ?_
        simp only [Vthen, VinBlock, if_true, if_false, Nat.reduceEqDiff, reduceCtorEq]
        refine ⟨by first | rfl | trivial, hlt', .cons rfl rfl (.cons rfl rfl (.cons rfl rfl (.cons rfl rfl (.cons rfl ?_ (.nil _))))), ?_⟩
        · rw [wrap64 (by omega)]; rfl
        · have ek : (c.ps.take (k + 1)) = c.ps.take k ++ [p] := by rw [List.take_add_one, List.getElem?_eq_getElem hlt', hp]; rfl
          rw [ek, List.map_append, List.map_append]
          funext x
          simp only [Hp.set]
          by_cases e5 : x = i5
          · subst e5; simp [m3, mm, m2, h5n]
          · by_cases em : x = im
            · subst em; simp [e5, n3.symm, n2, keyP, moreP]
            · by_cases e3 : x = i3
              · subst e3; simp [e5, em]
              · simp [e5, em, e3]
    · have hge : k = c.ps.length := by have := of_decide_eq_false hb; omega
      subst hge
      rw [List.take_length]
      simp only [Vthen, VinBlock, if_true, if_false, Nat.reduceEqDiff, reduceCtorEq]
      refine WpV.pre (Frz.cellM (k := i3) (i := 5) (Hp.set_eq _ _ _) n3 rfl (by rw [Hp.set_ne _ _ n3.symm, Hp.set_eq])) (Marks.nil _) ?_
      simp only [List.set_cons_succ, List.set_cons_zero, Hp.set_set]
      refine WpV.seq (WpV.region ?_)
      refine WpOps.take 1 (by simp only [go_sem, reduceCtorEq, Nat.reduceAdd, Nat.reduceMul, Nat.reduceSub, Nat.reduceLT, Nat.reduceLeDiff, Nat.reduceEqDiff, Nat.reduceBEq, Nat.reducePow, Hp.set_ne, n3, n4, n2, n3.symm, n4.symm, n2.symm, ne_eq, not_false_eq_true]; rfl) ?_
      refine WpOps.step (by rfl) (by rfl) (OpW.store (ty := 78) (cs := Z) rfl (by simp only [go_sem, reduceCtorEq, Nat.reduceAdd, Nat.reduceMul, Nat.reduceSub, Nat.reduceLT, Nat.reduceLeDiff, Nat.reduceEqDiff, Nat.reduceBEq, Nat.reducePow]; try rfl) (by simp only [go_sem, reduceCtorEq, Nat.reduceAdd, Nat.reduceMul, Nat.reduceSub, Nat.reduceLT, Nat.reduceLeDiff, Nat.reduceEqDiff, Nat.reduceBEq, Nat.reducePow]; try rfl) (by simp only [Hp.set_ne, n3, n4, n2, n3.symm, n4.symm, n2.symm, ne_eq, not_false_eq_true, Hp.set_eq]) (by simp only [go_sem, reduceCtorEq, Nat.reduceAdd, Nat.reduceMul, Nat.reduceSub, Nat.reduceLT, Nat.reduceLeDiff, Nat.reduceEqDiff, Nat.reduceBEq, Nat.reducePow]; try rfl) (by exact Tryz.sz78) (by subst hZ; simp) ?_)
      subst hZ
      simp only [go_sem, reduceCtorEq, Nat.reduceAdd, Nat.reduceMul, Nat.reduceSub, Nat.reduceLT, Nat.reduceLeDiff, Nat.reduceEqDiff, Nat.reduceBEq, Nat.reducePow]
      refine WpOps.nil ⟨Marks.nil _, ?_⟩
      simp only [Vthen, VinBlock, if_true, if_false, Nat.reduceEqDiff, reduceCtorEq]
      refine WpV.pre (Frz.drop _ _ i3) (Marks.nil _) ?_
      refine WpV.pre (Frz.ptr (t := 2) (id := i2) (ver := 0) (off := 0) rfl (by rw [Hp.set_ne _ _ n4.symm, Hp.set_eq])) (Marks.nil _) ?_
      refine WpV.ret ⟨Marks.nil _, List.nodup_nil, _, by simp only [Tryz.results35]; simp only [go_sem, reduceCtorEq, Nat.reduceAdd, Nat.reduceMul, Nat.reduceSub, Nat.reduceLT, Nat.reduceLeDiff, Nat.reduceEqDiff, Nat.reduceBEq, Nat.reducePow]; rfl, ?_⟩
      refine ⟨rfl, ?_⟩
      funext x
      simp only [killA, Hp.set]
      by_cases e2 : x = i2
      · subst e2; simp [h2]
      · by_cases em : x = im
        · subst em; simp [e2, hm']
        · by_cases e3 : x = i3
          · subst e3; simp [e2, em, h3'']
          · simp [e2, em, e3]
end Go.Proofs.YtaekibilldjnmaaGreat
namespace Go.Proofs.YtaekibilldjnmaaGreat
open Go.Proofs

structure Cs.Valid (c : Cs) : Prop where
  base : c.base = true
  few : c.ps.length ≤ 10
  pairs : c.ps.all c.pairOk = true
  nodup : (c.ps.map fun p => (p.1, p.2.1)).Nodup

theorem inB_iff {lo hi n : Int} : inB lo hi n = true ↔ lo ≤ n ∧ n ≤ hi := by simp [inB]
theorem insB_iff {lo hi : Int} {xs : List Int} : insB lo hi xs = true ↔ ∀ x ∈ xs, lo ≤ x ∧ x ≤ hi := by
  simp only [insB, List.all_eq_true, inB_iff]

structure Cs.Base (c : Cs) : Prop where
  len1 : 1 ≤ c.ws.length
  len8 : c.ws.length ≤ 8
  ws : ∀ x ∈ c.ws, 1 ≤ x ∧ x ≤ 30
  rim : 0 ≤ c.rim ∧ c.rim ≤ 20
  least : 0 ≤ c.least ∧ c.least ≤ 10
  blank : 0 ≤ c.blank ∧ c.blank ≤ 30
theorem Cs.base_iff {c : Cs} : c.base = true ↔ c.Base := by
  simp only [Cs.base, Bool.and_eq_true, insB_iff, List.mem_singleton, forall_eq]
  constructor
  · rintro ⟨⟨⟨⟨h1, h2⟩, h3⟩, h4⟩, h5⟩; exact ⟨by omega, by omega, h2, h3, h4, h5⟩
  · rintro ⟨h1, h2, h3, h4, h5, h6⟩; exact ⟨⟨⟨⟨by omega, h3⟩, h4⟩, h5⟩, h6⟩
theorem Cs.Valid.ok {c : Cs} (h : c.Valid) : c.Ok := by
  have := Cs.base_iff.1 h.base
  exact ⟨by have := this.len8; omega, by have := h.few; omega⟩
theorem Cs.Valid.pair {c : Cs} (h : c.Valid) {p : Int × Int × Int} (hp : p ∈ c.ps) : (0 ≤ p.1 ∧ p.1 < c.ws.length) ∧ (0 ≤ p.2.1 ∧ p.2.1 < c.ws.length) ∧ -5 ≤ p.2.2 ∧ p.2.2 ≤ 5 := by
  have := List.all_eq_true.1 h.pairs p hp
  simp only [Cs.pairOk, Bool.and_eq_true, Cs.letters, insB_iff] at this
  have h1 := this.1 p.1 (by simp)
  have h2 := this.1 p.2.1 (by simp)
  have h3 := this.2 p.2.2 (by simp)
  omega
theorem Cs.Valid.keys {c : Cs} (h : c.Valid) : KeysOk c.ps := by
  refine ⟨fun p hp => ?_, h.nodup⟩
  have := h.pair hp
  have := (Cs.base_iff.1 h.base).len8
  unfold Small; omega

/-- What is asked of a case, but that its letters may have no width. -/
structure Cs.Fair (c : Cs) : Prop where
  len9 : c.ws.length ≤ 9
  ws : ∀ x ∈ c.ws, 0 ≤ x ∧ x ≤ 30
  rim : 0 ≤ c.rim ∧ c.rim ≤ 20
  least : 0 ≤ c.least ∧ c.least ≤ 10
  blank : 0 ≤ c.blank ∧ c.blank ≤ 30
  few : c.ps.length ≤ 10
  keys : KeysOk c.ps
  mores : ∀ p ∈ c.ps, -5 ≤ p.2.2 ∧ p.2.2 ≤ 5
theorem Cs.Base.w {c : Cs} (h : c.Base) : ∀ x ∈ c.ws, 0 ≤ x ∧ x ≤ 30 := fun x hx => by have := h.ws x hx; omega
theorem Cs.Valid.fair {c : Cs} (h : c.Valid) : c.Fair := by
  have hB := Cs.base_iff.1 h.base
  exact ⟨by have := hB.len8; omega, hB.w, hB.rim, hB.least, hB.blank, h.few, h.keys, fun p hp => (h.pair hp).2.2⟩

theorem check_ok (H : Hp) (c : Cs) (hc : c.Valid) : CallV Tryz.prog 57 [.agg c.cells] H (fun r H' => r = vint 0 ∧ H' = H) := by
  have hf := hc.few
  have h1 := case_any H c hc.ok
  rw [hc.base] at h1
  have h2 := pairs_any H c hc.ok
  rw [hc.pairs] at h2
  have hgt : ¬ ((10 : Int) < (c.ps.length : Int)) := by omega
  refine CallV.body Tryz.func57 rfl Tryz.ntmps57 (by rfl) ?_
  refine WpV.seq (WpV.regionE (by simp only [go_sem, reduceCtorEq, Nat.reduceAdd, Nat.reduceMul, Nat.reduceSub, Nat.reduceLT, Nat.reduceLeDiff, Nat.reduceEqDiff, Nat.reduceBEq, Nat.reducePow]; rfl) (Marks.nil _) ?_)
  simp only [Vthen, VinBlock, if_true, if_false, Nat.reduceEqDiff, reduceCtorEq]
  refine WpV.seq (WpV.block ?_)
  refine WpV.seq (WpV.region ?_)
  refine WpOps.take 1 (by simp only [go_sem, reduceCtorEq, Nat.reduceAdd, Nat.reduceMul, Nat.reduceSub, Nat.reduceLT, Nat.reduceLeDiff, Nat.reduceEqDiff, Nat.reduceBEq, Nat.reducePow]; rfl) ?_
  refine WpOps.step (by rfl) (by rfl) (OpW.callY rfl (by rfl) (by rfl) (by rfl) (enters_of Tryz.func81 (by kernel_rfl) rfl) ((h1).mono ?_))
  rintro _ _ ⟨rfl, hH⟩
  replace hH := hH.symm
  subst hH
  refine WpOps.take 2 (by simp only [go_sem, reduceCtorEq, Nat.reduceAdd, Nat.reduceMul, Nat.reduceSub, Nat.reduceLT, Nat.reduceLeDiff, Nat.reduceEqDiff, Nat.reduceBEq, Nat.reducePow]; rfl) (WpOps.nil ⟨Marks.nil _, ?_⟩)
  simp only [Vthen, VinBlock, if_true, if_false, Nat.reduceEqDiff, reduceCtorEq]
  refine WpV.cond rfl (fun hb => by cases hb) (fun hb => ?_)
  refine WpV.seq (WpV.regionE (by simp only [go_sem, reduceCtorEq, Nat.reduceAdd, Nat.reduceMul, Nat.reduceSub, Nat.reduceLT, Nat.reduceLeDiff, Nat.reduceEqDiff, Nat.reduceBEq, Nat.reducePow, hgt, gt_iff_lt]; rfl) (Marks.nil _) ?_)
  simp only [Vthen, VinBlock, if_true, if_false, Nat.reduceEqDiff, reduceCtorEq]
  refine WpV.cond rfl (fun hb => by cases hb) (fun hb => ?_)
  refine WpV.seq (WpV.region ?_)
  refine WpOps.take 1 (by simp only [go_sem, reduceCtorEq, Nat.reduceAdd, Nat.reduceMul, Nat.reduceSub, Nat.reduceLT, Nat.reduceLeDiff, Nat.reduceEqDiff, Nat.reduceBEq, Nat.reducePow]; rfl) ?_
  refine WpOps.step (by rfl) (by rfl) (OpW.callY rfl (by rfl) (by rfl) (by rfl) (enters_of Tryz.func82 (by kernel_rfl) rfl) ((h2).mono ?_))
  rintro _ _ ⟨rfl, hH⟩
  replace hH := hH.symm
  subst hH
  refine WpOps.take 2 (by simp only [go_sem, reduceCtorEq, Nat.reduceAdd, Nat.reduceMul, Nat.reduceSub, Nat.reduceLT, Nat.reduceLeDiff, Nat.reduceEqDiff, Nat.reduceBEq, Nat.reducePow]; rfl) (WpOps.nil ⟨Marks.nil _, ?_⟩)
  simp only [Vthen, VinBlock, if_true, if_false, Nat.reduceEqDiff, reduceCtorEq]
  refine WpV.cond rfl (fun hb => by cases hb) (fun hb => ?_)
  refine WpV.seq (WpV.regionD Tryz.mixed (by kernel_rfl) (by kernel_rfl) ?_)
  refine LexD.take 1 (by rfl) (by simp only [go_sem, reduceCtorEq, Nat.reduceAdd, Nat.reduceMul, Nat.reduceSub, Nat.reduceLT, Nat.reduceLeDiff, Nat.reduceEqDiff, Nat.reduceBEq, Nat.reducePow, Int.lt_irrefl]; rfl) ?_
  refine LexD.step (by rfl) (by rfl) (OpW.callY rfl (by rfl) (by rfl) (by rfl) (enters_of Tryz.func35 (by kernel_rfl) rfl) (box_of H c hc.ok hc.keys)) ?_
  refine LexD.take 7 (by rfl) (by simp only [go_sem, reduceCtorEq, Nat.reduceAdd, Nat.reduceMul, Nat.reduceSub, Nat.reduceLT, Nat.reduceLeDiff, Nat.reduceEqDiff, Nat.reduceBEq, Nat.reducePow, Int.lt_irrefl]; rfl) (LexD.nilE ⟨Marks.nil _, ?_⟩)
  simp only [Vthen, VinBlock, if_true, if_false, Nat.reduceEqDiff, reduceCtorEq]
  refine WpV.cond rfl (fun hb => by cases hb) (fun hb => WpV.skip ?_)
  simp only [Vthen, VinBlock, if_true, if_false, Nat.reduceEqDiff, reduceCtorEq]
  refine WpV.seq (WpV.regionE (by simp only [go_sem, reduceCtorEq, Nat.reduceAdd, Nat.reduceMul, Nat.reduceSub, Nat.reduceLT, Nat.reduceLeDiff, Nat.reduceEqDiff, Nat.reduceBEq, Nat.reducePow]; rfl) (Marks.nil _) ?_)
  simp only [Vthen, VinBlock, if_true, if_false, Nat.reduceEqDiff, reduceCtorEq]
  refine WpV.ret ⟨Marks.nil _, List.nodup_nil, _, by simp only [Tryz.results57]; simp only [go_sem, reduceCtorEq, Nat.reduceAdd, Nat.reduceMul, Nat.reduceSub, Nat.reduceLT, Nat.reduceLeDiff, Nat.reduceEqDiff, Nat.reduceBEq, Nat.reducePow]; rfl, ?_⟩
  exact ⟨rfl, rfl⟩
end Go.Proofs.YtaekibilldjnmaaGreat
namespace Go.Proofs.YtaekibilldjnmaaGreat
open Go.Proofs

def Tame (xs : List Int) : Prop := xs.length < 1000000 ∧ ∀ x ∈ xs, -1000000 ≤ x ∧ x ≤ 1000000
theorem tame_sum_aux : ∀ {xs : List Int}, (∀ x ∈ xs, -1000000 ≤ x ∧ x ≤ 1000000) → -1000000 * (xs.length : Int) ≤ xs.sum ∧ xs.sum ≤ 1000000 * (xs.length : Int)
  | [], _ => by simp
  | x :: xs, h => by
    have h1 := h x (by simp)
    have h2 := tame_sum_aux (xs := xs) (fun y hy => h y (by simp [hy]))
    simp only [List.length_cons, List.sum_cons]
    omega
theorem Tame.sum {xs : List Int} (h : Tame xs) : -1000000000000 ≤ xs.sum ∧ xs.sum ≤ 1000000000000 := by
  have := tame_sum_aux h.2
  have := h.1
  omega
theorem Tame.take {xs : List Int} (h : Tame xs) (k : Nat) : Tame (xs.take k) := ⟨by have := h.1; simp; omega, fun x hx => h.2 x (List.mem_of_mem_take hx)⟩
theorem sum_take (xs : List Int) (k : Nat) (hk : k < xs.length) : (xs.take (k + 1)).sum = (xs.take k).sum + xs[k] := by
  rw [List.take_add_one, List.getElem?_eq_getElem hk, List.sum_append]; simp

theorem sum_any (H : Hp) (nl clip : Bool) (xs : List Int) (hx : Tame xs) : CallV Tryz.prog 84 [vints nl clip xs] H (fun r H' => r = vint xs.sum ∧ H' = H) := by
  have hl := hx.1
  refine CallV.body Tryz.func84 rfl Tryz.ntmps84 (by rfl) ?_
  refine WpV.seq (WpV.regionE (by simp only [go_sem, reduceCtorEq, Nat.reduceAdd, Nat.reduceMul, Nat.reduceSub, Nat.reduceLT, Nat.reduceLeDiff, Nat.reduceEqDiff, Nat.reduceBEq, Nat.reducePow]; rfl) (Marks.nil _) ?_)
  simp only [Vthen, VinBlock, if_true, if_false, Nat.reduceEqDiff, reduceCtorEq]
  refine WpV.seq (WpV.regionE (by simp only [go_sem, reduceCtorEq, Nat.reduceAdd, Nat.reduceMul, Nat.reduceSub, Nat.reduceLT, Nat.reduceLeDiff, Nat.reduceEqDiff, Nat.reduceBEq, Nat.reducePow]; rfl) (Marks.nil _) ?_)
  simp only [Vthen, VinBlock, if_true, if_false, Nat.reduceEqDiff, reduceCtorEq]
  refine WpV.seq ?_
  refine WpV.seq (WpV.regionE (by simp only [go_sem, reduceCtorEq, Nat.reduceAdd, Nat.reduceMul, Nat.reduceSub, Nat.reduceLT, Nat.reduceLeDiff, Nat.reduceEqDiff, Nat.reduceBEq, Nat.reducePow]; rfl) (Marks.nil _) ?_)
  simp only [Vthen, VinBlock, if_true, if_false, Nat.reduceEqDiff, reduceCtorEq]
  refine WpV.block (WpV.loopN xs.length (fun k => [(3, vint (xs.take k).sum), (6, vints nl clip xs), (7, vint xs.length), (8, vint k)]) (fun _ => H) ?_ rfl ?_)
  · exact .cons rfl rfl (.cons rfl rfl (.cons rfl rfl (.cons rfl rfl (.nil _))))
  · intro k hk
    refine WpV.seq (WpV.regionE (by simp only [go_sem, reduceCtorEq, Nat.reduceAdd, Nat.reduceMul, Nat.reduceSub, Nat.reduceLT, Nat.reduceLeDiff, Nat.reduceEqDiff, Nat.reduceBEq, Nat.reducePow]; rfl) (Marks.nil _) ?_)
    simp only [Vthen, VinBlock, if_true, if_false, Nat.reduceEqDiff, reduceCtorEq]
    refine WpV.seq (WpV.cond rfl (fun hb => WpV.skip ?_) (fun hb => WpV.exit ?_))
    · have hlt : (k : Int) < (xs.length : Int) := of_decide_eq_true hb
      have hlt' : k < xs.length := by omega
      have hg := ints_get xs hlt'
      simp only [Vthen, VinBlock, if_true, if_false, Nat.reduceEqDiff, reduceCtorEq]
      refine WpV.seq (WpV.block ?_)
      refine WpV.seq (WpV.regionE (by simp only [go_sem, reduceCtorEq, Nat.reduceAdd, Nat.reduceMul, Nat.reduceSub, Nat.reduceLT, Nat.reduceLeDiff, Nat.reduceEqDiff, Nat.reduceBEq, Nat.reducePow, hlt, hg]; rfl) (Marks.nil _) ?_)
      simp only [Vthen, VinBlock, if_true, if_false, Nat.reduceEqDiff, reduceCtorEq]
      refine WpV.regionE (by simp only [go_sem, reduceCtorEq, Nat.reduceAdd, Nat.reduceMul, Nat.reduceSub, Nat.reduceLT, Nat.reduceLeDiff, Nat.reduceEqDiff, Nat.reduceBEq, Nat.reducePow]; rfl) (Marks.nil _) ?_
      simp only [Vthen, VinBlock, if_true, if_false, Nat.reduceEqDiff, reduceCtorEq]
      refine WpV.regionE (by simp only [go_sem, reduceCtorEq, Nat.reduceAdd, Nat.reduceMul, Nat.reduceSub, Nat.reduceLT, Nat.reduceLeDiff, Nat.reduceEqDiff, Nat.reduceBEq, Nat.reducePow]; rfl) (Marks.nil _) ?_
      simp only [Vthen, VinBlock, if_true, if_false, Nat.reduceEqDiff, reduceCtorEq]
      have h1 := (hx.take k).sum
      have h2 := hx.2 xs[k] (List.getElem_mem _)
      refine ⟨by first | rfl | trivial, hlt', .cons rfl ?_ (.cons rfl rfl (.cons rfl rfl (.cons rfl ?_ (.nil _)))), by first | rfl | trivial⟩
      · rw [sum_take _ _ hlt', wrap64 (by omega)]
      · rw [wrap64 (by omega)]; rfl
    · have hge : k = xs.length := by have := of_decide_eq_false hb; omega
      subst hge
      rw [List.take_length]
      simp only [Vthen, VinBlock, if_true, if_false, Nat.reduceEqDiff, reduceCtorEq]
      refine WpV.seq (WpV.regionE (by simp only [go_sem, reduceCtorEq, Nat.reduceAdd, Nat.reduceMul, Nat.reduceSub, Nat.reduceLT, Nat.reduceLeDiff, Nat.reduceEqDiff, Nat.reduceBEq, Nat.reducePow]; rfl) (Marks.nil _) ?_)
      simp only [Vthen, VinBlock, if_true, if_false, Nat.reduceEqDiff, reduceCtorEq]
      refine WpV.ret ⟨Marks.nil _, List.nodup_nil, _, by simp only [Tryz.results84]; simp only [go_sem, reduceCtorEq, Nat.reduceAdd, Nat.reduceMul, Nat.reduceSub, Nat.reduceLT, Nat.reduceLeDiff, Nat.reduceEqDiff, Nat.reduceBEq, Nat.reducePow]; rfl, ?_⟩
      exact ⟨rfl, rfl⟩

theorem with_any (H : Hp) (nl clip : Bool) (xs : List Int) (x : Int) (hx : xs.length < 1000000) : CallV Tryz.prog 74 [vints nl clip xs, vint x] H (fun r H' => r = vints false false (xs ++ [x]) ∧ H' = H) := by
  refine CallV.body Tryz.func74 rfl Tryz.ntmps74 (by rfl) ?_
  refine WpV.seq (WpV.regionE (by simp only [go_sem, reduceCtorEq, Nat.reduceAdd, Nat.reduceMul, Nat.reduceSub, Nat.reduceLT, Nat.reduceLeDiff, Nat.reduceEqDiff, Nat.reduceBEq, Nat.reducePow]; rfl) (Marks.nil _) ?_)
  simp only [Vthen, VinBlock, if_true, if_false, Nat.reduceEqDiff, reduceCtorEq]
  refine WpV.seq (WpV.region ?_)
  refine WpOps.take 8 (by simp only [go_sem, reduceCtorEq, Nat.reduceAdd, Nat.reduceMul, Nat.reduceSub, Nat.reduceLT, Nat.reduceLeDiff, Nat.reduceEqDiff, Nat.reduceBEq, Nat.reducePow]; rfl) ?_
  refine WpOps.step (by rfl) (by rfl) ?_
  refine OpW.append (nl := nl) (len := xs.length) (cells := (xs.map vint)) (m := 1) (ys := [vint x]) rfl rfl rfl rfl (Tryz.el29 (by omega)) Tryz.underlying29 (by simp) rfl rfl (by decide) (fun id hid => ?_)
  refine WpOps.take 1 (by simp only [go_sem, reduceCtorEq, Nat.reduceAdd, Nat.reduceMul, Nat.reduceSub, Nat.reduceLT, Nat.reduceLeDiff, Nat.reduceEqDiff, Nat.reduceBEq, Nat.reducePow]; rfl) (WpOps.nil ⟨Marks.nil _, ?_⟩)
  simp only [Vthen, VinBlock, if_true, if_false, Nat.reduceEqDiff, reduceCtorEq]
  refine WpV.pre (Frz.slice (t := 4) rfl (Hp.set_eq _ _ _)) (Marks.nil _) ?_
  rw [Hp.set_set, Hp.set_same _ _ _ hid]
  refine WpV.ret ⟨Marks.nil _, List.nodup_nil, _, by simp only [Tryz.results74]; simp only [go_sem, reduceCtorEq, Nat.reduceAdd, Nat.reduceMul, Nat.reduceSub, Nat.reduceLT, Nat.reduceLeDiff, Nat.reduceEqDiff, Nat.reduceBEq, Nat.reducePow]; rfl, ?_⟩
  refine ⟨?_, rfl⟩
  simp [List.take_of_length_le]

theorem clone_any (H : Hp) (nl clip : Bool) (xs : List Int) (hx : xs.length < 1000000) (hp : 0 < xs.length) (hnl : nl = false) : CallV Tryz.prog 95 [vints nl clip xs] H (fun r H' => r = vints false false xs ∧ H' = H) := by
  subst hnl
  refine CallV.body Tryz.func95 rfl Tryz.ntmps95 (by rfl) ?_
  refine WpV.seq (WpV.regionE (by simp only [go_sem, reduceCtorEq, Nat.reduceAdd, Nat.reduceMul, Nat.reduceSub, Nat.reduceLT, Nat.reduceLeDiff, Nat.reduceEqDiff, Nat.reduceBEq, Nat.reducePow]; rfl) (Marks.nil _) ?_)
  simp only [Vthen, VinBlock, if_true, if_false, Nat.reduceEqDiff, reduceCtorEq]
  refine WpV.seq ?_
  refine WpV.seq (WpV.regionE (by simp only [go_sem, reduceCtorEq, Nat.reduceAdd, Nat.reduceMul, Nat.reduceSub, Nat.reduceLT, Nat.reduceLeDiff, Nat.reduceEqDiff, Nat.reduceBEq, Nat.reducePow]; rfl) (Marks.nil _) ?_)
  simp only [Vthen, VinBlock, if_true, if_false, Nat.reduceEqDiff, reduceCtorEq]
  refine WpV.cond rfl (fun hb => by cases hb) (fun hb => WpV.skip ?_)
  simp only [Vthen, VinBlock, if_true, if_false, Nat.reduceEqDiff, reduceCtorEq]
  refine WpV.seq (WpV.region ?_)
  refine WpOps.take 2 (by simp only [go_sem, reduceCtorEq, Nat.reduceAdd, Nat.reduceMul, Nat.reduceSub, Nat.reduceLT, Nat.reduceLeDiff, Nat.reduceEqDiff, Nat.reduceBEq, Nat.reducePow]; rfl) ?_
  refine WpOps.step (by rfl) (by rfl) ?_
  refine OpW.append (nl := false) (len := 0) (cells := []) (m := xs.length) (ys := xs.map vint) rfl rfl rfl rfl (Tryz.el29 (by omega)) Tryz.underlying29 (by simp) (by simp) (all_one_ints _) hp (fun id hid => ?_)
  refine WpOps.take 1 (by simp only [go_sem, reduceCtorEq, Nat.reduceAdd, Nat.reduceMul, Nat.reduceSub, Nat.reduceLT, Nat.reduceLeDiff, Nat.reduceEqDiff, Nat.reduceBEq, Nat.reducePow]; rfl) (WpOps.nil ⟨Marks.nil _, ?_⟩)
  simp only [Vthen, VinBlock, if_true, if_false, Nat.reduceEqDiff, reduceCtorEq]
  refine WpV.pre (Frz.slice (t := 2) rfl (Hp.set_eq _ _ _)) (Marks.nil _) ?_
  rw [Hp.set_set, Hp.set_same _ _ _ hid]
  refine WpV.ret ⟨Marks.nil _, List.nodup_nil, _, by simp only [Tryz.results95]; simp only [go_sem, reduceCtorEq, Nat.reduceAdd, Nat.reduceMul, Nat.reduceSub, Nat.reduceLT, Nat.reduceLeDiff, Nat.reduceEqDiff, Nat.reduceBEq, Nat.reducePow]; rfl, ?_⟩
  refine ⟨?_, rfl⟩
  simp [List.take_of_length_le]
end Go.Proofs.YtaekibilldjnmaaGreat
