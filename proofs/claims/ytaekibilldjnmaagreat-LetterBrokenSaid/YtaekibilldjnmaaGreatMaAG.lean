/- How wide gaps look; the spread of numbers. 'Need', 'Looks', 'Widest'. Sets of so many numbers of a list. Numbers in order; what is left without some places. The fewest places without which the rest is as wanted. -/
import Derived.Test.YtaekibilldjnmaaGreatMaAF
set_option linter.unusedVariables false
set_option linter.unusedSimpArgs false
set_option linter.unusedSectionVars false
namespace Go.Proofs.YtaekibilldjnmaaGreat
open Go.Proofs

def Cs.looksF (c : Cs) (w gs : List Int) : List Int := List.zipWith (· + ·) (c.mores w) gs
theorem Cs.looks_len {c : Cs} {w gs : List Int} (h : gs.length = w.length - 1) : (c.looksF w gs).length = w.length - 1 := by simp [Cs.looksF, Cs.moreN_len, h]
theorem Cs.looks_at {c : Cs} {w gs : List Int} (h : gs.length = w.length - 1) {k : Nat} (hk : k < w.length - 1) : (c.looksF w gs).getD k 0 = (c.mores w).getD k 0 + gs.getD k 0 := by
  have h1 : k < (c.moreN w (w.length - 1)).length := by rw [Cs.moreN_len]; exact hk
  have h2 : k < (c.looksF w gs).length := by rw [Cs.looks_len h]; exact hk
  have h3 : k < gs.length := by omega
  rw [List.getD_eq_getElem?_getD, List.getD_eq_getElem?_getD, List.getD_eq_getElem?_getD, List.getElem?_eq_getElem h1, List.getElem?_eq_getElem h2, List.getElem?_eq_getElem h3]
  simp [Cs.looksF]

set_option maxHeartbeats 1000000 in
theorem looks_bld (H : Hp) (c : Cs) (hc : c.Fair) (nl clip nl2 clip2 : Bool) (w gs : List Int) (hl : w.length < 1000000) (hp : 0 < w.length) (hw : ∀ x ∈ w, Small x) (hgl : gs.length = w.length - 1) (hgs : ∀ x ∈ gs, 0 ≤ x ∧ x ≤ 400) :
    CallV Tryz.prog 46 [.agg c.box, vints nl clip w, vints nl2 clip2 gs] H (fun r H' => Bld H 3 1 true (w.length - 1) ((c.looksF w gs).map vint) r H') := by
  have hml := Cs.moreN_len c w (w.length - 1)
  have hcl := Cs.looks_len (c := c) hgl
  have hlen : (c.looksF w gs).length = (c.mores w).length := by rw [hcl, hml]
  refine CallV.body Tryz.func46 rfl Tryz.ntmps46 (by rfl) ?_
  refine WpV.seq (WpV.regionE (by simp only [go_sem, reduceCtorEq, Nat.reduceAdd, Nat.reduceMul, Nat.reduceSub, Nat.reduceLT, Nat.reduceLeDiff, Nat.reduceEqDiff, Nat.reduceBEq, Nat.reducePow]; rfl) (Marks.nil _) ?_)
  simp only [Vthen, VinBlock, if_true, if_false, Nat.reduceEqDiff, reduceCtorEq]
  refine WpV.seq (WpV.region ?_)
  refine WpOps.take 2 (by simp only [go_sem, reduceCtorEq, Nat.reduceAdd, Nat.reduceMul, Nat.reduceSub, Nat.reduceLT, Nat.reduceLeDiff, Nat.reduceEqDiff, Nat.reduceBEq, Nat.reducePow]; rfl) ?_
  refine WpOps.step (by rfl) (by rfl) (OpW.callY rfl (by rfl) (by rfl) (by rfl) (enters_of Tryz.func67 (by kernel_rfl) rfl) ((mores_bld H c hc nl clip w hl hp hw).mono ?_))
  rintro v H1 ⟨hxl, ⟨h0, he, rfl, rfl⟩ | ⟨hpos, id, ver, hid, rfl, rfl⟩⟩
  · refine WpOps.take 1 (by simp only [go_sem, reduceCtorEq, Nat.reduceAdd, Nat.reduceMul, Nat.reduceSub, Nat.reduceLT, Nat.reduceLeDiff, Nat.reduceEqDiff, Nat.reduceBEq, Nat.reducePow]; rfl) (WpOps.nil ⟨Marks.nil _, ?_⟩)
    simp only [Vthen, VinBlock, if_true, if_false, Nat.reduceEqDiff, reduceCtorEq]
    have hg0 : gs = [] := by rw [← List.length_eq_zero_iff]; omega
    subst hg0
    refine WpV.seq ?_
    refine WpV.seq (WpV.regionE (by simp only [go_sem, reduceCtorEq, Nat.reduceAdd, Nat.reduceMul, Nat.reduceSub, Nat.reduceLT, Nat.reduceLeDiff, Nat.reduceEqDiff, Nat.reduceBEq, Nat.reducePow]; rfl) (Marks.nil _) ?_)
    simp only [Vthen, VinBlock, if_true, if_false, Nat.reduceEqDiff, reduceCtorEq]
    refine WpV.block (WpV.loopN 0 (fun k => [(7, .sl true true 0 []), (14, vint 0), (15, vint 0)]) (fun _ => H1) ?_ rfl ?_)
    · exact .cons rfl rfl (.cons rfl rfl (.cons rfl rfl (.nil _)))
    · intro k hk
      refine WpV.seq (WpV.regionE (by simp only [go_sem, reduceCtorEq, Nat.reduceAdd, Nat.reduceMul, Nat.reduceSub, Nat.reduceLT, Nat.reduceLeDiff, Nat.reduceEqDiff, Nat.reduceBEq, Nat.reducePow, Int.lt_irrefl]; rfl) (Marks.nil _) ?_)
      simp only [Vthen, VinBlock, if_true, if_false, Nat.reduceEqDiff, reduceCtorEq]
      refine WpV.seq (WpV.cond rfl (fun hb => by cases hb) (fun hb => WpV.exit ?_))
      simp only [Vthen, VinBlock, if_true, if_false, Nat.reduceEqDiff, reduceCtorEq]
      refine WpV.seq (WpV.regionE (by simp only [go_sem, reduceCtorEq, Nat.reduceAdd, Nat.reduceMul, Nat.reduceSub, Nat.reduceLT, Nat.reduceLeDiff, Nat.reduceEqDiff, Nat.reduceBEq, Nat.reducePow]; rfl) (Marks.nil _) ?_)
      simp only [Vthen, VinBlock, if_true, if_false, Nat.reduceEqDiff, reduceCtorEq]
      refine WpV.ret ⟨Marks.nil _, List.nodup_nil, _, by simp only [Tryz.results46]; simp only [go_sem, reduceCtorEq, Nat.reduceAdd, Nat.reduceMul, Nat.reduceSub, Nat.reduceLT, Nat.reduceLeDiff, Nat.reduceEqDiff, Nat.reduceBEq, Nat.reducePow]; rfl, ?_⟩
      exact ⟨by rw [List.length_map, hcl]; omega, .inl ⟨h0, by rw [List.map_eq_nil_iff, ← List.length_eq_zero_iff, hcl, h0], rfl, rfl⟩⟩
  · refine WpOps.take 1 (by simp only [go_sem, reduceCtorEq, Nat.reduceAdd, Nat.reduceMul, Nat.reduceSub, Nat.reduceLT, Nat.reduceLeDiff, Nat.reduceEqDiff, Nat.reduceBEq, Nat.reducePow]; rfl) (WpOps.nil ⟨Marks.nil _, ?_⟩)
    simp only [Vthen, VinBlock, if_true, if_false, Nat.reduceEqDiff, reduceCtorEq]
    generalize hn : w.length - 1 = n at *
    refine WpV.seq ?_
    refine WpV.seq (WpV.regionE (by simp only [go_sem, reduceCtorEq, Nat.reduceAdd, Nat.reduceMul, Nat.reduceSub, Nat.reduceLT, Nat.reduceLeDiff, Nat.reduceEqDiff, Nat.reduceBEq, Nat.reducePow]; rfl) (Marks.nil _) ?_)
    simp only [Vthen, VinBlock, if_true, if_false, Nat.reduceEqDiff, reduceCtorEq]
    refine WpV.block (WpV.loopN n (fun k => [(7, .rs id ver 1 0 n false), (13, vints nl2 clip2 gs), (14, vint n), (15, vint k)]) (fun k => H.set id (some (.cells 3 ver ((mixL (c.looksF w gs) (c.mores w) k).map vint)))) ?_ ?_ ?_)
    · exact .cons rfl rfl (.cons rfl rfl (.cons rfl (by rw [hgl]) (.cons rfl rfl (.nil _))))
    · simp only [mixL_zero, hn]
    · intro k hk
      refine WpV.seq (WpV.regionE (by simp only [go_sem, reduceCtorEq, Nat.reduceAdd, Nat.reduceMul, Nat.reduceSub, Nat.reduceLT, Nat.reduceLeDiff, Nat.reduceEqDiff, Nat.reduceBEq, Nat.reducePow]; rfl) (Marks.nil _) ?_)
      simp only [Vthen, VinBlock, if_true, if_false, Nat.reduceEqDiff, reduceCtorEq]
      refine WpV.seq (WpV.cond rfl (fun hb => WpV.skip ?_) (fun hb => WpV.exit ?_))
      · have hlt : (k : Int) < (n : Int) := of_decide_eq_true ‹_›
        have hlt' : k < n := by omega
        have hltg : k < gs.length := by omega
        have hltG : (k : Int) < (gs.length : Int) := by omega
        have hkc : k < (c.looksF w gs).length := by omega
        have hgk := mixL_get hlen hkc
        have hset := mixL_set hlen hkc
        have hca := Cs.looks_at (c := c) (w := w) (gs := gs) (by omega) (k := k) (by omega)
        have hlm := mixL_len hlen (Nat.le_of_lt hkc)
        have hgg := ints_get gs hltg
        have hgd : gs.getD k 0 = gs[k] := by simp [List.getD_eq_getElem?_getD, hltg]
        have hgb := hgs gs[k] (List.getElem_mem _)
        have hmk : -5 ≤ (c.mores w).getD k 0 ∧ (c.mores w).getD k 0 ≤ 5 := Cs.mores_le hc w _ _ (by rw [List.getD_eq_getElem?_getD, List.getElem?_eq_getElem (show k < (c.mores w).length by omega)]; exact List.getElem_mem _)
        generalize (c.mores w).getD k 0 = mk at hgk hca hmk
        rw [hca, hgd] at hset
        simp only [Vthen, VinBlock, if_true, if_false, Nat.reduceEqDiff, reduceCtorEq]
        refine WpV.seq (WpV.block ?_)
        refine WpV.seq (WpV.regionE (by simp only [go_sem, reduceCtorEq, Nat.reduceAdd, Nat.reduceMul, Nat.reduceSub, Nat.reduceLT, Nat.reduceLeDiff, Nat.reduceEqDiff, Nat.reduceBEq, Nat.reducePow, hltG, hgg]; rfl) (Marks.nil _) ?_)
        simp only [Vthen, VinBlock, if_true, if_false, Nat.reduceEqDiff, reduceCtorEq]
        refine WpV.region ?_
        refine WpOps.take 7 (by simp only [go_sem, reduceCtorEq, Nat.reduceAdd, Nat.reduceMul, Nat.reduceSub, Nat.reduceLT, Nat.reduceLeDiff, Nat.reduceEqDiff, Nat.reduceBEq, Nat.reducePow, hlt, hgk]; rfl) ?_
        refine WpOps.step (by rfl) (by rfl) (OpW.store (ty := 3) (cs := (mixL (c.looksF w gs) (c.mores w) k).map vint) rfl (by simp only [go_sem, reduceCtorEq, Nat.reduceAdd, Nat.reduceMul, Nat.reduceSub, Nat.reduceLT, Nat.reduceLeDiff, Nat.reduceEqDiff, Nat.reduceBEq, Nat.reducePow]; try rfl) (by simp only [go_sem, reduceCtorEq, Nat.reduceAdd, Nat.reduceMul, Nat.reduceSub, Nat.reduceLT, Nat.reduceLeDiff, Nat.reduceEqDiff, Nat.reduceBEq, Nat.reducePow]; try rfl) (Hp.set_eq _ _ _) (by simp only [go_sem, reduceCtorEq, Nat.reduceAdd, Nat.reduceMul, Nat.reduceSub, Nat.reduceLT, Nat.reduceLeDiff, Nat.reduceEqDiff, Nat.reduceBEq, Nat.reducePow]; try rfl) (by exact Tryz.sz3) (by simp; omega) ?_)
        refine WpOps.nil ⟨Marks.nil _, ?_⟩
        rw [Hp.set_set]
        simp only [Vthen, VinBlock, if_true, if_false, Nat.reduceEqDiff, reduceCtorEq]
        refine WpV.regionE (by simp only [go_sem, reduceCtorEq, Nat.reduceAdd, Nat.reduceMul, Nat.reduceSub, Nat.reduceLT, Nat.reduceLeDiff, Nat.reduceEqDiff, Nat.reduceBEq, Nat.reducePow]; rfl) (Marks.nil _) ?_
        simp only [Vthen, VinBlock, if_true, if_false, Nat.reduceEqDiff, reduceCtorEq]
        refine ⟨by first | rfl | trivial, hlt', .cons rfl rfl (.cons rfl rfl (.cons rfl rfl (.cons rfl ?_ (.nil _)))), ?_⟩
        · rw [wrap64 (by omega)]; rfl
        · rw [← hset, wrap64 (by omega)]
      · have hge : k = n := by have := of_decide_eq_false ‹_›; omega
        subst hge
        simp only [Vthen, VinBlock, if_true, if_false, Nat.reduceEqDiff, reduceCtorEq]
        refine WpV.seq (WpV.regionE (by simp only [go_sem, reduceCtorEq, Nat.reduceAdd, Nat.reduceMul, Nat.reduceSub, Nat.reduceLT, Nat.reduceLeDiff, Nat.reduceEqDiff, Nat.reduceBEq, Nat.reducePow]; rfl) (Marks.nil _) ?_)
        simp only [Vthen, VinBlock, if_true, if_false, Nat.reduceEqDiff, reduceCtorEq]
        refine WpV.ret ⟨Marks.nil _, List.nodup_nil, _, by simp only [Tryz.results46]; simp only [go_sem, reduceCtorEq, Nat.reduceAdd, Nat.reduceMul, Nat.reduceSub, Nat.reduceLT, Nat.reduceLeDiff, Nat.reduceEqDiff, Nat.reduceBEq, Nat.reducePow]; rfl, ?_⟩
        refine ⟨by rw [List.length_map]; omega, .inr ⟨hpos, id, ver, hid, rfl, ?_⟩⟩
        have := mixL_all hlen
        rw [hcl] at this
        simp only [killA, this]

/-! ### The greatest and the least number -/
def maxL (xs : List Int) (k : Nat) : Int := ((xs.take k).drop 1).foldl (fun a b => if b > a then b else a) (xs.getD 0 0)
def minL (xs : List Int) (k : Nat) : Int := ((xs.take k).drop 1).foldl (fun a b => if b < a then b else a) (xs.getD 0 0)
theorem fold_succ (f : Int → Int → Int) (xs : List Int) {k : Nat} (h1 : 1 ≤ k) (hk : k < xs.length) : ((xs.take (k + 1)).drop 1).foldl f (xs.getD 0 0) = f (((xs.take k).drop 1).foldl f (xs.getD 0 0)) xs[k] := by
  rw [List.take_add_one, List.getElem?_eq_getElem hk, List.drop_append_of_le_length (by simp; omega), List.foldl_append]; rfl
theorem fold_one (f : Int → Int → Int) (xs : List Int) : ((xs.take 1).drop 1).foldl f (xs.getD 0 0) = xs.getD 0 0 := by
  cases xs <;> rfl

theorem max_any (H : Hp) (nl clip : Bool) (xs : List Int) (hl : xs.length < 1000000) (hp : 0 < xs.length) : CallV Tryz.prog 68 [vints nl clip xs] H (fun r H' => r = vint (maxL xs xs.length) ∧ H' = H) := by
  have hn1 : ¬ ((xs.length : Int) < 1) := by omega
  have hg0 := ints_get xs hp
  have hgd : xs[0] = xs.getD 0 0 := by simp [List.getD_eq_getElem?_getD, hp]
  have hp' : (0 : Int) < (xs.length : Int) := by omega
  refine CallV.body Tryz.func68 rfl Tryz.ntmps68 (by rfl) ?_
  refine WpV.seq (WpV.regionE (by simp only [go_sem, reduceCtorEq, Nat.reduceAdd, Nat.reduceMul, Nat.reduceSub, Nat.reduceLT, Nat.reduceLeDiff, Nat.reduceEqDiff, Nat.reduceBEq, Nat.reducePow]; rfl) (Marks.nil _) ?_)
  simp only [Vthen, VinBlock, if_true, if_false, Nat.reduceEqDiff, reduceCtorEq]
  refine WpV.seq ?_
  refine WpV.seq (WpV.regionE (by simp only [go_sem, reduceCtorEq, Nat.reduceAdd, Nat.reduceMul, Nat.reduceSub, Nat.reduceLT, Nat.reduceLeDiff, Nat.reduceEqDiff, Nat.reduceBEq, Nat.reducePow, hn1]; rfl) (Marks.nil _) ?_)
  simp only [Vthen, VinBlock, if_true, if_false, Nat.reduceEqDiff, reduceCtorEq]
  refine WpV.cond rfl (fun hb => by cases hb) (fun hb => WpV.skip ?_)
  simp only [Vthen, VinBlock, if_true, if_false, Nat.reduceEqDiff, reduceCtorEq]
  refine WpV.seq (WpV.regionE (by simp only [go_sem, reduceCtorEq, Nat.reduceAdd, Nat.reduceMul, Nat.reduceSub, Nat.reduceLT, Nat.reduceLeDiff, Nat.reduceEqDiff, Nat.reduceBEq, Nat.reducePow, hp', hg0, Int.toNat_zero, Int.le_refl]; rfl) (Marks.nil _) ?_)
  simp only [Vthen, VinBlock, if_true, if_false, Nat.reduceEqDiff, reduceCtorEq]
  refine WpV.seq ?_
  refine WpV.seq (WpV.regionE (by simp only [go_sem, reduceCtorEq, Nat.reduceAdd, Nat.reduceMul, Nat.reduceSub, Nat.reduceLT, Nat.reduceLeDiff, Nat.reduceEqDiff, Nat.reduceBEq, Nat.reducePow]; rfl) (Marks.nil _) ?_)
  simp only [Vthen, VinBlock, if_true, if_false, Nat.reduceEqDiff, reduceCtorEq]
  refine WpV.block (WpV.loopN (xs.length - 1) (fun k => [(0, vints nl clip xs), (3, vint (maxL xs (k + 1))), (4, vint ((k + 1 : Nat) : Int))]) (fun _ => H) ?_ rfl ?_)
  · exact .cons rfl rfl (.cons rfl (by unfold maxL; rw [fold_one, hgd]) (.cons rfl rfl (.nil _)))
  · intro k hk
    refine WpV.seq ?_
    refine WpV.seq (WpV.regionE (by simp only [go_sem, reduceCtorEq, Nat.reduceAdd, Nat.reduceMul, Nat.reduceSub, Nat.reduceLT, Nat.reduceLeDiff, Nat.reduceEqDiff, Nat.reduceBEq, Nat.reducePow]; rfl) (Marks.nil _) ?_)
    simp only [Vthen, VinBlock, if_true, if_false, Nat.reduceEqDiff, reduceCtorEq]
    refine WpV.cond rfl (fun hb => WpV.skip ?_) (fun hb => WpV.exit ?_)
    · have hlt : ((k + 1 : Nat) : Int) < (xs.length : Int) := of_decide_eq_true ‹_›
      have hlt' : k + 1 < xs.length := by omega
      have hgk := ints_get xs hlt'
      have h0 : (0 : Int) ≤ ((k + 1 : Nat) : Int) := by omega
      have hto : (((k + 1 : Nat) : Int)).toNat = k + 1 := Int.toNat_natCast _
      simp only [Vthen, VinBlock, if_true, if_false, Nat.reduceEqDiff, reduceCtorEq]
      refine WpV.seq (WpV.block ?_)
      refine WpV.regionE (by simp only [go_sem, reduceCtorEq, Nat.reduceAdd, Nat.reduceMul, Nat.reduceSub, Nat.reduceLT, Nat.reduceLeDiff, Nat.reduceEqDiff, Nat.reduceBEq, Nat.reducePow, hlt, hgk, h0, hto]; rfl) (Marks.nil _) ?_
      simp only [Vthen, VinBlock, if_true, if_false, Nat.reduceEqDiff, reduceCtorEq]
      refine WpV.regionE (by simp only [go_sem, reduceCtorEq, Nat.reduceAdd, Nat.reduceMul, Nat.reduceSub, Nat.reduceLT, Nat.reduceLeDiff, Nat.reduceEqDiff, Nat.reduceBEq, Nat.reducePow]; rfl) (Marks.nil _) ?_
      simp only [Vthen, VinBlock, if_true, if_false, Nat.reduceEqDiff, reduceCtorEq]
      refine ⟨by first | rfl | trivial, by omega, .cons rfl rfl (.cons rfl ?_ (.cons rfl ?_ (.nil _))), by first | rfl | trivial⟩
      · unfold maxL
        rw [fold_succ _ _ (by omega) hlt']
      · rw [wrap64 (by omega)]; first | rfl | (congr 1; omega)
    · have hge : k + 1 = xs.length := by have := of_decide_eq_false ‹_›; omega
      simp only [Vthen, VinBlock, if_true, if_false, Nat.reduceEqDiff, reduceCtorEq]
      refine WpV.seq (WpV.regionE (by simp only [go_sem, reduceCtorEq, Nat.reduceAdd, Nat.reduceMul, Nat.reduceSub, Nat.reduceLT, Nat.reduceLeDiff, Nat.reduceEqDiff, Nat.reduceBEq, Nat.reducePow]; rfl) (Marks.nil _) ?_)
      simp only [Vthen, VinBlock, if_true, if_false, Nat.reduceEqDiff, reduceCtorEq]
      refine WpV.ret ⟨Marks.nil _, List.nodup_nil, _, by simp only [Tryz.results68]; simp only [go_sem, reduceCtorEq, Nat.reduceAdd, Nat.reduceMul, Nat.reduceSub, Nat.reduceLT, Nat.reduceLeDiff, Nat.reduceEqDiff, Nat.reduceBEq, Nat.reducePow]; rfl, ?_⟩
      exact ⟨by rw [hge], rfl⟩
theorem min_any (H : Hp) (nl clip : Bool) (xs : List Int) (hl : xs.length < 1000000) (hp : 0 < xs.length) : CallV Tryz.prog 69 [vints nl clip xs] H (fun r H' => r = vint (minL xs xs.length) ∧ H' = H) := by
  have hn1 : ¬ ((xs.length : Int) < 1) := by omega
  have hg0 := ints_get xs hp
  have hgd : xs[0] = xs.getD 0 0 := by simp [List.getD_eq_getElem?_getD, hp]
  have hp' : (0 : Int) < (xs.length : Int) := by omega
  refine CallV.body Tryz.func69 rfl Tryz.ntmps69 (by rfl) ?_
  refine WpV.seq (WpV.regionE (by simp only [go_sem, reduceCtorEq, Nat.reduceAdd, Nat.reduceMul, Nat.reduceSub, Nat.reduceLT, Nat.reduceLeDiff, Nat.reduceEqDiff, Nat.reduceBEq, Nat.reducePow]; rfl) (Marks.nil _) ?_)
  simp only [Vthen, VinBlock, if_true, if_false, Nat.reduceEqDiff, reduceCtorEq]
  refine WpV.seq ?_
  refine WpV.seq (WpV.regionE (by simp only [go_sem, reduceCtorEq, Nat.reduceAdd, Nat.reduceMul, Nat.reduceSub, Nat.reduceLT, Nat.reduceLeDiff, Nat.reduceEqDiff, Nat.reduceBEq, Nat.reducePow, hn1]; rfl) (Marks.nil _) ?_)
  simp only [Vthen, VinBlock, if_true, if_false, Nat.reduceEqDiff, reduceCtorEq]
  refine WpV.cond rfl (fun hb => by cases hb) (fun hb => WpV.skip ?_)
  simp only [Vthen, VinBlock, if_true, if_false, Nat.reduceEqDiff, reduceCtorEq]
  refine WpV.seq (WpV.regionE (by simp only [go_sem, reduceCtorEq, Nat.reduceAdd, Nat.reduceMul, Nat.reduceSub, Nat.reduceLT, Nat.reduceLeDiff, Nat.reduceEqDiff, Nat.reduceBEq, Nat.reducePow, hp', hg0, Int.toNat_zero, Int.le_refl]; rfl) (Marks.nil _) ?_)
  simp only [Vthen, VinBlock, if_true, if_false, Nat.reduceEqDiff, reduceCtorEq]
  refine WpV.seq ?_
  refine WpV.seq (WpV.regionE (by simp only [go_sem, reduceCtorEq, Nat.reduceAdd, Nat.reduceMul, Nat.reduceSub, Nat.reduceLT, Nat.reduceLeDiff, Nat.reduceEqDiff, Nat.reduceBEq, Nat.reducePow]; rfl) (Marks.nil _) ?_)
  simp only [Vthen, VinBlock, if_true, if_false, Nat.reduceEqDiff, reduceCtorEq]
  refine WpV.block (WpV.loopN (xs.length - 1) (fun k => [(0, vints nl clip xs), (3, vint (minL xs (k + 1))), (4, vint ((k + 1 : Nat) : Int))]) (fun _ => H) ?_ rfl ?_)
  · exact .cons rfl rfl (.cons rfl (by unfold minL; rw [fold_one, hgd]) (.cons rfl rfl (.nil _)))
  · intro k hk
    refine WpV.seq ?_
    refine WpV.seq (WpV.regionE (by simp only [go_sem, reduceCtorEq, Nat.reduceAdd, Nat.reduceMul, Nat.reduceSub, Nat.reduceLT, Nat.reduceLeDiff, Nat.reduceEqDiff, Nat.reduceBEq, Nat.reducePow]; rfl) (Marks.nil _) ?_)
    simp only [Vthen, VinBlock, if_true, if_false, Nat.reduceEqDiff, reduceCtorEq]
    refine WpV.cond rfl (fun hb => WpV.skip ?_) (fun hb => WpV.exit ?_)
    · have hlt : ((k + 1 : Nat) : Int) < (xs.length : Int) := of_decide_eq_true ‹_›
      have hlt' : k + 1 < xs.length := by omega
      have hgk := ints_get xs hlt'
      have h0 : (0 : Int) ≤ ((k + 1 : Nat) : Int) := by omega
      have hto : (((k + 1 : Nat) : Int)).toNat = k + 1 := Int.toNat_natCast _
      simp only [Vthen, VinBlock, if_true, if_false, Nat.reduceEqDiff, reduceCtorEq]
      refine WpV.seq (WpV.block ?_)
      refine WpV.regionE (by simp only [go_sem, reduceCtorEq, Nat.reduceAdd, Nat.reduceMul, Nat.reduceSub, Nat.reduceLT, Nat.reduceLeDiff, Nat.reduceEqDiff, Nat.reduceBEq, Nat.reducePow, hlt, hgk, h0, hto]; rfl) (Marks.nil _) ?_
      simp only [Vthen, VinBlock, if_true, if_false, Nat.reduceEqDiff, reduceCtorEq]
      refine WpV.regionE (by simp only [go_sem, reduceCtorEq, Nat.reduceAdd, Nat.reduceMul, Nat.reduceSub, Nat.reduceLT, Nat.reduceLeDiff, Nat.reduceEqDiff, Nat.reduceBEq, Nat.reducePow]; rfl) (Marks.nil _) ?_
      simp only [Vthen, VinBlock, if_true, if_false, Nat.reduceEqDiff, reduceCtorEq]
      refine ⟨by first | rfl | trivial, by omega, .cons rfl rfl (.cons rfl ?_ (.cons rfl ?_ (.nil _))), by first | rfl | trivial⟩
      · unfold minL
        rw [fold_succ _ _ (by omega) hlt']
      · rw [wrap64 (by omega)]; first | rfl | (congr 1; omega)
    · have hge : k + 1 = xs.length := by have := of_decide_eq_false ‹_›; omega
      simp only [Vthen, VinBlock, if_true, if_false, Nat.reduceEqDiff, reduceCtorEq]
      refine WpV.seq (WpV.regionE (by simp only [go_sem, reduceCtorEq, Nat.reduceAdd, Nat.reduceMul, Nat.reduceSub, Nat.reduceLT, Nat.reduceLeDiff, Nat.reduceEqDiff, Nat.reduceBEq, Nat.reducePow]; rfl) (Marks.nil _) ?_)
      simp only [Vthen, VinBlock, if_true, if_false, Nat.reduceEqDiff, reduceCtorEq]
      refine WpV.ret ⟨Marks.nil _, List.nodup_nil, _, by simp only [Tryz.results69]; simp only [go_sem, reduceCtorEq, Nat.reduceAdd, Nat.reduceMul, Nat.reduceSub, Nat.reduceLT, Nat.reduceLeDiff, Nat.reduceEqDiff, Nat.reduceBEq, Nat.reducePow]; rfl, ?_⟩
      exact ⟨by rw [hge], rfl⟩
end Go.Proofs.YtaekibilldjnmaaGreat
namespace Go.Proofs.YtaekibilldjnmaaGreat
open Go.Proofs

def spreadF (xs : List Int) : Int := if xs.length = 0 then 0 else maxL xs xs.length - minL xs xs.length
theorem fold_in (f : Int → Int → Int) (hf : ∀ a b, f a b = a ∨ f a b = b) {lo hi : Int} : ∀ (ys : List Int) (a : Int), (lo ≤ a ∧ a ≤ hi) → (∀ y ∈ ys, lo ≤ y ∧ y ≤ hi) → lo ≤ ys.foldl f a ∧ ys.foldl f a ≤ hi
  | [], a, ha, _ => ha
  | y :: ys, a, ha, h => by
    rw [List.foldl_cons]
    refine fold_in f hf ys _ ?_ (fun z hz => h z (by simp [hz]))
    rcases hf a y with e | e <;> rw [e]
    · exact ha
    · exact h y (by simp)
theorem maxL_in {xs : List Int} {lo hi : Int} (h : ∀ x ∈ xs, lo ≤ x ∧ x ≤ hi) (hp : 0 < xs.length) (k : Nat) : lo ≤ maxL xs k ∧ maxL xs k ≤ hi := by
  refine fold_in _ (fun a b => by by_cases e : b > a <;> simp [e]) _ _ ?_ (fun y hy => h y (List.mem_of_mem_take (List.mem_of_mem_drop hy)))
  rw [List.getD_eq_getElem?_getD, List.getElem?_eq_getElem hp]
  exact h _ (List.getElem_mem _)
theorem minL_in {xs : List Int} {lo hi : Int} (h : ∀ x ∈ xs, lo ≤ x ∧ x ≤ hi) (hp : 0 < xs.length) (k : Nat) : lo ≤ minL xs k ∧ minL xs k ≤ hi := by
  refine fold_in _ (fun a b => by by_cases e : b < a <;> simp [e]) _ _ ?_ (fun y hy => h y (List.mem_of_mem_take (List.mem_of_mem_drop hy)))
  rw [List.getD_eq_getElem?_getD, List.getElem?_eq_getElem hp]
  exact h _ (List.getElem_mem _)

theorem spread_any (H : Hp) (nl clip : Bool) (xs : List Int) (hx : Tame xs) : CallV Tryz.prog 47 [vints nl clip xs] H (fun r H' => r = vint (spreadF xs) ∧ H' = H) := by
  have hl := hx.1
  refine CallV.body Tryz.func47 rfl Tryz.ntmps47 (by rfl) ?_
  refine WpV.seq (WpV.regionE (by simp only [go_sem, reduceCtorEq, Nat.reduceAdd, Nat.reduceMul, Nat.reduceSub, Nat.reduceLT, Nat.reduceLeDiff, Nat.reduceEqDiff, Nat.reduceBEq, Nat.reducePow]; rfl) (Marks.nil _) ?_)
  simp only [Vthen, VinBlock, if_true, if_false, Nat.reduceEqDiff, reduceCtorEq]
  refine WpV.seq ?_
  by_cases h0 : xs.length = 0
  · have e0 : ((xs.length : Int) == 0) = true := by rw [h0]; rfl
    refine WpV.seq (WpV.regionE (by simp only [go_sem, reduceCtorEq, Nat.reduceAdd, Nat.reduceMul, Nat.reduceSub, Nat.reduceLT, Nat.reduceLeDiff, Nat.reduceEqDiff, Nat.reduceBEq, Nat.reducePow, e0]; rfl) (Marks.nil _) ?_)
    simp only [Vthen, VinBlock, if_true, if_false, Nat.reduceEqDiff, reduceCtorEq]
    refine WpV.cond rfl (fun hb => ?_) (fun hb => by cases hb)
    refine WpV.seq (WpV.regionE (by simp only [go_sem, reduceCtorEq, Nat.reduceAdd, Nat.reduceMul, Nat.reduceSub, Nat.reduceLT, Nat.reduceLeDiff, Nat.reduceEqDiff, Nat.reduceBEq, Nat.reducePow]; rfl) (Marks.nil _) ?_)
    simp only [Vthen, VinBlock, if_true, if_false, Nat.reduceEqDiff, reduceCtorEq]
    refine WpV.ret ⟨Marks.nil _, List.nodup_nil, _, by simp only [Tryz.results47]; simp only [go_sem, reduceCtorEq, Nat.reduceAdd, Nat.reduceMul, Nat.reduceSub, Nat.reduceLT, Nat.reduceLeDiff, Nat.reduceEqDiff, Nat.reduceBEq, Nat.reducePow]; rfl, ?_⟩
    exact ⟨by simp [spreadF, h0], rfl⟩
  · have e0 : ((xs.length : Int) == 0) = false := by simp; intro e; exact h0 (by rw [e]; rfl)
    refine WpV.seq (WpV.regionE (by simp only [go_sem, reduceCtorEq, Nat.reduceAdd, Nat.reduceMul, Nat.reduceSub, Nat.reduceLT, Nat.reduceLeDiff, Nat.reduceEqDiff, Nat.reduceBEq, Nat.reducePow, e0]; rfl) (Marks.nil _) ?_)
    simp only [Vthen, VinBlock, if_true, if_false, Nat.reduceEqDiff, reduceCtorEq]
    refine WpV.cond rfl (fun hb => by cases hb) (fun hb => WpV.skip ?_)
    simp only [Vthen, VinBlock, if_true, if_false, Nat.reduceEqDiff, reduceCtorEq]
    refine WpV.seq (WpV.region ?_)
    refine WpOps.take 1 (by simp only [go_sem, reduceCtorEq, Nat.reduceAdd, Nat.reduceMul, Nat.reduceSub, Nat.reduceLT, Nat.reduceLeDiff, Nat.reduceEqDiff, Nat.reduceBEq, Nat.reducePow]; rfl) ?_
    refine WpOps.step (by rfl) (by rfl) (OpW.callY rfl (by rfl) (by rfl) (by rfl) (enters_of Tryz.func68 (by kernel_rfl) rfl) ((max_any H nl clip xs hl (by omega)).mono ?_))
    rintro _ _ ⟨rfl, hH⟩
    replace hH := hH.symm
    subst hH
    refine WpOps.take 1 (by simp only [go_sem, reduceCtorEq, Nat.reduceAdd, Nat.reduceMul, Nat.reduceSub, Nat.reduceLT, Nat.reduceLeDiff, Nat.reduceEqDiff, Nat.reduceBEq, Nat.reducePow]; rfl) ?_
    refine WpOps.step (by rfl) (by rfl) (OpW.callY rfl (by rfl) (by rfl) (by rfl) (enters_of Tryz.func69 (by kernel_rfl) rfl) ((min_any H nl clip xs hl (by omega)).mono ?_))
    rintro _ _ ⟨rfl, hH⟩
    replace hH := hH.symm
    subst hH
    refine WpOps.take 2 (by simp only [go_sem, reduceCtorEq, Nat.reduceAdd, Nat.reduceMul, Nat.reduceSub, Nat.reduceLT, Nat.reduceLeDiff, Nat.reduceEqDiff, Nat.reduceBEq, Nat.reducePow]; rfl) (WpOps.nil ⟨Marks.nil _, ?_⟩)
    simp only [Vthen, VinBlock, if_true, if_false, Nat.reduceEqDiff, reduceCtorEq]
    refine WpV.ret ⟨Marks.nil _, List.nodup_nil, _, by simp only [Tryz.results47]; simp only [go_sem, reduceCtorEq, Nat.reduceAdd, Nat.reduceMul, Nat.reduceSub, Nat.reduceLT, Nat.reduceLeDiff, Nat.reduceEqDiff, Nat.reduceBEq, Nat.reducePow]; rfl, ?_⟩
    refine ⟨?_, rfl⟩
    have h1 := maxL_in hx.2 (by omega) xs.length
    have h2 := minL_in hx.2 (by omega) xs.length
    unfold spreadF
    rw [if_neg h0, wrap64 (by omega)]

theorem checkGaps_ok (H : Hp) (c : Cs) (hc : c.Valid) (nl clip nl2 clip2 : Bool) (w gs : List Int) (hw : c.word w = true) (hg : gapsB w gs = true) (hl2 : gs.length < 1000000) : CallV Tryz.prog 45 [.agg c.cells, vints nl clip w, vints nl2 clip2 gs] H (fun r H' => r = vint 0 ∧ H' = H) := by
  have hl : w.length < 1000000 := by have := (Cs.word_iff.1 hw).2.1; omega
  have h1 := gaps_any H nl clip w nl2 clip2 gs hl hl2
  rw [show (((gs.length : Int) == w.length - 1) && insB 0 400 gs) = true from hg] at h1
  refine CallV.body Tryz.func45 rfl Tryz.ntmps45 (by rfl) ?_
  refine WpV.seq (WpV.regionE (by simp only [go_sem, reduceCtorEq, Nat.reduceAdd, Nat.reduceMul, Nat.reduceSub, Nat.reduceLT, Nat.reduceLeDiff, Nat.reduceEqDiff, Nat.reduceBEq, Nat.reducePow]; rfl) (Marks.nil _) ?_)
  simp only [Vthen, VinBlock, if_true, if_false, Nat.reduceEqDiff, reduceCtorEq]
  refine WpV.seq ?_
  refine WpV.seq (WpV.region ?_)
  refine WpOps.take 2 (by simp only [go_sem, reduceCtorEq, Nat.reduceAdd, Nat.reduceMul, Nat.reduceSub, Nat.reduceLT, Nat.reduceLeDiff, Nat.reduceEqDiff, Nat.reduceBEq, Nat.reducePow]; rfl) ?_
  refine WpOps.step (by rfl) (by rfl) (OpW.callY rfl (by rfl) (by rfl) (by rfl) (enters_of Tryz.func34 (by kernel_rfl) rfl) ((checkWord_ok H c hc nl clip w hl hw).mono ?_))
  rintro _ _ ⟨rfl, hH⟩
  replace hH := hH.symm
  subst hH
  refine WpOps.take 1 (by simp only [go_sem, reduceCtorEq, Nat.reduceAdd, Nat.reduceMul, Nat.reduceSub, Nat.reduceLT, Nat.reduceLeDiff, Nat.reduceEqDiff, Nat.reduceBEq, Nat.reducePow]; rfl) (WpOps.nil ⟨Marks.nil _, ?_⟩)
  simp only [Vthen, VinBlock, if_true, if_false, Nat.reduceEqDiff, reduceCtorEq]
  refine WpV.seq (WpV.regionE (by simp only [go_sem, reduceCtorEq, Nat.reduceAdd, Nat.reduceMul, Nat.reduceSub, Nat.reduceLT, Nat.reduceLeDiff, Nat.reduceEqDiff, Nat.reduceBEq, Nat.reducePow]; rfl) (Marks.nil _) ?_)
  simp only [Vthen, VinBlock, if_true, if_false, Nat.reduceEqDiff, reduceCtorEq]
  refine WpV.cond rfl (fun hb => by cases hb) (fun hb => WpV.skip ?_)
  simp only [Vthen, VinBlock, if_true, if_false, Nat.reduceEqDiff, reduceCtorEq]
  refine WpV.seq ?_
  refine WpV.seq (WpV.region ?_)
  refine WpOps.take 2 (by simp only [go_sem, reduceCtorEq, Nat.reduceAdd, Nat.reduceMul, Nat.reduceSub, Nat.reduceLT, Nat.reduceLeDiff, Nat.reduceEqDiff, Nat.reduceBEq, Nat.reducePow]; rfl) ?_
  refine WpOps.step (by rfl) (by rfl) (OpW.callY rfl (by rfl) (by rfl) (by rfl) (enters_of Tryz.func66 (by kernel_rfl) rfl) ((h1).mono ?_))
  rintro _ _ ⟨rfl, hH⟩
  replace hH := hH.symm
  subst hH
  refine WpOps.take 1 (by simp only [go_sem, reduceCtorEq, Nat.reduceAdd, Nat.reduceMul, Nat.reduceSub, Nat.reduceLT, Nat.reduceLeDiff, Nat.reduceEqDiff, Nat.reduceBEq, Nat.reducePow]; rfl) (WpOps.nil ⟨Marks.nil _, ?_⟩)
  simp only [Vthen, VinBlock, if_true, if_false, Nat.reduceEqDiff, reduceCtorEq]
  refine WpV.cond rfl (fun hb => by cases hb) (fun hb => WpV.skip ?_)
  simp only [Vthen, VinBlock, if_true, if_false, Nat.reduceEqDiff, reduceCtorEq]
  refine WpV.seq (WpV.regionE (by simp only [go_sem, reduceCtorEq, Nat.reduceAdd, Nat.reduceMul, Nat.reduceSub, Nat.reduceLT, Nat.reduceLeDiff, Nat.reduceEqDiff, Nat.reduceBEq, Nat.reducePow]; rfl) (Marks.nil _) ?_)
  simp only [Vthen, VinBlock, if_true, if_false, Nat.reduceEqDiff, reduceCtorEq]
  refine WpV.ret ⟨Marks.nil _, List.nodup_nil, _, by simp only [Tryz.results45]; simp only [go_sem, reduceCtorEq, Nat.reduceAdd, Nat.reduceMul, Nat.reduceSub, Nat.reduceLT, Nat.reduceLeDiff, Nat.reduceEqDiff, Nat.reduceBEq, Nat.reducePow]; rfl, ?_⟩
  exact ⟨rfl, rfl⟩

theorem checkLength_ok (H : Hp) (c : Cs) (hc : c.Valid) (nl clip : Bool) (w : List Int) (n : Int) (hw : c.word w = true) (hn : 1 ≤ n ∧ n ≤ 400) : CallV Tryz.prog 37 [.agg c.cells, vints nl clip w, vint n] H (fun r H' => r = vint 0 ∧ H' = H) := by
  have hl : w.length < 1000000 := by have := (Cs.word_iff.1 hw).2.1; omega
  have h1 := lengths_any H false true [n] (by simp)
  rw [show insB 1 400 [n] = true by rw [insB_iff]; simpa using hn] at h1
  refine CallV.body Tryz.func37 rfl Tryz.ntmps37 (by rfl) ?_
  refine WpV.seq (WpV.regionE (by simp only [go_sem, reduceCtorEq, Nat.reduceAdd, Nat.reduceMul, Nat.reduceSub, Nat.reduceLT, Nat.reduceLeDiff, Nat.reduceEqDiff, Nat.reduceBEq, Nat.reducePow]; rfl) (Marks.nil _) ?_)
  simp only [Vthen, VinBlock, if_true, if_false, Nat.reduceEqDiff, reduceCtorEq]
  refine WpV.seq ?_
  refine WpV.seq (WpV.region ?_)
  refine WpOps.take 2 (by simp only [go_sem, reduceCtorEq, Nat.reduceAdd, Nat.reduceMul, Nat.reduceSub, Nat.reduceLT, Nat.reduceLeDiff, Nat.reduceEqDiff, Nat.reduceBEq, Nat.reducePow]; rfl) ?_
  refine WpOps.step (by rfl) (by rfl) (OpW.callY rfl (by rfl) (by rfl) (by rfl) (enters_of Tryz.func34 (by kernel_rfl) rfl) ((checkWord_ok H c hc nl clip w hl hw).mono ?_))
  rintro _ _ ⟨rfl, hH⟩
  replace hH := hH.symm
  subst hH
  refine WpOps.take 1 (by simp only [go_sem, reduceCtorEq, Nat.reduceAdd, Nat.reduceMul, Nat.reduceSub, Nat.reduceLT, Nat.reduceLeDiff, Nat.reduceEqDiff, Nat.reduceBEq, Nat.reducePow]; rfl) (WpOps.nil ⟨Marks.nil _, ?_⟩)
  simp only [Vthen, VinBlock, if_true, if_false, Nat.reduceEqDiff, reduceCtorEq]
  refine WpV.seq (WpV.regionE (by simp only [go_sem, reduceCtorEq, Nat.reduceAdd, Nat.reduceMul, Nat.reduceSub, Nat.reduceLT, Nat.reduceLeDiff, Nat.reduceEqDiff, Nat.reduceBEq, Nat.reducePow]; rfl) (Marks.nil _) ?_)
  simp only [Vthen, VinBlock, if_true, if_false, Nat.reduceEqDiff, reduceCtorEq]
  refine WpV.cond rfl (fun hb => by cases hb) (fun hb => WpV.skip ?_)
  simp only [Vthen, VinBlock, if_true, if_false, Nat.reduceEqDiff, reduceCtorEq]
  refine WpV.seq ?_
  refine WpV.seq (WpV.region ?_)
  refine WpOps.take 2 (by simp only [go_sem, reduceCtorEq, Nat.reduceAdd, Nat.reduceMul, Nat.reduceSub, Nat.reduceLT, Nat.reduceLeDiff, Nat.reduceEqDiff, Nat.reduceBEq, Nat.reducePow]; rfl) ?_
  refine WpOps.step (by rfl) (by rfl) (OpW.callY rfl (by rfl) (by rfl) (by rfl) (enters_of Tryz.func50 (by kernel_rfl) rfl) ((h1).mono ?_))
  rintro _ _ ⟨rfl, hH⟩
  replace hH := hH.symm
  subst hH
  refine WpOps.take 1 (by simp only [go_sem, reduceCtorEq, Nat.reduceAdd, Nat.reduceMul, Nat.reduceSub, Nat.reduceLT, Nat.reduceLeDiff, Nat.reduceEqDiff, Nat.reduceBEq, Nat.reducePow]; rfl) (WpOps.nil ⟨Marks.nil _, ?_⟩)
  simp only [Vthen, VinBlock, if_true, if_false, Nat.reduceEqDiff, reduceCtorEq]
  refine WpV.cond rfl (fun hb => by cases hb) (fun hb => WpV.skip ?_)
  simp only [Vthen, VinBlock, if_true, if_false, Nat.reduceEqDiff, reduceCtorEq]
  refine WpV.seq (WpV.regionE (by simp only [go_sem, reduceCtorEq, Nat.reduceAdd, Nat.reduceMul, Nat.reduceSub, Nat.reduceLT, Nat.reduceLeDiff, Nat.reduceEqDiff, Nat.reduceBEq, Nat.reducePow]; rfl) (Marks.nil _) ?_)
  simp only [Vthen, VinBlock, if_true, if_false, Nat.reduceEqDiff, reduceCtorEq]
  refine WpV.ret ⟨Marks.nil _, List.nodup_nil, _, by simp only [Tryz.results37]; simp only [go_sem, reduceCtorEq, Nat.reduceAdd, Nat.reduceMul, Nat.reduceSub, Nat.reduceLT, Nat.reduceLeDiff, Nat.reduceEqDiff, Nat.reduceBEq, Nat.reducePow]; rfl, ?_⟩
  exact ⟨rfl, rfl⟩

theorem Need_any (H : Hp) (c : Cs) (hc : c.Valid) (nl clip : Bool) (w : List Int) (hw : c.word w = true) : CallV Tryz.prog 10 [.agg c.cells, vints nl clip w] H (fun r H' => r = .tup [vint (c.needF [w]), vint 0] ∧ H' = H) := by
  have hW := Cs.word_iff.1 hw
  have hl : w.length < 1000000 := by have := hW.2.1; omega
  refine CallV.body Tryz.func10 rfl Tryz.ntmps10 (by rfl) ?_
  refine WpV.seq (WpV.regionE (by simp only [go_sem, reduceCtorEq, Nat.reduceAdd, Nat.reduceMul, Nat.reduceSub, Nat.reduceLT, Nat.reduceLeDiff, Nat.reduceEqDiff, Nat.reduceBEq, Nat.reducePow]; rfl) (Marks.nil _) ?_)
  simp only [Vthen, VinBlock, if_true, if_false, Nat.reduceEqDiff, reduceCtorEq]
  refine WpV.seq ?_
  refine WpV.seq (WpV.region ?_)
  refine WpOps.take 2 (by simp only [go_sem, reduceCtorEq, Nat.reduceAdd, Nat.reduceMul, Nat.reduceSub, Nat.reduceLT, Nat.reduceLeDiff, Nat.reduceEqDiff, Nat.reduceBEq, Nat.reducePow]; rfl) ?_
  refine WpOps.step (by rfl) (by rfl) (OpW.callY rfl (by rfl) (by rfl) (by rfl) (enters_of Tryz.func34 (by kernel_rfl) rfl) ((checkWord_ok H c hc nl clip w hl hw).mono ?_))
  rintro _ _ ⟨rfl, hH⟩
  replace hH := hH.symm
  subst hH
  refine WpOps.take 1 (by simp only [go_sem, reduceCtorEq, Nat.reduceAdd, Nat.reduceMul, Nat.reduceSub, Nat.reduceLT, Nat.reduceLeDiff, Nat.reduceEqDiff, Nat.reduceBEq, Nat.reducePow]; rfl) (WpOps.nil ⟨Marks.nil _, ?_⟩)
  simp only [Vthen, VinBlock, if_true, if_false, Nat.reduceEqDiff, reduceCtorEq]
  refine WpV.seq (WpV.regionE (by simp only [go_sem, reduceCtorEq, Nat.reduceAdd, Nat.reduceMul, Nat.reduceSub, Nat.reduceLT, Nat.reduceLeDiff, Nat.reduceEqDiff, Nat.reduceBEq, Nat.reducePow]; rfl) (Marks.nil _) ?_)
  simp only [Vthen, VinBlock, if_true, if_false, Nat.reduceEqDiff, reduceCtorEq]
  refine WpV.cond rfl (fun hb => by cases hb) (fun hb => WpV.skip ?_)
  simp only [Vthen, VinBlock, if_true, if_false, Nat.reduceEqDiff, reduceCtorEq]
  refine WpV.seq (WpV.region ?_)
  refine WpOps.take 1 (by simp only [go_sem, reduceCtorEq, Nat.reduceAdd, Nat.reduceMul, Nat.reduceSub, Nat.reduceLT, Nat.reduceLeDiff, Nat.reduceEqDiff, Nat.reduceBEq, Nat.reducePow]; rfl) ?_
  refine WpOps.step (by rfl) (by rfl) (OpW.callY rfl (by rfl) (by rfl) (by rfl) (enters_of Tryz.func35 (by kernel_rfl) rfl) ((box_of H c hc.ok hc.keys).mono ?_))
  rintro _ _ ⟨rfl, hH⟩
  replace hH := hH.symm
  subst hH
  refine WpOps.take 2 (by simp only [go_sem, reduceCtorEq, Nat.reduceAdd, Nat.reduceMul, Nat.reduceSub, Nat.reduceLT, Nat.reduceLeDiff, Nat.reduceEqDiff, Nat.reduceBEq, Nat.reducePow]; rfl) ?_
  refine WpOps.step (by rfl) (by rfl) (OpW.callY rfl (by rfl) (by rfl) (by rfl) (enters_of Tryz.func36 (by kernel_rfl) rfl) ((need_any H c hc.fair false true [(nl, clip, w)] (by simp) (by simpa using hW)).mono ?_))
  rintro _ _ ⟨rfl, hH⟩
  replace hH := hH.symm
  subst hH
  refine WpOps.take 2 (by simp only [go_sem, reduceCtorEq, Nat.reduceAdd, Nat.reduceMul, Nat.reduceSub, Nat.reduceLT, Nat.reduceLeDiff, Nat.reduceEqDiff, Nat.reduceBEq, Nat.reducePow]; rfl) (WpOps.nil ⟨Marks.nil _, ?_⟩)
  simp only [Vthen, VinBlock, if_true, if_false, Nat.reduceEqDiff, reduceCtorEq]
  refine WpV.ret ⟨Marks.nil _, List.nodup_nil, _, by simp only [Tryz.results10]; simp only [go_sem, reduceCtorEq, Nat.reduceAdd, Nat.reduceMul, Nat.reduceSub, Nat.reduceLT, Nat.reduceLeDiff, Nat.reduceEqDiff, Nat.reduceBEq, Nat.reducePow]; rfl, ?_⟩
  exact ⟨rfl, rfl⟩

theorem looks_call (H : Hp) (c : Cs) (hc : c.Fair) (nl clip nl2 clip2 : Bool) (w gs : List Int) (hw : c.Word w) (hgl : gs.length = w.length - 1) (hgs : ∀ x ∈ gs, 0 ≤ x ∧ x ≤ 400) :
    CallV Tryz.prog 46 [.agg c.box, vints nl clip w, vints nl2 clip2 gs] H (fun r H' => r = vints (true && decide ((c.looksF w gs).length = 0)) (decide ((c.looksF w gs).length = 0)) (c.looksF w gs) ∧ H' = H) := by
  have h := (looks_bld H c hc nl clip nl2 clip2 w gs (by have := hw.2.1; omega) hw.1 (hw.small hc) hgl hgs).frz
  rw [← Cs.looks_len (c := c) hgl] at h
  exact h
theorem Cs.looks_tame {c : Cs} (hc : c.Fair) {w gs : List Int} (hw : c.Word w) (hgl : gs.length = w.length - 1) (hgs : ∀ x ∈ gs, 0 ≤ x ∧ x ≤ 400) : Tame (c.looksF w gs) := by
  refine ⟨by rw [Cs.looks_len hgl]; have := hw.2.1; omega, fun x hx => ?_⟩
  obtain ⟨i, hi, rfl⟩ := List.getElem_of_mem hx
  have hi' : i < w.length - 1 := by rwa [Cs.looks_len hgl] at hi
  have e := Cs.looks_at (c := c) hgl hi'
  have e1 : (c.looksF w gs)[i] = (c.looksF w gs).getD i 0 := by simp [List.getD_eq_getElem?_getD, hi]
  have h1 : -5 ≤ (c.mores w).getD i 0 ∧ (c.mores w).getD i 0 ≤ 5 := Cs.mores_le hc w _ _ (by rw [List.getD_eq_getElem?_getD, List.getElem?_eq_getElem (show i < (c.mores w).length by rw [Cs.moreN_len]; exact hi')]; exact List.getElem_mem _)
  have h2 : 0 ≤ gs.getD i 0 ∧ gs.getD i 0 ≤ 400 := hgs _ (by rw [List.getD_eq_getElem?_getD, List.getElem?_eq_getElem (show i < gs.length by omega)]; exact List.getElem_mem _)
  rw [e1, e]; omega
theorem gaps_iff {w gs : List Int} : gapsB w gs = true ↔ (gs.length : Int) = w.length - 1 ∧ ∀ x ∈ gs, 0 ≤ x ∧ x ≤ 400 := by
  unfold gapsB; rw [Bool.and_eq_true, insB_iff, beq_iff_eq]

theorem Looks_any (H : Hp) (c : Cs) (hc : c.Valid) (nl clip nl2 clip2 : Bool) (w gs : List Int) (hw : c.word w = true) (hg : gapsB w gs = true) :
    CallV Tryz.prog 19 [.agg c.cells, vints nl clip w, vints nl2 clip2 gs] H (fun r H' => r = .tup [vints (true && decide ((c.looksF w gs).length = 0)) (decide ((c.looksF w gs).length = 0)) (c.looksF w gs), vint (spreadF (c.looksF w gs)), vint 0] ∧ H' = H) := by
  have hW := Cs.word_iff.1 hw
  obtain ⟨hg1, hg2⟩ := gaps_iff.1 hg
  have h7 := hW.2.1
  have h1 := hW.1
  refine CallV.body Tryz.func19 rfl Tryz.ntmps19 (by rfl) ?_
  refine WpV.seq (WpV.regionE (by simp only [go_sem, reduceCtorEq, Nat.reduceAdd, Nat.reduceMul, Nat.reduceSub, Nat.reduceLT, Nat.reduceLeDiff, Nat.reduceEqDiff, Nat.reduceBEq, Nat.reducePow]; rfl) (Marks.nil _) ?_)
  simp only [Vthen, VinBlock, if_true, if_false, Nat.reduceEqDiff, reduceCtorEq]
  refine WpV.seq ?_
  refine WpV.seq (WpV.region ?_)
  refine WpOps.take 3 (by simp only [go_sem, reduceCtorEq, Nat.reduceAdd, Nat.reduceMul, Nat.reduceSub, Nat.reduceLT, Nat.reduceLeDiff, Nat.reduceEqDiff, Nat.reduceBEq, Nat.reducePow]; rfl) ?_
  refine WpOps.step (by rfl) (by rfl) (OpW.callY rfl (by rfl) (by rfl) (by rfl) (enters_of Tryz.func45 (by kernel_rfl) rfl) ((checkGaps_ok H c hc nl clip nl2 clip2 w gs hw hg (by omega)).mono ?_))
  rintro _ _ ⟨rfl, hH⟩
  replace hH := hH.symm
  subst hH
  refine WpOps.take 1 (by simp only [go_sem, reduceCtorEq, Nat.reduceAdd, Nat.reduceMul, Nat.reduceSub, Nat.reduceLT, Nat.reduceLeDiff, Nat.reduceEqDiff, Nat.reduceBEq, Nat.reducePow]; rfl) (WpOps.nil ⟨Marks.nil _, ?_⟩)
  simp only [Vthen, VinBlock, if_true, if_false, Nat.reduceEqDiff, reduceCtorEq]
  refine WpV.seq (WpV.regionE (by simp only [go_sem, reduceCtorEq, Nat.reduceAdd, Nat.reduceMul, Nat.reduceSub, Nat.reduceLT, Nat.reduceLeDiff, Nat.reduceEqDiff, Nat.reduceBEq, Nat.reducePow]; rfl) (Marks.nil _) ?_)
  simp only [Vthen, VinBlock, if_true, if_false, Nat.reduceEqDiff, reduceCtorEq]
  refine WpV.cond rfl (fun hb => by cases hb) (fun hb => WpV.skip ?_)
  simp only [Vthen, VinBlock, if_true, if_false, Nat.reduceEqDiff, reduceCtorEq]
  refine WpV.seq (WpV.region ?_)
  refine WpOps.take 1 (by simp only [go_sem, reduceCtorEq, Nat.reduceAdd, Nat.reduceMul, Nat.reduceSub, Nat.reduceLT, Nat.reduceLeDiff, Nat.reduceEqDiff, Nat.reduceBEq, Nat.reducePow]; rfl) ?_
  refine WpOps.step (by rfl) (by rfl) (OpW.callY rfl (by rfl) (by rfl) (by rfl) (enters_of Tryz.func35 (by kernel_rfl) rfl) ((box_of H c hc.ok hc.keys).mono ?_))
  rintro _ _ ⟨rfl, hH⟩
  replace hH := hH.symm
  subst hH
  refine WpOps.take 2 (by simp only [go_sem, reduceCtorEq, Nat.reduceAdd, Nat.reduceMul, Nat.reduceSub, Nat.reduceLT, Nat.reduceLeDiff, Nat.reduceEqDiff, Nat.reduceBEq, Nat.reducePow]; rfl) ?_
  refine WpOps.step (by rfl) (by rfl) (OpW.callY rfl (by rfl) (by rfl) (by rfl) (enters_of Tryz.func46 (by kernel_rfl) rfl) ((looks_call H c hc.fair nl clip nl2 clip2 w gs hW (by omega) hg2).mono ?_))
  rintro _ _ ⟨rfl, hH⟩
  replace hH := hH.symm
  subst hH
  refine WpOps.take 1 (by simp only [go_sem, reduceCtorEq, Nat.reduceAdd, Nat.reduceMul, Nat.reduceSub, Nat.reduceLT, Nat.reduceLeDiff, Nat.reduceEqDiff, Nat.reduceBEq, Nat.reducePow]; rfl) (WpOps.nil ⟨Marks.nil _, ?_⟩)
  simp only [Vthen, VinBlock, if_true, if_false, Nat.reduceEqDiff, reduceCtorEq]
  refine WpV.seq (WpV.region ?_)
  refine WpOps.take 2 (by simp only [go_sem, reduceCtorEq, Nat.reduceAdd, Nat.reduceMul, Nat.reduceSub, Nat.reduceLT, Nat.reduceLeDiff, Nat.reduceEqDiff, Nat.reduceBEq, Nat.reducePow]; rfl) ?_
  refine WpOps.step (by rfl) (by rfl) (OpW.callY rfl (by rfl) (by rfl) (by rfl) (enters_of Tryz.func47 (by kernel_rfl) rfl) ((spread_any H _ _ _ (Cs.looks_tame hc.fair hW (by omega) hg2)).mono ?_))
  rintro _ _ ⟨rfl, hH⟩
  replace hH := hH.symm
  subst hH
  refine WpOps.take 3 (by simp only [go_sem, reduceCtorEq, Nat.reduceAdd, Nat.reduceMul, Nat.reduceSub, Nat.reduceLT, Nat.reduceLeDiff, Nat.reduceEqDiff, Nat.reduceBEq, Nat.reducePow]; rfl) (WpOps.nil ⟨Marks.nil _, ?_⟩)
  simp only [Vthen, VinBlock, if_true, if_false, Nat.reduceEqDiff, reduceCtorEq]
  refine WpV.ret ⟨Marks.nil _, List.nodup_nil, _, by simp only [Tryz.results19]; simp only [go_sem, reduceCtorEq, Nat.reduceAdd, Nat.reduceMul, Nat.reduceSub, Nat.reduceLT, Nat.reduceLeDiff, Nat.reduceEqDiff, Nat.reduceBEq, Nat.reducePow]; rfl, ?_⟩
  exact ⟨rfl, rfl⟩

/-! ### Widest -/
def Cs.wider (c : Cs) : Cs := { c with wn := false, wc := false, ws := c.ws ++ [0] }
theorem Cs.wider_fair {c : Cs} (hc : c.Valid) : c.wider.Fair := by
  have hf := hc.fair
  have := (Cs.base_iff.1 hc.base).len8
  refine ⟨by simp [Cs.wider]; omega, fun x hx => ?_, hf.rim, hf.least, hf.blank, hf.few, hf.keys, hf.mores⟩
  rcases List.mem_append.1 hx with h | h
  · exact hf.ws x h
  · have : x = 0 := by simpa using h
    omega
theorem Cs.wider_word {c : Cs} {w : List Int} (hw : c.Word w) (k : Nat) : c.wider.Word (w.set k (c.ws.length : Int)) := by
  refine ⟨by simpa using hw.1, by simpa using hw.2.1, fun x hx => ?_⟩
  have hl : (c.wider.ws.length : Int) = c.ws.length + 1 := by simp [Cs.wider]
  rw [hl]
  rcases List.mem_or_eq_of_mem_set hx with h | rfl
  · have := hw.2.2 x h; omega
  · omega
def Cs.widestF (c : Cs) (w : List Int) (k : Nat) (n : Int) : Int := if (30 : Int) < n - c.wider.needF [w.set k (c.ws.length : Int)] then 30 else n - c.wider.needF [w.set k (c.ws.length : Int)]
theorem Cs.needF_le {c : Cs} (hc : c.Fair) {ws : List (List Int)} (hn : ws.length ≤ 10) (hw : ∀ w ∈ ws, c.Word w) : -30 ≤ c.needF ws ∧ c.needF ws ≤ 5000 := by
  have h1 := hc.rim
  have h2 := hc.blank
  have hlo : -30 ≤ ((ws.length : Int) - 1) * c.blank := by
    rcases Nat.eq_zero_or_pos ws.length with h | h
    · rw [h]; omega
    · have : 0 ≤ ((ws.length : Int) - 1) * c.blank := Int.mul_nonneg (by omega) h2.1
      omega
  have hhi : ((ws.length : Int) - 1) * c.blank ≤ 270 := by
    have := Int.mul_le_mul (a := (ws.length : Int) - 1) (b := c.blank) (c := 9) (d := 30) (by omega) h2.2 h2.1 (by omega)
    omega
  have h3 := sum_bound (xs := ws.map c.need1) (a := 0) (b := 400) (fun x hx => by
    obtain ⟨w, hw', rfl⟩ := List.mem_map.1 hx; exact Cs.need1_le hc (hw w hw'))
  rw [List.length_map] at h3
  unfold Cs.needF
  omega

theorem widest_any (H : Hp) (c : Cs) (hc : c.Valid) (clip : Bool) (w : List Int) (hw : c.Word w) (k : Nat) (hk : k < w.length) (n : Int) (hn : 1 ≤ n ∧ n ≤ 400) :
    CallV Tryz.prog 51 [.agg c.box, vints false clip w, vint k, vint n] H (fun r H' => r = vint (c.widestF w k n) ∧ H' = H) := by
  have h8 := (Cs.base_iff.1 hc.base).len8
  have h7 := hw.2.1
  refine CallV.body Tryz.func51 rfl Tryz.ntmps51 (by rfl) ?_
  refine WpV.seq (WpV.region ?_)
  refine WpOps.step (by rfl) (by rfl) (OpW.box rfl rfl rfl (fun id hid => ?_))
  refine WpOps.take 1 (by simp only [go_sem, reduceCtorEq, Nat.reduceAdd, Nat.reduceMul, Nat.reduceSub, Nat.reduceLT, Nat.reduceLeDiff, Nat.reduceEqDiff, Nat.reduceBEq, Nat.reducePow]; rfl) (WpOps.nil ⟨Marks.nil _, ?_⟩)
  simp only [Vthen, VinBlock, if_true, if_false, Nat.reduceEqDiff, reduceCtorEq]
  refine WpV.seq (WpV.regionE (by simp only [go_sem, reduceCtorEq, Nat.reduceAdd, Nat.reduceMul, Nat.reduceSub, Nat.reduceLT, Nat.reduceLeDiff, Nat.reduceEqDiff, Nat.reduceBEq, Nat.reducePow]; rfl) (Marks.nil _) ?_)
  simp only [Vthen, VinBlock, if_true, if_false, Nat.reduceEqDiff, reduceCtorEq]
  refine WpV.seq (WpV.region ?_)
  refine WpOps.take 3 (by simp only [go_sem, reduceCtorEq, Nat.reduceAdd, Nat.reduceMul, Nat.reduceSub, Nat.reduceLT, Nat.reduceLeDiff, Nat.reduceEqDiff, Nat.reduceBEq, Nat.reducePow]; rfl) ?_
  refine WpOps.step (by rfl) (by rfl) (OpW.callY rfl (by rfl) (by rfl) (by rfl) (enters_of Tryz.func74 (by kernel_rfl) rfl) ((with_any _ c.wn c.wc c.ws 0 (by omega)).mono ?_))
  rintro _ _ ⟨rfl, hH⟩
  replace hH := hH.symm
  subst hH
  refine WpOps.take 2 (by simp only [go_sem, reduceCtorEq, Nat.reduceAdd, Nat.reduceMul, Nat.reduceSub, Nat.reduceLT, Nat.reduceLeDiff, Nat.reduceEqDiff, Nat.reduceBEq, Nat.reducePow]; rfl) ?_
  refine WpOps.step (by rfl) (by rfl) (OpW.store (ty := 78) rfl (by simp only [go_sem, reduceCtorEq, Nat.reduceAdd, Nat.reduceMul, Nat.reduceSub, Nat.reduceLT, Nat.reduceLeDiff, Nat.reduceEqDiff, Nat.reduceBEq, Nat.reducePow]; try rfl) (by simp only [go_sem, reduceCtorEq, Nat.reduceAdd, Nat.reduceMul, Nat.reduceSub, Nat.reduceLT, Nat.reduceLeDiff, Nat.reduceEqDiff, Nat.reduceBEq, Nat.reducePow]; try rfl) (Hp.set_eq _ _ _) (by simp only [go_sem, reduceCtorEq, Nat.reduceAdd, Nat.reduceMul, Nat.reduceSub, Nat.reduceLT, Nat.reduceLeDiff, Nat.reduceEqDiff, Nat.reduceBEq, Nat.reducePow]; try rfl) (by exact Tryz.sz29) (by simp) ?_)
  refine WpOps.nil ⟨Marks.nil _, ?_⟩
  simp only [go_sem, reduceCtorEq, Nat.reduceAdd, Nat.reduceMul, Nat.reduceSub, Nat.reduceLT, Nat.reduceLeDiff, Nat.reduceEqDiff, Nat.reduceBEq, Nat.reducePow, Hp.set_set]
  simp only [Vthen, VinBlock, if_true, if_false, Nat.reduceEqDiff, reduceCtorEq]
  refine WpV.pre (Frz.ptr (t := 4) (id := id) rfl (Hp.set_eq _ _ _)) (Marks.nil _) ?_
  rw [Hp.set_set, Hp.set_same _ _ _ hid]
  refine WpV.seq (WpV.regionD Tryz.mixed (by kernel_rfl) (by kernel_rfl) ?_)
  refine LexD.take 4 (by rfl) (by simp only [go_sem, reduceCtorEq, Nat.reduceAdd, Nat.reduceMul, Nat.reduceSub, Nat.reduceLT, Nat.reduceLeDiff, Nat.reduceEqDiff, Nat.reduceBEq, Nat.reducePow]; rfl) ?_
  refine LexD.step (by rfl) (by rfl) (OpW.callY rfl (by rfl) (by rfl) (by rfl) (enters_of Tryz.func75 (by kernel_rfl) rfl) (replaced_any H clip w (by omega) k hk _)) ?_
  refine LexD.take 1 (by rfl) (by simp only [go_sem, reduceCtorEq, Nat.reduceAdd, Nat.reduceMul, Nat.reduceSub, Nat.reduceLT, Nat.reduceLeDiff, Nat.reduceEqDiff, Nat.reduceBEq, Nat.reducePow]; rfl) ?_
  refine LexD.step (by rfl) (by rfl) (OpW.callY rfl (by rfl) (by rfl) (by rfl) (enters_of Tryz.func36 (by kernel_rfl) rfl) (need_any H c.wider (Cs.wider_fair hc) false true [(false, false, w.set k (c.ws.length : Int))] (by simp) (by simpa using Cs.wider_word hw k))) ?_
  refine LexD.take 1 (by rfl) (by simp only [go_sem, reduceCtorEq, Nat.reduceAdd, Nat.reduceMul, Nat.reduceSub, Nat.reduceLT, Nat.reduceLeDiff, Nat.reduceEqDiff, Nat.reduceBEq, Nat.reducePow]; rfl) (LexD.nilE ⟨Marks.nil _, ?_⟩)
  simp only [Vthen, VinBlock, if_true, if_false, Nat.reduceEqDiff, reduceCtorEq]
  refine WpV.seq (WpV.regionE (by simp only [go_sem, reduceCtorEq, Nat.reduceAdd, Nat.reduceMul, Nat.reduceSub, Nat.reduceLT, Nat.reduceLeDiff, Nat.reduceEqDiff, Nat.reduceBEq, Nat.reducePow]; rfl) (Marks.nil _) ?_)
  simp only [Vthen, VinBlock, if_true, if_false, Nat.reduceEqDiff, reduceCtorEq]
  refine WpV.ret ⟨Marks.nil _, List.nodup_nil, _, by simp only [Tryz.results51]; simp only [go_sem, reduceCtorEq, Nat.reduceAdd, Nat.reduceMul, Nat.reduceSub, Nat.reduceLT, Nat.reduceLeDiff, Nat.reduceEqDiff, Nat.reduceBEq, Nat.reducePow]; rfl, ?_⟩
  refine ⟨?_, rfl⟩
  have hle := Cs.needF_le (Cs.wider_fair hc) (ws := [w.set k (c.ws.length : Int)]) (by simp) (by simpa using Cs.wider_word hw k)
  unfold Cs.widestF
  simp only [List.map_cons, List.map_nil]
  rw [wrap64 (by omega)]
end Go.Proofs.YtaekibilldjnmaaGreat
namespace Go.Proofs.YtaekibilldjnmaaGreat
open Go.Proofs

abbrev rowB (b : List Int) : AV := vints b.isEmpty b.isEmpty b
/-- The lists that begin so, and go on with so many numbers of a list. -/
def combs : List Int → Nat → List Int → List (List Int)
  | _, 0, b => [b]
  | [], _ + 1, _ => []
  | x :: l, s + 1, b => combs l s (b ++ [x]) ++ combs l (s + 1) b
theorem combs_zero (l b : List Int) : combs l 0 b = [b] := by cases l <;> rfl
theorem combs_drop (l : List Int) {k : Nat} (hk : k < l.length) (s : Nat) (b : List Int) : combs (l.drop k) (s + 1) b = combs (l.drop (k + 1)) s (b ++ [l[k]]) ++ combs (l.drop (k + 1)) (s + 1) b := by
  rw [List.drop_eq_getElem_cons hk]; rfl
abbrev itemsB (bs : List (List Int)) : List (List AV) := bs.map fun b => [rowB b]

set_option maxHeartbeats 1000000 in
theorem longer_any (y : AV) (J : List (List AV) → Hp → Prop) (Dn : Hp → Prop) (hy : Eats Tryz.prog y J Dn) : ∀ (s : Nat) (l b : List Int) (rest : List (List AV)) (H : Hp) (nl clip : Bool), l.length < 1000000 → b.length + s < 1000000 → J (itemsB (combs l s b) ++ rest) H →
    CallV Tryz.prog 108 [rowB b, vints nl clip l, vint s, y] H (Went J Dn rest)
  | 0, l, b, rest, H, nl, clip, hl, hb, hJ => by
    rw [combs_zero] at hJ
    refine CallV.body Tryz.func108 rfl Tryz.ntmps108 (by rfl) ?_
    refine WpV.seq (WpV.regionE (by simp only [go_sem, reduceCtorEq, Nat.reduceAdd, Nat.reduceMul, Nat.reduceSub, Nat.reduceLT, Nat.reduceLeDiff, Nat.reduceEqDiff, Nat.reduceBEq, Nat.reducePow]; rfl) (Marks.nil _) ?_)
    simp only [Vthen, VinBlock, if_true, if_false, Nat.reduceEqDiff, reduceCtorEq]
    refine WpV.seq ?_
    refine WpV.seq (WpV.regionE (by simp only [go_sem, reduceCtorEq, Nat.reduceAdd, Nat.reduceMul, Nat.reduceSub, Nat.reduceLT, Nat.reduceLeDiff, Nat.reduceEqDiff, Nat.reduceBEq, Nat.reducePow]; rfl) (Marks.nil _) ?_)
    simp only [Vthen, VinBlock, if_true, if_false, Nat.reduceEqDiff, reduceCtorEq]
    refine WpV.cond rfl (fun hb => ?_) (fun hb => by cases hb)
    refine WpV.seq (WpV.region ?_)
    refine WpOps.take 2 (by simp only [go_sem, reduceCtorEq, Nat.reduceAdd, Nat.reduceMul, Nat.reduceSub, Nat.reduceLT, Nat.reduceLeDiff, Nat.reduceEqDiff, Nat.reduceBEq, Nat.reducePow]; rfl) ?_
    refine WpOps.step (by rfl) (by rfl) (OpW.mono (hy.now hJ _ _ (.tmp 13) #[.tmp 14] #[29] (by rfl) (by rfl) (by rfl)) ?_)
    rintro r H' hw
    refine WpOps.take 1 (by simp only [go_sem, reduceCtorEq, Nat.reduceAdd, Nat.reduceMul, Nat.reduceSub, Nat.reduceLT, Nat.reduceLeDiff, Nat.reduceEqDiff, Nat.reduceBEq, Nat.reducePow]; rfl) (WpOps.nil ⟨Marks.nil _, ?_⟩)
    simp only [Vthen, VinBlock, if_true, if_false, Nat.reduceEqDiff, reduceCtorEq]
    refine WpV.ret ⟨Marks.nil _, List.nodup_nil, _, by simp only [Tryz.results108]; simp only [go_sem, reduceCtorEq, Nat.reduceAdd, Nat.reduceMul, Nat.reduceSub, Nat.reduceLT, Nat.reduceLeDiff, Nat.reduceEqDiff, Nat.reduceBEq, Nat.reducePow]; rfl, ?_⟩
    exact hw
  | s + 1, l, b, rest, H, nl, clip, hl, hb, hJ => by
    have hs0 : (((s + 1 : Nat) : Int) == 0) = false := by simp; omega
    have hwb : (b ++ [0]).isEmpty = false := by simp
    refine CallV.body Tryz.func108 rfl Tryz.ntmps108 (by rfl) ?_
    refine WpV.seq (WpV.regionE (by simp only [go_sem, reduceCtorEq, Nat.reduceAdd, Nat.reduceMul, Nat.reduceSub, Nat.reduceLT, Nat.reduceLeDiff, Nat.reduceEqDiff, Nat.reduceBEq, Nat.reducePow]; rfl) (Marks.nil _) ?_)
    simp only [Vthen, VinBlock, if_true, if_false, Nat.reduceEqDiff, reduceCtorEq]
    refine WpV.seq ?_
    refine WpV.seq (WpV.regionE (by simp only [go_sem, reduceCtorEq, Nat.reduceAdd, Nat.reduceMul, Nat.reduceSub, Nat.reduceLT, Nat.reduceLeDiff, Nat.reduceEqDiff, Nat.reduceBEq, Nat.reducePow, hs0]; rfl) (Marks.nil _) ?_)
    simp only [Vthen, VinBlock, if_true, if_false, Nat.reduceEqDiff, reduceCtorEq]
    refine WpV.cond rfl (fun hb => by cases hb) (fun hb => WpV.skip ?_)
    simp only [Vthen, VinBlock, if_true, if_false, Nat.reduceEqDiff, reduceCtorEq]
    refine WpV.seq ?_
    refine WpV.seq (WpV.regionE (by simp only [go_sem, reduceCtorEq, Nat.reduceAdd, Nat.reduceMul, Nat.reduceSub, Nat.reduceLT, Nat.reduceLeDiff, Nat.reduceEqDiff, Nat.reduceBEq, Nat.reducePow]; rfl) (Marks.nil _) ?_)
    simp only [Vthen, VinBlock, if_true, if_false, Nat.reduceEqDiff, reduceCtorEq]
    refine WpV.block (WpV.loopJ l.length (fun k H => J (itemsB (combs (l.drop k) (s + 1) b) ++ rest) H) (fun k => [(0, rowB b), (1, vints nl clip l), (2, vint ((s + 1 : Nat) : Int)), (3, y), (16, vints nl clip l), (17, vint l.length), (18, vint k)]) hJ ?_ ?_)
    · exact .cons rfl rfl (.cons rfl rfl (.cons rfl rfl (.cons rfl rfl (.cons rfl rfl (.cons rfl rfl (.cons rfl rfl (.nil _)))))))
    · intro k hk H1 hJ1
      refine WpV.seq (WpV.regionE (by simp only [go_sem, reduceCtorEq, Nat.reduceAdd, Nat.reduceMul, Nat.reduceSub, Nat.reduceLT, Nat.reduceLeDiff, Nat.reduceEqDiff, Nat.reduceBEq, Nat.reducePow]; rfl) (Marks.nil _) ?_)
      simp only [Vthen, VinBlock, if_true, if_false, Nat.reduceEqDiff, reduceCtorEq]
      refine WpV.seq (WpV.cond rfl (fun hb => WpV.skip ?_) (fun hb => WpV.exit ?_))
      · have hlt : (k : Int) < (l.length : Int) := of_decide_eq_true ‹_›
        have hlt' : k < l.length := by omega
        have hg := ints_get l hlt'
        have hw1 : IntKind.i64.wrap ((k : Int) + 1) = ((k + 1 : Nat) : Int) := by rw [wrap64 (by omega)]; omega
        have h0 : (0 : Int) ≤ ((k + 1 : Nat) : Int) := by omega
        have hto : (((k + 1 : Nat) : Int)).toNat = k + 1 := Int.toNat_natCast _
        have hle : k + 1 ≤ l.length := by omega
        have hws : IntKind.i64.wrap (((s + 1 : Nat) : Int) - 1) = (s : Int) := by rw [wrap64 (by omega)]; omega
        rw [combs_drop l hlt' s b] at hJ1
        have hdl : (l.drop (k + 1)).length = l.length - (k + 1) := by simp
        have hdc : List.take (l.length - (k + 1)) (List.drop (k + 1) (l.map vint)) = (l.drop (k + 1)).map vint := by
          rw [List.take_of_length_le (by simp), List.map_drop]
        have hrb : rowB (b ++ [l[k]]) = vints false false (b ++ [l[k]]) := by simp [rowB]
        have hrec : ∀ clip', CallV Tryz.prog 108 [vints false false (b ++ [l[k]]), .sl nl clip' (l.length - (k + 1)) ((l.drop (k + 1)).map vint), vint s, y] H1 (Went J Dn (itemsB (combs (l.drop (k + 1)) (s + 1) b) ++ rest)) := fun clip' => by
          have h := longer_any y J Dn hy s (l.drop (k + 1)) (b ++ [l[k]]) (itemsB (combs (l.drop (k + 1)) (s + 1) b) ++ rest) H1 nl clip' (by simp; omega) (by simp; omega) (by
            rw [← List.append_assoc, ← List.map_append]; exact hJ1)
          rw [hrb] at h
          have e : vints nl clip' (l.drop (k + 1)) = AV.sl nl clip' (l.length - (k + 1)) ((l.drop (k + 1)).map vint) := by rw [← hdl]
          rw [e] at h
          exact h
        simp only [Vthen, VinBlock, if_true, if_false, Nat.reduceEqDiff, reduceCtorEq]
        refine WpV.seq (WpV.block ?_)
        refine WpV.seq (WpV.regionE (by simp only [go_sem, reduceCtorEq, Nat.reduceAdd, Nat.reduceMul, Nat.reduceSub, Nat.reduceLT, Nat.reduceLeDiff, Nat.reduceEqDiff, Nat.reduceBEq, Nat.reducePow, hlt, hg]; rfl) (Marks.nil _) ?_)
        simp only [Vthen, VinBlock, if_true, if_false, Nat.reduceEqDiff, reduceCtorEq]
        refine WpV.seq (WpV.regionTN 10 Tryz.mixed (by kernel_rfl) (by kernel_rfl) (by kernel_rfl) ?_)
        refine LexD.take 2 (by rfl) (by simp only [go_sem, reduceCtorEq, Nat.reduceAdd, Nat.reduceMul, Nat.reduceSub, Nat.reduceLT, Nat.reduceLeDiff, Nat.reduceEqDiff, Nat.reduceBEq, Nat.reducePow]; rfl) ?_
        refine LexD.step (by rfl) (by rfl) (OpW.callY rfl (by rfl) (by rfl) (by rfl) (enters_of Tryz.func74 (by kernel_rfl) rfl) (with_any H1 b.isEmpty b.isEmpty b l[k] (by omega))) ?_
        refine LexD.take 7 (by rfl) (by simp only [go_sem, reduceCtorEq, Nat.reduceAdd, Nat.reduceMul, Nat.reduceSub, Nat.reduceLT, Nat.reduceLeDiff, Nat.reduceEqDiff, Nat.reduceBEq, Nat.reducePow, hw1, h0, hto, hle, hdc, hws]; rfl) ?_
        refine LexD.nilE ?_
        refine LexT.step (by rfl) (by rfl) (OpW.callY rfl (by rfl) (by rfl) (by rfl) (enters_of Tryz.func108 (by kernel_rfl) rfl) ((hrec _).mono ?_))
        rintro r H' (⟨rfl, hJ2⟩ | ⟨rfl, hD⟩)
        · refine LexT.take 1 (by simp only [go_sem, reduceCtorEq, Nat.reduceAdd, Nat.reduceMul, Nat.reduceSub, Nat.reduceLT, Nat.reduceLeDiff, Nat.reduceEqDiff, Nat.reduceBEq, Nat.reducePow]; rfl) (LexT.nilE ⟨Marks.nil _, ?_⟩)
          simp only [Vthen, VinBlock, if_true, if_false, Nat.reduceEqDiff, reduceCtorEq]
          refine WpV.cond rfl (fun hb => by cases hb) (fun hb => WpV.skip ?_)
          simp only [Vthen, VinBlock, if_true, if_false, Nat.reduceEqDiff, reduceCtorEq]
          refine WpV.regionE (by simp only [go_sem, reduceCtorEq, Nat.reduceAdd, Nat.reduceMul, Nat.reduceSub, Nat.reduceLT, Nat.reduceLeDiff, Nat.reduceEqDiff, Nat.reduceBEq, Nat.reducePow]; rfl) (Marks.nil _) ?_
          simp only [Vthen, VinBlock, if_true, if_false, Nat.reduceEqDiff, reduceCtorEq]
          refine ⟨by first | rfl | trivial, hlt', hJ2, .cons rfl rfl (.cons rfl rfl (.cons rfl rfl (.cons rfl rfl (.cons rfl rfl (.cons rfl rfl (.cons rfl ?_ (.nil _)))))))⟩
          rw [wrap64 (by omega)]; rfl
        · refine LexT.take 1 (by simp only [go_sem, reduceCtorEq, Nat.reduceAdd, Nat.reduceMul, Nat.reduceSub, Nat.reduceLT, Nat.reduceLeDiff, Nat.reduceEqDiff, Nat.reduceBEq, Nat.reducePow]; rfl) (LexT.nilE ⟨Marks.nil _, ?_⟩)
          simp only [Vthen, VinBlock, if_true, if_false, Nat.reduceEqDiff, reduceCtorEq]
          refine WpV.cond rfl (fun hb => ?_) (fun hb => by cases hb)
          refine WpV.seq (WpV.regionE (by simp only [go_sem, reduceCtorEq, Nat.reduceAdd, Nat.reduceMul, Nat.reduceSub, Nat.reduceLT, Nat.reduceLeDiff, Nat.reduceEqDiff, Nat.reduceBEq, Nat.reducePow]; rfl) (Marks.nil _) ?_)
          simp only [Vthen, VinBlock, if_true, if_false, Nat.reduceEqDiff, reduceCtorEq]
          refine WpV.ret ⟨Marks.nil _, List.nodup_nil, _, by simp only [Tryz.results108]; simp only [go_sem, reduceCtorEq, Nat.reduceAdd, Nat.reduceMul, Nat.reduceSub, Nat.reduceLT, Nat.reduceLeDiff, Nat.reduceEqDiff, Nat.reduceBEq, Nat.reducePow]; rfl, ?_⟩
          exact .inr ⟨rfl, hD⟩
      · have hge : k = l.length := by have := of_decide_eq_false ‹_›; omega
        subst hge
        rw [List.drop_length] at hJ1
        simp only [Vthen, VinBlock, if_true, if_false, Nat.reduceEqDiff, reduceCtorEq]
        refine WpV.seq (WpV.regionE (by simp only [go_sem, reduceCtorEq, Nat.reduceAdd, Nat.reduceMul, Nat.reduceSub, Nat.reduceLT, Nat.reduceLeDiff, Nat.reduceEqDiff, Nat.reduceBEq, Nat.reducePow]; rfl) (Marks.nil _) ?_)
        simp only [Vthen, VinBlock, if_true, if_false, Nat.reduceEqDiff, reduceCtorEq]
        refine WpV.ret ⟨Marks.nil _, List.nodup_nil, _, by simp only [Tryz.results108]; simp only [go_sem, reduceCtorEq, Nat.reduceAdd, Nat.reduceMul, Nat.reduceSub, Nat.reduceLT, Nat.reduceLeDiff, Nat.reduceEqDiff, Nat.reduceBEq, Nat.reducePow]; rfl, ?_⟩
        exact .inl ⟨rfl, hJ1⟩

/-- 'sets' as a sequence: what its function does with a consumer. -/
theorem sets_any (H : Hp) (nl clip : Bool) (l : List Int) (s : Nat) : CallV Tryz.prog 90 [vints nl clip l, vint s] H (fun r H' => r = .fn (.func 107) [] [.cp [vints nl clip l] 0, .cp [vint s] 0] ∧ H' = H) := by
  refine CallV.body Tryz.func90 rfl Tryz.ntmps90 (by rfl) ?_
  refine WpV.seq (WpV.regionE (by simp only [go_sem, reduceCtorEq, Nat.reduceAdd, Nat.reduceMul, Nat.reduceSub, Nat.reduceLT, Nat.reduceLeDiff, Nat.reduceEqDiff, Nat.reduceBEq, Nat.reducePow]; rfl) (Marks.nil _) ?_)
  simp only [Vthen, VinBlock, if_true, if_false, Nat.reduceEqDiff, reduceCtorEq]
  refine WpV.seq (WpV.regionE (by simp only [go_sem, reduceCtorEq, Nat.reduceAdd, Nat.reduceMul, Nat.reduceSub, Nat.reduceLT, Nat.reduceLeDiff, Nat.reduceEqDiff, Nat.reduceBEq, Nat.reducePow]; rfl) (Marks.nil _) ?_)
  simp only [Vthen, VinBlock, if_true, if_false, Nat.reduceEqDiff, reduceCtorEq]
  refine WpV.ret ⟨Marks.nil _, List.nodup_nil, _, by simp only [Tryz.results90]; simp only [go_sem, reduceCtorEq, Nat.reduceAdd, Nat.reduceMul, Nat.reduceSub, Nat.reduceLT, Nat.reduceLeDiff, Nat.reduceEqDiff, Nat.reduceBEq, Nat.reducePow]; rfl, ?_⟩
  exact ⟨rfl, rfl⟩
theorem sets_run (y : AV) (J : List (List AV) → Hp → Prop) (Dn : Hp → Prop) (hy : Eats Tryz.prog y J Dn) (s : Nat) (l : List Int) (rest : List (List AV)) (H : Hp) (nl clip : Bool) (hl : l.length < 1000000) (hs : s < 1000000) (hJ : J (itemsB (combs l s []) ++ rest) H) :
    CallV Tryz.prog 107 [y, .cp [vints nl clip l] 0, .cp [vint s] 0] H (fun _ H' => J rest H' ∨ Dn H') := by
  refine CallV.body Tryz.func107 rfl Tryz.ntmps107 (by rfl) ?_
  refine WpV.region ?_
  refine WpOps.take 3 (by simp only [go_sem, reduceCtorEq, Nat.reduceAdd, Nat.reduceMul, Nat.reduceSub, Nat.reduceLT, Nat.reduceLeDiff, Nat.reduceEqDiff, Nat.reduceBEq, Nat.reducePow]; rfl) ?_
  refine WpOps.step (by rfl) (by rfl) (OpW.callY rfl (by rfl) (by rfl) (by rfl) (enters_of Tryz.func108 (by kernel_rfl) rfl) ((longer_any y J Dn hy s l [] rest H nl clip hl (by simp; omega) hJ).mono ?_))
  rintro r H' hw
  refine WpOps.nil ⟨Marks.nil _, ⟨Marks.nil _, List.nodup_nil, .tup [], by simp only [Tryz.results107]; rfl, ?_⟩⟩
  rcases hw with ⟨-, h⟩ | ⟨-, h⟩
  · exact .inl h
  · exact .inr h
end Go.Proofs.YtaekibilldjnmaaGreat
namespace Go.Proofs.YtaekibilldjnmaaGreat
open Go.Proofs

def numsF (lo : Int) (n : Nat) : List Int := (List.range n).map fun (i : Nat) => lo + (i : Int)
theorem numsF_succ (lo : Int) (k : Nat) : numsF lo (k + 1) = numsF lo k ++ [lo + (k : Int)] := by unfold numsF; rw [List.range_succ, List.map_append]; rfl
theorem numsF_len (lo : Int) (k : Nat) : (numsF lo k).length = k := by simp [numsF]
abbrev selfV (xs : List Int) : AV := vints (true && decide (xs.length = 0)) (decide (xs.length = 0)) xs
theorem selfV_rowB (xs : List Int) : selfV xs = rowB xs := by cases xs <;> rfl

theorem numbers_any (H : Hp) (lo hi : Int) (n : Nat) (hn : n < 1000000) (hlo : -1000000 ≤ lo ∧ lo ≤ 1000000) (he : hi + 1 = lo + (n : Int)) : CallV Tryz.prog 91 [vint lo, vint hi] H (fun r H' => r = selfV (numsF lo n) ∧ H' = H) := by
  refine CallV.body Tryz.func91 rfl Tryz.ntmps91 (by rfl) ?_
  refine WpV.seq (WpV.regionE (by simp only [go_sem, reduceCtorEq, Nat.reduceAdd, Nat.reduceMul, Nat.reduceSub, Nat.reduceLT, Nat.reduceLeDiff, Nat.reduceEqDiff, Nat.reduceBEq, Nat.reducePow]; rfl) (Marks.nil _) ?_)
  simp only [Vthen, VinBlock, if_true, if_false, Nat.reduceEqDiff, reduceCtorEq]
  refine WpV.seq (WpV.regionE (by simp only [go_sem, reduceCtorEq, Nat.reduceAdd, Nat.reduceMul, Nat.reduceSub, Nat.reduceLT, Nat.reduceLeDiff, Nat.reduceEqDiff, Nat.reduceBEq, Nat.reducePow]; rfl) (Marks.nil _) ?_)
  simp only [Vthen, VinBlock, if_true, if_false, Nat.reduceEqDiff, reduceCtorEq]
  refine WpV.seq ?_
  refine WpV.seq (WpV.regionE (by simp only [go_sem, reduceCtorEq, Nat.reduceAdd, Nat.reduceMul, Nat.reduceSub, Nat.reduceLT, Nat.reduceLeDiff, Nat.reduceEqDiff, Nat.reduceBEq, Nat.reducePow]; rfl) (Marks.nil _) ?_)
  simp only [Vthen, VinBlock, if_true, if_false, Nat.reduceEqDiff, reduceCtorEq]
  refine WpV.block (WpV.loopB 3 1 true n (fun _ => True) (fun k => k) (fun k => (numsF lo k).map vint) (fun k v => [(1, vint hi), (5, v), (6, vint (lo + (k : Int)))]) trivial (Bld.nil H 3 1 true) ?_ ?_)
  · exact .cons rfl rfl (.cons rfl rfl (.cons rfl (by simp) (.nil _)))
  · intro k hk _ v H1 hB
    refine WpV.seq ?_
    refine WpV.seq (WpV.regionE (by simp only [go_sem, reduceCtorEq, Nat.reduceAdd, Nat.reduceMul, Nat.reduceSub, Nat.reduceLT, Nat.reduceLeDiff, Nat.reduceEqDiff, Nat.reduceBEq, Nat.reducePow]; rfl) (Marks.nil _) ?_)
    simp only [Vthen, VinBlock, if_true, if_false, Nat.reduceEqDiff, reduceCtorEq]
    refine WpV.cond rfl (fun hb => WpV.skip ?_) (fun hb => WpV.exit ?_)
    · have hle : lo + (k : Int) ≤ hi := of_decide_eq_true ‹_›
      simp only [Vthen, VinBlock, if_true, if_false, Nat.reduceEqDiff, reduceCtorEq]
      refine WpV.seq (WpV.block ?_)
      refine WpV.region ?_
      refine WpOps.take 3 (by simp only [go_sem, reduceCtorEq, Nat.reduceAdd, Nat.reduceMul, Nat.reduceSub, Nat.reduceLT, Nat.reduceLeDiff, Nat.reduceEqDiff, Nat.reduceBEq, Nat.reducePow]; rfl) ?_
      refine WpOps.step (by rfl) (by rfl) (OpW.appendB (m := 1) (ys := [vint (lo + (k : Int))]) rfl hB rfl rfl rfl (Tryz.el29 (by omega)) Tryz.underlying29 rfl rfl (by decide) (fun v' H' hB' => ?_))
      refine WpOps.take 1 (by simp only [go_sem, reduceCtorEq, Nat.reduceAdd, Nat.reduceMul, Nat.reduceSub, Nat.reduceLT, Nat.reduceLeDiff, Nat.reduceEqDiff, Nat.reduceBEq, Nat.reducePow]; rfl) (WpOps.nil ⟨Marks.nil _, ?_⟩)
      simp only [Vthen, VinBlock, if_true, if_false, Nat.reduceEqDiff, reduceCtorEq]
      refine WpV.regionE (by simp only [go_sem, reduceCtorEq, Nat.reduceAdd, Nat.reduceMul, Nat.reduceSub, Nat.reduceLT, Nat.reduceLeDiff, Nat.reduceEqDiff, Nat.reduceBEq, Nat.reducePow]; rfl) (Marks.nil _) ?_
      simp only [Vthen, VinBlock, if_true, if_false, Nat.reduceEqDiff, reduceCtorEq]
      refine ⟨by first | rfl | trivial, by omega, trivial, v', ?_, .cons rfl rfl (.cons rfl rfl (.cons rfl ?_ (.nil _)))⟩
      · rw [numsF_succ, List.map_append]; exact hB'
      · rw [wrap64 (by omega)]; congr 1; omega
    · have hge : ¬ lo + (k : Int) ≤ hi := of_decide_eq_false ‹_›
      have hkn : k = n := by omega
      subst hkn
      simp only [Vthen, VinBlock, if_true, if_false, Nat.reduceEqDiff, reduceCtorEq]
      refine WpV.seq (WpV.regionE (by simp only [go_sem, reduceCtorEq, Nat.reduceAdd, Nat.reduceMul, Nat.reduceSub, Nat.reduceLT, Nat.reduceLeDiff, Nat.reduceEqDiff, Nat.reduceBEq, Nat.reducePow]; rfl) (Marks.nil _) ?_)
      simp only [Vthen, VinBlock, if_true, if_false, Nat.reduceEqDiff, reduceCtorEq]
      refine WpV.pre (hB.frz (t := 4) rfl) (Marks.nil _) ?_
      refine WpV.ret ⟨Marks.nil _, List.nodup_nil, _, by simp only [Tryz.results91]; simp only [go_sem, reduceCtorEq, Nat.reduceAdd, Nat.reduceMul, Nat.reduceSub, Nat.reduceLT, Nat.reduceLeDiff, Nat.reduceEqDiff, Nat.reduceBEq, Nat.reducePow]; rfl, ?_⟩
      refine ⟨?_, rfl⟩
      show _ = AV.sl (true && decide ((numsF lo k).length = 0)) (decide ((numsF lo k).length = 0)) (numsF lo k).length ((numsF lo k).map vint)
      rw [numsF_len, Bool.true_and]

def contB (xs : List Int) (v : Int) : Bool := !decide (∀ i, i < xs.length → (fun k => v == xs.getD k 0) i = false)
theorem contains_any (H : Hp) (nl clip : Bool) (xs : List Int) (hl : xs.length < 1000000) (v : Int) : CallV Tryz.prog 101 [vints nl clip xs, vint v] H (fun r H' => r = .bool (contB xs v) ∧ H' = H) := by
  refine CallV.body Tryz.func101 rfl Tryz.ntmps101 (by rfl) ?_
  refine WpV.seq (WpV.regionE (by simp only [go_sem, reduceCtorEq, Nat.reduceAdd, Nat.reduceMul, Nat.reduceSub, Nat.reduceLT, Nat.reduceLeDiff, Nat.reduceEqDiff, Nat.reduceBEq, Nat.reducePow]; rfl) (Marks.nil _) ?_)
  simp only [Vthen, VinBlock, if_true, if_false, Nat.reduceEqDiff, reduceCtorEq]
  refine WpV.seq (WpV.region ?_)
  refine WpOps.take 2 (by simp only [go_sem, reduceCtorEq, Nat.reduceAdd, Nat.reduceMul, Nat.reduceSub, Nat.reduceLT, Nat.reduceLeDiff, Nat.reduceEqDiff, Nat.reduceBEq, Nat.reducePow]; rfl) ?_
  refine WpOps.step (by rfl) (by rfl) (OpW.callY rfl (by rfl) (by rfl) (by rfl) (enters_of Tryz.func89 (by kernel_rfl) rfl) ((index_any H nl clip xs hl v).mono ?_))
  rintro _ _ ⟨rfl, hH⟩
  replace hH := hH.symm
  subst hH
  refine WpOps.take 2 (by simp only [go_sem, reduceCtorEq, Nat.reduceAdd, Nat.reduceMul, Nat.reduceSub, Nat.reduceLT, Nat.reduceLeDiff, Nat.reduceEqDiff, Nat.reduceBEq, Nat.reducePow]; rfl) (WpOps.nil ⟨Marks.nil _, ?_⟩)
  simp only [Vthen, VinBlock, if_true, if_false, Nat.reduceEqDiff, reduceCtorEq]
  refine WpV.ret ⟨Marks.nil _, List.nodup_nil, _, by simp only [Tryz.results101]; simp only [go_sem, reduceCtorEq, Nat.reduceAdd, Nat.reduceMul, Nat.reduceSub, Nat.reduceLT, Nat.reduceLeDiff, Nat.reduceEqDiff, Nat.reduceBEq, Nat.reducePow]; rfl, ?_⟩
  exact ⟨by unfold contB; rw [← firstN_ge], rfl⟩

def withoutN (l ps : List Int) (k : Nat) : List Int := ((List.range k).filter fun (i : Nat) => !contB ps (i : Int)).map fun i => l.getD i 0
theorem withoutN_succ (l ps : List Int) (k : Nat) : withoutN l ps (k + 1) = withoutN l ps k ++ (if contB ps (k : Int) = true then [] else [l.getD k 0]) := by
  unfold withoutN
  rw [List.range_succ, List.filter_append, List.map_append]
  congr 1
  simp only [List.filter_cons, List.filter_nil]
  cases contB ps (k : Int) <;> simp
theorem withoutN_len (l ps : List Int) (k : Nat) : (withoutN l ps k).length ≤ k := by
  unfold withoutN
  rw [List.length_map]
  exact Nat.le_trans (List.length_filter_le _ _) (by simp)
abbrev withoutF (l ps : List Int) : List Int := withoutN l ps l.length

theorem without_any (H : Hp) (nl clip nl2 clip2 : Bool) (l ps : List Int) (hl : l.length < 1000000) (hp : ps.length < 1000000) : CallV Tryz.prog 92 [vints nl clip l, vints nl2 clip2 ps] H (fun r H' => r = selfV (withoutF l ps) ∧ H' = H) := by
  refine CallV.body Tryz.func92 rfl Tryz.ntmps92 (by rfl) ?_
  refine WpV.seq (WpV.regionE (by simp only [go_sem, reduceCtorEq, Nat.reduceAdd, Nat.reduceMul, Nat.reduceSub, Nat.reduceLT, Nat.reduceLeDiff, Nat.reduceEqDiff, Nat.reduceBEq, Nat.reducePow]; rfl) (Marks.nil _) ?_)
  simp only [Vthen, VinBlock, if_true, if_false, Nat.reduceEqDiff, reduceCtorEq]
  refine WpV.seq (WpV.regionE (by simp only [go_sem, reduceCtorEq, Nat.reduceAdd, Nat.reduceMul, Nat.reduceSub, Nat.reduceLT, Nat.reduceLeDiff, Nat.reduceEqDiff, Nat.reduceBEq, Nat.reducePow]; rfl) (Marks.nil _) ?_)
  simp only [Vthen, VinBlock, if_true, if_false, Nat.reduceEqDiff, reduceCtorEq]
  refine WpV.seq ?_
  refine WpV.seq (WpV.regionE (by simp only [go_sem, reduceCtorEq, Nat.reduceAdd, Nat.reduceMul, Nat.reduceSub, Nat.reduceLT, Nat.reduceLeDiff, Nat.reduceEqDiff, Nat.reduceBEq, Nat.reducePow]; rfl) (Marks.nil _) ?_)
  simp only [Vthen, VinBlock, if_true, if_false, Nat.reduceEqDiff, reduceCtorEq]
  refine WpV.block (WpV.loopB 3 1 true l.length (fun _ => True) (fun k => (withoutN l ps k).length) (fun k => (withoutN l ps k).map vint) (fun k v => [(1, vints nl2 clip2 ps), (5, v), (8, vints nl clip l), (9, vint l.length), (10, vint k)]) trivial (Bld.nil H 3 1 true) ?_ ?_)
  · exact .cons rfl rfl (.cons rfl rfl (.cons rfl rfl (.cons rfl rfl (.cons rfl rfl (.nil _)))))
  · intro k hk _ v H1 hB
    refine WpV.seq (WpV.regionE (by simp only [go_sem, reduceCtorEq, Nat.reduceAdd, Nat.reduceMul, Nat.reduceSub, Nat.reduceLT, Nat.reduceLeDiff, Nat.reduceEqDiff, Nat.reduceBEq, Nat.reducePow]; rfl) (Marks.nil _) ?_)
    simp only [Vthen, VinBlock, if_true, if_false, Nat.reduceEqDiff, reduceCtorEq]
    refine WpV.seq (WpV.cond rfl (fun hb => WpV.skip ?_) (fun hb => WpV.exit ?_))
    · have hlt : (k : Int) < (l.length : Int) := of_decide_eq_true ‹_›
      have hlt' : k < l.length := by omega
      have hg := ints_get l hlt'
      have hgd : l.getD k 0 = l[k] := by simp [List.getD_eq_getElem?_getD, hlt']
      have hbl := withoutN_len l ps k
      have hct := contains_any H1 nl2 clip2 ps hp (k : Int)
      simp only [Vthen, VinBlock, if_true, if_false, Nat.reduceEqDiff, reduceCtorEq]
      refine WpV.seq (WpV.block ?_)
      refine WpV.seq (WpV.regionE (by simp only [go_sem, reduceCtorEq, Nat.reduceAdd, Nat.reduceMul, Nat.reduceSub, Nat.reduceLT, Nat.reduceLeDiff, Nat.reduceEqDiff, Nat.reduceBEq, Nat.reducePow, hlt, hg]; rfl) (Marks.nil _) ?_)
      simp only [Vthen, VinBlock, if_true, if_false, Nat.reduceEqDiff, reduceCtorEq]
      cases hc : contB ps (k : Int)
      · rw [hc] at hct
        refine WpV.seq (WpV.region ?_)
        refine WpOps.take 2 (by simp only [go_sem, reduceCtorEq, Nat.reduceAdd, Nat.reduceMul, Nat.reduceSub, Nat.reduceLT, Nat.reduceLeDiff, Nat.reduceEqDiff, Nat.reduceBEq, Nat.reducePow]; rfl) ?_
        refine WpOps.step (by rfl) (by rfl) (OpW.callY rfl (by rfl) (by rfl) (by rfl) (enters_of Tryz.func101 (by kernel_rfl) rfl) ((hct).mono ?_))
        rintro _ _ ⟨rfl, hH⟩
        replace hH := hH.symm
        subst hH
        refine WpOps.take 1 (by simp only [go_sem, reduceCtorEq, Nat.reduceAdd, Nat.reduceMul, Nat.reduceSub, Nat.reduceLT, Nat.reduceLeDiff, Nat.reduceEqDiff, Nat.reduceBEq, Nat.reducePow]; rfl) (WpOps.nil ⟨Marks.nil _, ?_⟩)
        simp only [Vthen, VinBlock, if_true, if_false, Nat.reduceEqDiff, reduceCtorEq]
        refine WpV.cond rfl (fun hb => ?_) (fun hb => by cases hb)
        refine WpV.region ?_
        refine WpOps.take 3 (by simp only [go_sem, reduceCtorEq, Nat.reduceAdd, Nat.reduceMul, Nat.reduceSub, Nat.reduceLT, Nat.reduceLeDiff, Nat.reduceEqDiff, Nat.reduceBEq, Nat.reducePow]; rfl) ?_
        refine WpOps.step (by rfl) (by rfl) (OpW.appendB (m := 1) (ys := [vint l[k]]) rfl hB rfl rfl rfl (Tryz.el29 (by omega)) Tryz.underlying29 rfl rfl (by decide) (fun v' H' hB' => ?_))
        refine WpOps.take 1 (by simp only [go_sem, reduceCtorEq, Nat.reduceAdd, Nat.reduceMul, Nat.reduceSub, Nat.reduceLT, Nat.reduceLeDiff, Nat.reduceEqDiff, Nat.reduceBEq, Nat.reducePow]; rfl) (WpOps.nil ⟨Marks.nil _, ?_⟩)
        simp only [Vthen, VinBlock, if_true, if_false, Nat.reduceEqDiff, reduceCtorEq]
        refine WpV.regionE (by simp only [go_sem, reduceCtorEq, Nat.reduceAdd, Nat.reduceMul, Nat.reduceSub, Nat.reduceLT, Nat.reduceLeDiff, Nat.reduceEqDiff, Nat.reduceBEq, Nat.reducePow]; rfl) (Marks.nil _) ?_
        simp only [Vthen, VinBlock, if_true, if_false, Nat.reduceEqDiff, reduceCtorEq]
        refine ⟨by first | rfl | trivial, hlt', trivial, v', ?_, .cons rfl rfl (.cons rfl rfl (.cons rfl rfl (.cons rfl rfl (.cons rfl ?_ (.nil _)))))⟩
        · rw [withoutN_succ, hc, if_neg (by decide), hgd, List.length_append, List.map_append]; exact hB'
        · rw [wrap64 (by omega)]; rfl
      · rw [hc] at hct
        refine WpV.seq (WpV.region ?_)
        refine WpOps.take 2 (by simp only [go_sem, reduceCtorEq, Nat.reduceAdd, Nat.reduceMul, Nat.reduceSub, Nat.reduceLT, Nat.reduceLeDiff, Nat.reduceEqDiff, Nat.reduceBEq, Nat.reducePow]; rfl) ?_
        refine WpOps.step (by rfl) (by rfl) (OpW.callY rfl (by rfl) (by rfl) (by rfl) (enters_of Tryz.func101 (by kernel_rfl) rfl) ((hct).mono ?_))
        rintro _ _ ⟨rfl, hH⟩
        replace hH := hH.symm
        subst hH
        refine WpOps.take 1 (by simp only [go_sem, reduceCtorEq, Nat.reduceAdd, Nat.reduceMul, Nat.reduceSub, Nat.reduceLT, Nat.reduceLeDiff, Nat.reduceEqDiff, Nat.reduceBEq, Nat.reducePow]; rfl) (WpOps.nil ⟨Marks.nil _, ?_⟩)
        simp only [Vthen, VinBlock, if_true, if_false, Nat.reduceEqDiff, reduceCtorEq]
        refine WpV.cond rfl (fun hb => by cases hb) (fun hb => WpV.skip ?_)
        simp only [Vthen, VinBlock, if_true, if_false, Nat.reduceEqDiff, reduceCtorEq]
        refine WpV.regionE (by simp only [go_sem, reduceCtorEq, Nat.reduceAdd, Nat.reduceMul, Nat.reduceSub, Nat.reduceLT, Nat.reduceLeDiff, Nat.reduceEqDiff, Nat.reduceBEq, Nat.reducePow]; rfl) (Marks.nil _) ?_
        simp only [Vthen, VinBlock, if_true, if_false, Nat.reduceEqDiff, reduceCtorEq]
        refine ⟨by first | rfl | trivial, hlt', trivial, v, ?_, .cons rfl rfl (.cons rfl rfl (.cons rfl rfl (.cons rfl rfl (.cons rfl ?_ (.nil _)))))⟩
        · rw [withoutN_succ, hc, if_pos rfl, List.append_nil]; exact hB
        · rw [wrap64 (by omega)]; rfl
    · have hge : k = l.length := by have := of_decide_eq_false ‹_›; omega
      subst hge
      simp only [Vthen, VinBlock, if_true, if_false, Nat.reduceEqDiff, reduceCtorEq]
      refine WpV.seq (WpV.regionE (by simp only [go_sem, reduceCtorEq, Nat.reduceAdd, Nat.reduceMul, Nat.reduceSub, Nat.reduceLT, Nat.reduceLeDiff, Nat.reduceEqDiff, Nat.reduceBEq, Nat.reducePow]; rfl) (Marks.nil _) ?_)
      simp only [Vthen, VinBlock, if_true, if_false, Nat.reduceEqDiff, reduceCtorEq]
      refine WpV.pre (hB.frz (t := 4) rfl) (Marks.nil _) ?_
      refine WpV.ret ⟨Marks.nil _, List.nodup_nil, _, by simp only [Tryz.results92]; simp only [go_sem, reduceCtorEq, Nat.reduceAdd, Nat.reduceMul, Nat.reduceSub, Nat.reduceLT, Nat.reduceLeDiff, Nat.reduceEqDiff, Nat.reduceBEq, Nat.reducePow]; rfl, ?_⟩
      exact ⟨rfl, rfl⟩
end Go.Proofs.YtaekibilldjnmaaGreat
namespace Go.Proofs.YtaekibilldjnmaaGreat
open Go.Proofs

def setsF (n s : Nat) : List (List Int) := combs (numsF 0 n) s []
/-- The first of all lists of places, shorter ones first. -/
def fewestF (l : List Int) (p : List Int → Bool) : Option (List Int) := (List.range (l.length + 1)).findSome? fun s => (setsF l.length s).find? fun b => p (withoutF l b)
theorem combs_len : ∀ (l : List Int) (s : Nat) (b x : List Int), x ∈ combs l s b → x.length = b.length + s
  | l, 0, b, x, h => by rw [combs_zero] at h; simp at h; subst h; rfl
  | [], s + 1, b, x, h => by simp [combs] at h
  | y :: l, s + 1, b, x, h => by
    rw [combs, List.mem_append] at h
    rcases h with h | h
    · have := combs_len l s (b ++ [y]) x h; simp at this; omega
    · exact combs_len l (s + 1) b x h

theorem Seqs.sets (nl clip : Bool) (l : List Int) (s : Nat) (hl : l.length < 1000000) (hs : s < 1000000) : Seqs Tryz.prog 107 [] [.cp [vints nl clip l] 0, .cp [vint s] 0] (itemsB (combs l s [])) :=
  fun y J Dn H _ hy hJ => sets_run y J Dn hy s l [] H nl clip hl hs (by rw [List.append_nil]; exact hJ)

/-- What a condition on lists is, told as a call. -/
def Wants (g : FuncId) (gs cs : List AV) (p : List Int → Bool) (l : List Int) : Prop := EntersF Tryz.prog g ∧ ∀ (b : List Int) (H : Hp), CallV Tryz.prog g (gs ++ [selfV (withoutF l b)] ++ cs) H (fun r H' => r = .bool (p (withoutF l b)) ∧ H' = H)

/-- What a find gives, as the items go by. -/
theorem find_go {α : Type} (p : α → Bool) (done rest : List α) (x : α) (h : ∀ y ∈ done, p y = false) (hx : p x = true) : (done ++ x :: rest).find? p = some x := by
  rw [List.find?_append, List.find?_eq_none.2 (fun y hy => by rw [h y hy]; decide)]
  simp [hx]
theorem findSome_go {α β : Type} (f : α → Option β) : ∀ (l : List α) (k : Nat) (hk : k < l.length) (b : β), (∀ j (hj : j < l.length), j < k → f l[j] = none) → f l[k] = some b → l.findSome? f = some b
  | [], k, hk, _, _, _ => by simp at hk
  | x :: l, 0, hk, b, _, h => by rw [List.findSome?_cons]; simp only [List.getElem_cons_zero] at h; rw [h]
  | x :: l, k + 1, hk, b, h0, h => by
    rw [List.findSome?_cons, show f x = none from h0 0 (by simp) (by omega)]
    exact findSome_go f l k (by simpa using hk) b (fun j hj hjk => h0 (j + 1) (by simpa using hj) (by omega)) (by simpa using h)

def resF (x : Option (List Int)) : AV := match x with | some b => .tup [rowB b, .bool true] | none => .tup [.sl true true 0 [], .bool false]

set_option maxHeartbeats 2000000 in
theorem fewest_any (H : Hp) (nl clip : Bool) (l : List Int) (hl : l.length < 100000) (g : FuncId) (gs cs : List AV) (p : List Int → Bool) (hw : Wants g gs cs p l) :
    CallV Tryz.prog 70 [vints nl clip l, .fn (.func g) gs cs] H (fun r H' => r = resF (fewestF l p) ∧ H' = H) := by
  refine CallV.body Tryz.func70 rfl Tryz.ntmps70 (by rfl) ?_
  refine WpV.seq (WpV.region ?_)
  refine WpOps.take 2 (by simp only [go_sem, reduceCtorEq, Nat.reduceAdd, Nat.reduceMul, Nat.reduceSub, Nat.reduceLT, Nat.reduceLeDiff, Nat.reduceEqDiff, Nat.reduceBEq, Nat.reducePow]; rfl) ?_
  refine WpOps.step (by rfl) (by rfl) (OpW.alloc rfl (Tryz.ze29) (fun i4 h4 => ?_))
  refine WpOps.step (by rfl) (by rfl) (OpW.alloc rfl (Tryz.ze4) (fun i5 h5 => ?_))
  obtain ⟨n54, h5'⟩ := fresh_ne h5
  refine WpOps.nil ⟨Marks.nil _, ?_⟩
  simp only [Vthen, VinBlock, if_true, if_false, Nat.reduceEqDiff, reduceCtorEq]
  have hw1 : IntKind.i64.wrap ((l.length : Int) + 1) = ((l.length + 1 : Nat) : Int) := by rw [wrap64 (by omega)]; omega
  refine WpV.seq ?_
  refine WpV.seq (WpV.regionE (by simp only [go_sem, reduceCtorEq, Nat.reduceAdd, Nat.reduceMul, Nat.reduceSub, Nat.reduceLT, Nat.reduceLeDiff, Nat.reduceEqDiff, Nat.reduceBEq, Nat.reducePow, hw1]; rfl) (Marks.nil _) ?_)
  simp only [Vthen, VinBlock, if_true, if_false, Nat.reduceEqDiff, reduceCtorEq]
  generalize hB : (H.set i4 (some (.cells 29 0 [.sl true true 0 []]))).set i5 (some (.cells 4 0 [.bool false])) = B
  have hB4 : B i4 = some (.cells 29 0 [.sl true true 0 []]) := by rw [← hB, Hp.set_ne _ _ n54.symm, Hp.set_eq]
  have hB5 : B i5 = some (.cells 4 0 [.bool false]) := by rw [← hB, Hp.set_eq]
  have hback : ∀ x y, ((B.set i4 x).set i5 y).set i4 none = ((H.set i5 y)) ∧ (H.set i5 y).set i5 none = H := by
    intro x y
    refine ⟨?_, by rw [Hp.set_set, Hp.set_same _ _ _ h5']⟩
    rw [← hB]
    funext k
    simp only [Hp.set]
    by_cases e5 : k = i5
    · subst e5; simp [n54]
    · by_cases e4 : k = i4
      · subst e4; simp [e5, h4]
      · simp [e4, e5]
  have fin : ∀ (Q : Exit → Fr → List Nat → Hp → Prop) (ro : Option Nat) (fr : Fr) (D : List Nat) (H' : Hp) (x y : AV), (∀ fr D H', RetV Tryz.prog Tryz.f70 (fun r H' => r = resF (fewestF l p) ∧ H' = H) .ret fr D H' → Q .ret fr D H') → fr.get 4 = some (.rp i4 0 0) → fr.get 5 = some (.rp i5 0 0) → MarksOn D ((B.set i4 (some (.cells 29 0 [x]))).set i5 (some (.cells 4 0 [y]))) H' → .tup [x, y] = resF (fewestF l p) →
      WpV Tryz.prog ro 28 .ret Q fr D H' := by
    intro Q ro fr D H' x y hQ hf4 hf5 hM he
    have hg4 := hM.get (k := i4) (o := .cells 29 0 [x]) (by rw [Hp.set_ne _ _ n54.symm, Hp.set_eq])
    have hM1 := hM.set (k := i4) (o := .cells 29 0 [x]) none (by rw [Hp.set_ne _ _ n54.symm, Hp.set_eq])
    have e5 : (((B.set i4 (some (.cells 29 0 [x]))).set i5 (some (.cells 4 0 [y]))).set i4 none) i5 = some (.cells 4 0 [y]) := by rw [Hp.set_ne _ _ n54, Hp.set_eq]
    have hg5 := hM1.get (k := i5) e5
    have hM2 := hM1.set (k := i5) none e5
    refine WpV.pre (Frz.ptr (t := 4) hf4 hg4.1) hM1.marks.1 ?_
    refine WpV.pre (Frz.ptr (t := 5) (id := i5) (ver := 0) (off := 0) (by simp only [Fr.get]; rw [if_neg (by decide)]; exact hf5) hg5.1) hM2.marks.1 ?_
    refine WpV.ret (hQ _ _ _ ⟨hM2.marks.1, hM2.marks.2, .tup [x, y], ?_, he, ?_⟩)
    · simp only [Tryz.results70]; simp only [go_sem, reduceCtorEq, Nat.reduceAdd, Nat.reduceMul, Nat.reduceSub, Nat.reduceLT, Nat.reduceLeDiff, Nat.reduceEqDiff, Nat.reduceBEq, Nat.reducePow]
    · rw [hM2.kill, (hback _ _).1, (hback none (some (.cells 4 0 [y]))).2]
  refine WpV.block (WpV.loopD (ι := { q : Nat × List Nat × Hp // q.1 ≤ l.length + 1 ∧ MarksOn q.2.1 B q.2.2 ∧ ∀ s, s < q.1 → (setsF l.length s).find? (fun b => p (withoutF l b)) = none })
    (fun q => [(2, .cp [vints nl clip l] 0), (3, .cp [.fn (.func g) gs cs] 0), (4, .rp i4 0 0), (5, .rp i5 0 0), (10, vint ((l.length + 1 : Nat) : Int)), (11, vint q.1.1)]) (fun q => q.1.2.2) (fun q => q.1.2.1) (fun q => l.length + 1 - q.1.1) ⟨(0, [], B), Nat.zero_le _, rfl, fun s hs => absurd hs (Nat.not_lt_zero _)⟩ ?_ rfl rfl ?_)
  · exact Sub.cons rfl rfl (Sub.cons rfl rfl (Sub.cons rfl rfl (Sub.cons rfl rfl (Sub.cons rfl rfl (Sub.cons rfl rfl (Sub.nil _))))))
  rintro ⟨⟨k, D, H1⟩, hk, hM, hno⟩
  simp only at hk hM hno ⊢
  refine WpV.seq (WpV.regionE (by simp only [go_sem, reduceCtorEq, Nat.reduceAdd, Nat.reduceMul, Nat.reduceSub, Nat.reduceLT, Nat.reduceLeDiff, Nat.reduceEqDiff, Nat.reduceBEq, Nat.reducePow]; rfl) (hM.marks.1) ?_)
  simp only [Vthen, VinBlock, if_true, if_false, Nat.reduceEqDiff, reduceCtorEq]
  refine WpV.seq (WpV.cond rfl (fun hb => WpV.skip ?_) (fun hb => WpV.exit ?_))
  · have hlt : (k : Int) < ((l.length + 1 : Nat) : Int) := of_decide_eq_true ‹_›
    have hlt' : k < l.length + 1 := by omega
    simp only [Vthen, VinBlock, if_true, if_false, Nat.reduceEqDiff, reduceCtorEq]
    refine WpV.seq (WpV.block ?_)
    refine WpV.seq (WpV.regionE (by simp only [go_sem, reduceCtorEq, Nat.reduceAdd, Nat.reduceMul, Nat.reduceSub, Nat.reduceLT, Nat.reduceLeDiff, Nat.reduceEqDiff, Nat.reduceBEq, Nat.reducePow]; rfl) (hM.marks.1) ?_)
    simp only [Vthen, VinBlock, if_true, if_false, Nat.reduceEqDiff, reduceCtorEq]
    refine WpV.seq (WpV.region ?_)
    refine WpOps.take 3 (by simp only [go_sem, reduceCtorEq, Nat.reduceAdd, Nat.reduceMul, Nat.reduceSub, Nat.reduceLT, Nat.reduceLeDiff, Nat.reduceEqDiff, Nat.reduceBEq, Nat.reducePow]; rfl) ?_
    refine WpOps.step (by rfl) (by rfl) (OpW.callY rfl (by rfl) (by rfl) (by rfl) (enters_of Tryz.func91 (by kernel_rfl) rfl) ((numbers_any H1 0 _ l.length (by omega) (by omega) (by rw [wrap64 (by omega)]; omega)).mono ?_))
    rintro _ _ ⟨rfl, hH⟩
    replace hH := hH.symm
    subst hH
    refine WpOps.take 1 (by simp only [go_sem, reduceCtorEq, Nat.reduceAdd, Nat.reduceMul, Nat.reduceSub, Nat.reduceLT, Nat.reduceLeDiff, Nat.reduceEqDiff, Nat.reduceBEq, Nat.reducePow]; rfl) ?_
    refine WpOps.step (by rfl) (by rfl) (OpW.callY rfl (by rfl) (by rfl) (by rfl) (enters_of Tryz.func90 (by kernel_rfl) rfl) ((sets_any H1 _ _ _ k).mono ?_))
    rintro _ _ ⟨rfl, hH⟩
    replace hH := hH.symm
    subst hH
    refine WpOps.nil ⟨hM.marks.1, ?_⟩
    simp only [Vthen, VinBlock, if_true, if_false, Nat.reduceEqDiff, reduceCtorEq]
    refine WpV.block (WpV.rangeS (items := itemsB (setsF l.length k)) rfl (enters_of Tryz.func107 (by kernel_rfl) rfl) hM.marks.1 (by rfl) (Seqs.sets _ _ _ _ (by rw [numsF_len]; omega) (by omega)) ?_)
    intro idm idl hne hm0 hl0
    have hMm : MarksOn (idm :: D) B (H1.set idm (some .mark)) := ⟨H1, hM, hm0, rfl⟩
    generalize hHm : H1.set idm (some .mark) = Hm at hMm
    have g4 := (hMm.get hB4).1
    have g5 := (hMm.get hB5).1
    refine ⟨fun rest H' => H' = Hm ∧ ∃ done todo, setsF l.length k = done ++ todo ∧ rest = itemsB todo ∧ ∀ b ∈ done, p (withoutF l b) = false,
      fun c H' => c = .ret ∧ ∃ b, fewestF l p = some b ∧ H' = (Hm.set i4 (some (.cells 29 0 [rowB b]))).set i5 (some (.cells 4 0 [.bool true])), ⟨rfl, [], _, rfl, rfl, by simp⟩, ?_, ?_, ?_⟩
    · rintro D0 x rest Bx Hx hx hMx ⟨he, done, todo, e1, e2, e3⟩
      rw [he] at hMx
      cases todo with
      | nil => simp at e2
      | cons b todo =>
        simp only [itemsB, List.map_cons, List.cons.injEq] at e2
        obtain ⟨rfl, rfl⟩ := e2
        have hbl : b.length = k := by
          have := combs_len (numsF 0 l.length) k [] b (by rw [show combs (numsF 0 l.length) k [] = setsF l.length k from rfl, e1]; simp)
          simpa using this
        have x4 := set_none_get (hMx.get g4)
        have x5 := set_none_get (hMx.get g5)
        refine ⟨rfl, ?_⟩
        show WpV Tryz.prog (some idl) 28 _ _ ((20, rowB b) :: _) [] Hx
        refine WpV.regionE (by simp only [go_sem, reduceCtorEq, Nat.reduceAdd, Nat.reduceMul, Nat.reduceSub, Nat.reduceLT, Nat.reduceLeDiff, Nat.reduceEqDiff, Nat.reduceBEq, Nat.reducePow]; rfl) (Marks.nil _) ?_
        simp only [Vthen, VinBlock, if_true, if_false, Nat.reduceEqDiff, reduceCtorEq]
        refine ⟨none, hx, WpV.block ?_⟩
        generalize hHb : Hx.set idl _ = Hb
        have y4 : Hb i4 = some (.cells 29 0 [.sl true true 0 []]) := by rw [← hHb, Hp.set_ne _ _ x4.1]; exact x4.2
        have y5 : Hb i5 = some (.cells 4 0 [.bool false]) := by rw [← hHb, Hp.set_ne _ _ x5.1]; exact x5.2
        have yl := Hp.set_eq Hx idl
        refine WpV.seq (WpV.regionD Tryz.mixed (by kernel_rfl) (by kernel_rfl) ?_)
        refine LexD.take 3 (by rfl) (by simp only [go_sem, reduceCtorEq, Nat.reduceAdd, Nat.reduceMul, Nat.reduceSub, Nat.reduceLT, Nat.reduceLeDiff, Nat.reduceEqDiff, Nat.reduceBEq, Nat.reducePow]; rfl) ?_
        refine LexD.step (by rfl) (by rfl) (OpW.callY rfl (by rfl) (by rfl) (by rfl) (enters_of Tryz.func92 (by kernel_rfl) rfl) (without_any Hb nl clip b.isEmpty b.isEmpty l b (by omega) (by omega))) ?_
        refine LexD.step (by rfl) (by rfl) (OpW.callY rfl (by rfl) (by rfl) (by rfl) hw.1 (hw.2 b Hb)) ?_
        refine LexD.nilE ⟨Marks.nil _, ?_⟩
        simp only [Vthen, VinBlock, if_true, if_false, Nat.reduceEqDiff, reduceCtorEq]
        refine WpV.cond rfl (fun hpb => ?_) (fun hpb => WpV.skip ?_)
        · refine WpV.seq (WpV.region ?_)
          refine WpOps.take 1 (by simp only [go_sem, reduceCtorEq, Nat.reduceAdd, Nat.reduceMul, Nat.reduceSub, Nat.reduceLT, Nat.reduceLeDiff, Nat.reduceEqDiff, Nat.reduceBEq, Nat.reducePow]; rfl) ?_
          refine WpOps.step (by rfl) (by rfl) (OpW.store (ty := 29) (id := i4) (ver := 0) (off := 0) rfl (by simp only [go_sem, reduceCtorEq, Nat.reduceAdd, Nat.reduceMul, Nat.reduceSub, Nat.reduceLT, Nat.reduceLeDiff, Nat.reduceEqDiff, Nat.reduceBEq, Nat.reducePow]) (by simp only [go_sem, reduceCtorEq, Nat.reduceAdd, Nat.reduceMul, Nat.reduceSub, Nat.reduceLT, Nat.reduceLeDiff, Nat.reduceEqDiff, Nat.reduceBEq, Nat.reducePow]; try rfl) y4 (by simp only [go_sem, reduceCtorEq, Nat.reduceAdd, Nat.reduceMul, Nat.reduceSub, Nat.reduceLT, Nat.reduceLeDiff, Nat.reduceEqDiff, Nat.reduceBEq, Nat.reducePow]; try rfl) (by exact Tryz.sz29) (by simp) ?_)
          refine WpOps.step (by rfl) (by rfl) (OpW.store (ty := 4) (id := i5) (ver := 0) (off := 0) rfl (by simp only [go_sem, reduceCtorEq, Nat.reduceAdd, Nat.reduceMul, Nat.reduceSub, Nat.reduceLT, Nat.reduceLeDiff, Nat.reduceEqDiff, Nat.reduceBEq, Nat.reducePow]) (by simp only [go_sem, reduceCtorEq, Nat.reduceAdd, Nat.reduceMul, Nat.reduceSub, Nat.reduceLT, Nat.reduceLeDiff, Nat.reduceEqDiff, Nat.reduceBEq, Nat.reducePow]; try rfl) (by rw [Hp.set_ne _ _ n54]; exact y5) (by simp only [go_sem, reduceCtorEq, Nat.reduceAdd, Nat.reduceMul, Nat.reduceSub, Nat.reduceLT, Nat.reduceLeDiff, Nat.reduceEqDiff, Nat.reduceBEq, Nat.reducePow]; try rfl) (by exact Tryz.sz4) (by simp) ?_)
          simp only [go_sem, reduceCtorEq, Nat.reduceAdd, Nat.reduceMul, Nat.reduceSub, Nat.reduceLT, Nat.reduceLeDiff, Nat.reduceEqDiff, Nat.reduceBEq, Nat.reducePow]
          refine WpOps.nil ⟨Marks.nil _, ?_⟩
          simp only [Vthen, VinBlock, if_true, if_false, Nat.reduceEqDiff, reduceCtorEq]
          refine WpV.ret ⟨⟨none, ?_⟩, _, ?_, rfl, b, ?_, rfl⟩
          · rw [Hp.set_ne _ _ x5.1.symm, Hp.set_ne _ _ x4.1.symm, ← hHb]; exact yl _
          · rw [Hp.set_comm _ _ _ x5.1, Hp.set_comm _ _ _ x4.1, ← hHb, Hp.set_set]
            exact (hMx.set (some (.cells 29 0 [rowB b])) g4).set (k := i5) (o := .cells 4 0 [.bool false]) (some (.cells 4 0 [.bool true])) (by rw [Hp.set_ne _ _ n54]; exact g5)
          · unfold fewestF
            refine findSome_go _ _ k (by simpa using hlt') b (fun j hj hjk => ?_) ?_
            · rw [List.getElem_range]; exact hno j hjk
            · rw [List.getElem_range, e1]; exact find_go _ done todo b e3 hpb
        · refine ⟨⟨none, by rw [← hHb]; exact yl _⟩, Hm, by rw [← hHb, Hp.set_set]; exact hMx, rfl, done ++ [b], todo, by rw [e1]; simp, rfl, fun b' hb' => ?_⟩
          rcases List.mem_append.1 hb' with h | h
          · exact e3 b' h
          · have : b' = b := by simpa using h
            rw [this]; exact hpb
    · rintro H' ⟨rfl, done, todo, e1, e2, e3⟩
      have e4 : todo = [] := by cases todo with
        | nil => rfl
        | cons b todo => simp at e2
      subst e4
      refine ⟨hMm.marks.1, ?_⟩
      simp only [Vthen, VinBlock, if_true, if_false, Nat.reduceEqDiff, reduceCtorEq]
      refine WpV.regionE (by simp only [go_sem, reduceCtorEq, Nat.reduceAdd, Nat.reduceMul, Nat.reduceSub, Nat.reduceLT, Nat.reduceLeDiff, Nat.reduceEqDiff, Nat.reduceBEq, Nat.reducePow]; rfl) (hMm.marks.1) ?_
      simp only [Vthen, VinBlock, if_true, if_false, Nat.reduceEqDiff, reduceCtorEq]
      refine ⟨⟨(k + 1, idm :: D, H'), by simp only; omega, hMm, fun s hs => ?_⟩, by simp only; omega, Sub.cons rfl rfl (Sub.cons rfl rfl (Sub.cons rfl rfl (Sub.cons rfl rfl (Sub.cons rfl rfl (Sub.cons rfl ?_ (Sub.nil _)))))), rfl, rfl⟩
      · by_cases e : s = k
        · subst e
          rw [e1, List.append_nil]
          exact List.find?_eq_none.2 fun b hb => by rw [e3 b hb]; decide
        · exact hno s (by simp only at hs; omega)
      · rw [wrap64 (by omega)]; rfl
    · rintro c H' ⟨rfl, b, hfb, rfl⟩
      have hM3 := (hMm.set (k := i4) (some (.cells 29 0 [rowB b])) hB4).set (k := i5) (o := .cells 4 0 [.bool false]) (some (.cells 4 0 [.bool true])) (by rw [Hp.set_ne _ _ n54]; exact hB5)
      refine ⟨hM3.marks.1, fin _ none _ _ _ (rowB b) (.bool true) (fun fr D H' h => ?_) rfl rfl hM3 (by rw [hfb]; rfl)⟩
      simp only [Vthen, VinBlock]
      exact h
  · have hge : k = l.length + 1 := by have := of_decide_eq_false ‹_›; omega
    subst hge
    have g4 := (hM.get hB4).1
    have g5 := (hM.get hB5).1
    simp only [Vthen, VinBlock, if_true, if_false, Nat.reduceEqDiff, reduceCtorEq]
    refine WpV.seq (WpV.region ?_)
    refine WpOps.step (by rfl) (by rfl) (OpW.store (ty := 29) (id := i4) (ver := 0) (off := 0) rfl (by simp only [go_sem, reduceCtorEq, Nat.reduceAdd, Nat.reduceMul, Nat.reduceSub, Nat.reduceLT, Nat.reduceLeDiff, Nat.reduceEqDiff, Nat.reduceBEq, Nat.reducePow]) (by simp only [go_sem, reduceCtorEq, Nat.reduceAdd, Nat.reduceMul, Nat.reduceSub, Nat.reduceLT, Nat.reduceLeDiff, Nat.reduceEqDiff, Nat.reduceBEq, Nat.reducePow]; try rfl) g4 (by simp only [go_sem, reduceCtorEq, Nat.reduceAdd, Nat.reduceMul, Nat.reduceSub, Nat.reduceLT, Nat.reduceLeDiff, Nat.reduceEqDiff, Nat.reduceBEq, Nat.reducePow]; try rfl) (by exact Tryz.sz29) (by simp) ?_)
    refine WpOps.step (by rfl) (by rfl) (OpW.store (ty := 4) (id := i5) (ver := 0) (off := 0) rfl (by simp only [go_sem, reduceCtorEq, Nat.reduceAdd, Nat.reduceMul, Nat.reduceSub, Nat.reduceLT, Nat.reduceLeDiff, Nat.reduceEqDiff, Nat.reduceBEq, Nat.reducePow]) (by simp only [go_sem, reduceCtorEq, Nat.reduceAdd, Nat.reduceMul, Nat.reduceSub, Nat.reduceLT, Nat.reduceLeDiff, Nat.reduceEqDiff, Nat.reduceBEq, Nat.reducePow]; try rfl) (by rw [Hp.set_ne _ _ n54]; exact g5) (by simp only [go_sem, reduceCtorEq, Nat.reduceAdd, Nat.reduceMul, Nat.reduceSub, Nat.reduceLT, Nat.reduceLeDiff, Nat.reduceEqDiff, Nat.reduceBEq, Nat.reducePow]; try rfl) (by exact Tryz.sz4) (by simp) ?_)
    simp only [go_sem, reduceCtorEq, Nat.reduceAdd, Nat.reduceMul, Nat.reduceSub, Nat.reduceLT, Nat.reduceLeDiff, Nat.reduceEqDiff, Nat.reduceBEq, Nat.reducePow]
    have hM3 := (hM.set (k := i4) (some (.cells 29 0 [.sl true true 0 []])) hB4).set (k := i5) (o := .cells 4 0 [.bool false]) (some (.cells 4 0 [.bool false])) (by rw [Hp.set_ne _ _ n54]; exact hB5)
    refine WpOps.nil ⟨hM3.marks.1, ?_⟩
    simp only [Vthen, VinBlock, if_true, if_false, Nat.reduceEqDiff, reduceCtorEq]
    refine fin _ none _ _ _ (.sl true true 0 []) (.bool false) (fun fr D H' h => h) rfl rfl hM3 ?_
    have : fewestF l p = none := by
      unfold fewestF
      rw [List.findSome?_eq_none_iff]
      intro s hs
      exact hno s (by have := List.mem_range.1 hs; omega)
    rw [this]; rfl
end Go.Proofs.YtaekibilldjnmaaGreat
