/- Sets of so many numbers of a list. Numbers in order; what is left without some places. The fewest places without which the rest is as wanted. 'Left', 'Wrong'. 'Widest'; what 'Lines' and 'Pick' check; the lists of plates. The lists of plates, one after another. -/
import Derived.Test.YtaekibilldjnmaaGreatMaAF
set_option linter.unusedVariables false
set_option linter.unusedSimpArgs false
set_option linter.unusedSectionVars false
namespace Go.Proofs.YtaekibilldjnmaaGreat
open Go.Proofs

abbrev rowB (b : List Int) : AV := vints b.isEmpty b.isEmpty b
/-- The lists that begin so, and go on with so many numbers of a list. -/
def combs : List Int → Nat → List Int → List (List Int)
  | _, 0, b => [b]
  | [], _ + 1, _ => []
  | x :: l, s + 1, b => combs l s (b ++ [x]) ++ combs l (s + 1) b
theorem combs_zero (l b : List Int) : combs l 0 b = [b] := by cases l <;> rfl
theorem combs_drop (l : List Int) {k : Nat} (hk : k < l.length) (s : Nat) (b : List Int) : combs (l.drop k) (s + 1) b = combs (l.drop (k + 1)) s (b ++ [l[k]]) ++ combs (l.drop (k + 1)) (s + 1) b := by
  rw [List.drop_eq_getElem_cons hk]; rfl
abbrev itemsB (bs : List (List Int)) : List (List AV) := bs.map fun b => [rowB b]

set_option maxHeartbeats 1000000 in
theorem longer_any (y : AV) (J : List (List AV) → Hp → Prop) (Dn : Hp → Prop) (hy : Eats Tryz.prog y J Dn) : ∀ (s : Nat) (l b : List Int) (rest : List (List AV)) (H : Hp) (nl clip : Bool), l.length < 1000000 → b.length + s < 1000000 → J (itemsB (combs l s b) ++ rest) H →
    CallV Tryz.prog 108 [rowB b, vints nl clip l, vint s, y] H (Went J Dn rest)
  | 0, l, b, rest, H, nl, clip, hl, hb, hJ => by
    rw [combs_zero] at hJ
    refine CallV.body Tryz.func108 rfl Tryz.ntmps108 (by rfl) ?_
    refine WpV.seq (WpV.regionE (by simp only [go_sem, reduceCtorEq, Nat.reduceAdd, Nat.reduceMul, Nat.reduceSub, Nat.reduceLT, Nat.reduceLeDiff, Nat.reduceEqDiff, Nat.reduceBEq, Nat.reducePow]; rfl) (Marks.nil _) ?_)
    simp only [Vthen, VinBlock, if_true, if_false, Nat.reduceEqDiff, reduceCtorEq]
    refine WpV.seq ?_
    refine WpV.seq (WpV.regionE (by simp only [go_sem, reduceCtorEq, Nat.reduceAdd, Nat.reduceMul, Nat.reduceSub, Nat.reduceLT, Nat.reduceLeDiff, Nat.reduceEqDiff, Nat.reduceBEq, Nat.reducePow]; rfl) (Marks.nil _) ?_)
    simp only [Vthen, VinBlock, if_true, if_false, Nat.reduceEqDiff, reduceCtorEq]
    refine WpV.cond rfl (fun hb => ?_) (fun hb => by cases hb)
    refine WpV.seq (WpV.region ?_)
    refine WpOps.take 2 (by simp only [go_sem, reduceCtorEq, Nat.reduceAdd, Nat.reduceMul, Nat.reduceSub, Nat.reduceLT, Nat.reduceLeDiff, Nat.reduceEqDiff, Nat.reduceBEq, Nat.reducePow]; rfl) ?_
    refine WpOps.step (by rfl) (by rfl) (OpW.mono (hy.now hJ _ _ (.tmp 13) #[.tmp 14] #[29] (by rfl) (by rfl) (by rfl)) ?_)
    rintro r H' hw
    refine WpOps.take 1 (by simp only [go_sem, reduceCtorEq, Nat.reduceAdd, Nat.reduceMul, Nat.reduceSub, Nat.reduceLT, Nat.reduceLeDiff, Nat.reduceEqDiff, Nat.reduceBEq, Nat.reducePow]; rfl) (WpOps.nil ⟨Marks.nil _, ?_⟩)
    simp only [Vthen, VinBlock, if_true, if_false, Nat.reduceEqDiff, reduceCtorEq]
    refine WpV.ret ⟨Marks.nil _, List.nodup_nil, _, by simp only [Tryz.results108]; simp only [go_sem, reduceCtorEq, Nat.reduceAdd, Nat.reduceMul, Nat.reduceSub, Nat.reduceLT, Nat.reduceLeDiff, Nat.reduceEqDiff, Nat.reduceBEq, Nat.reducePow]; rfl, ?_⟩
    exact hw
  | s + 1, l, b, rest, H, nl, clip, hl, hb, hJ => by
    have hs0 : (((s + 1 : Nat) : Int) == 0) = false := by simp; omega
    have hwb : (b ++ [0]).isEmpty = false := by simp
    refine CallV.body Tryz.func108 rfl Tryz.ntmps108 (by rfl) ?_
    refine WpV.seq (WpV.regionE (by simp only [go_sem, reduceCtorEq, Nat.reduceAdd, Nat.reduceMul, Nat.reduceSub, Nat.reduceLT, Nat.reduceLeDiff, Nat.reduceEqDiff, Nat.reduceBEq, Nat.reducePow]; rfl) (Marks.nil _) ?_)
    simp only [Vthen, VinBlock, if_true, if_false, Nat.reduceEqDiff, reduceCtorEq]
    refine WpV.seq ?_
    refine WpV.seq (WpV.regionE (by simp only [go_sem, reduceCtorEq, Nat.reduceAdd, Nat.reduceMul, Nat.reduceSub, Nat.reduceLT, Nat.reduceLeDiff, Nat.reduceEqDiff, Nat.reduceBEq, Nat.reducePow, hs0]; rfl) (Marks.nil _) ?_)
    simp only [Vthen, VinBlock, if_true, if_false, Nat.reduceEqDiff, reduceCtorEq]
    refine WpV.cond rfl (fun hb => by cases hb) (fun hb => WpV.skip ?_)
    simp only [Vthen, VinBlock, if_true, if_false, Nat.reduceEqDiff, reduceCtorEq]
    refine WpV.seq ?_
    refine WpV.seq (WpV.regionE (by simp only [go_sem, reduceCtorEq, Nat.reduceAdd, Nat.reduceMul, Nat.reduceSub, Nat.reduceLT, Nat.reduceLeDiff, Nat.reduceEqDiff, Nat.reduceBEq, Nat.reducePow]; rfl) (Marks.nil _) ?_)
    simp only [Vthen, VinBlock, if_true, if_false, Nat.reduceEqDiff, reduceCtorEq]
    refine WpV.block (WpV.loopJ l.length (fun k H => J (itemsB (combs (l.drop k) (s + 1) b) ++ rest) H) (fun k => [(0, rowB b), (1, vints nl clip l), (2, vint ((s + 1 : Nat) : Int)), (3, y), (16, vints nl clip l), (17, vint l.length), (18, vint k)]) hJ ?_ ?_)
    · exact .cons rfl rfl (.cons rfl rfl (.cons rfl rfl (.cons rfl rfl (.cons rfl rfl (.cons rfl rfl (.cons rfl rfl (.nil _)))))))
    · intro k hk H1 hJ1
      refine WpV.seq (WpV.regionE (by simp only [go_sem, reduceCtorEq, Nat.reduceAdd, Nat.reduceMul, Nat.reduceSub, Nat.reduceLT, Nat.reduceLeDiff, Nat.reduceEqDiff, Nat.reduceBEq, Nat.reducePow]; rfl) (Marks.nil _) ?_)
      simp only [Vthen, VinBlock, if_true, if_false, Nat.reduceEqDiff, reduceCtorEq]
      refine WpV.seq (WpV.cond rfl (fun hb => WpV.skip ?_) (fun hb => WpV.exit ?_))
      · have hlt : (k : Int) < (l.length : Int) := of_decide_eq_true ‹_›
        have hlt' : k < l.length := by omega
        have hg := ints_get l hlt'
        have hw1 : IntKind.i64.wrap ((k : Int) + 1) = ((k + 1 : Nat) : Int) := by rw [wrap64 (by omega)]; omega
        have h0 : (0 : Int) ≤ ((k + 1 : Nat) : Int) := by omega
        have hto : (((k + 1 : Nat) : Int)).toNat = k + 1 := Int.toNat_natCast _
        have hle : k + 1 ≤ l.length := by omega
        have hws : IntKind.i64.wrap (((s + 1 : Nat) : Int) - 1) = (s : Int) := by rw [wrap64 (by omega)]; omega
        rw [combs_drop l hlt' s b] at hJ1
        have hdl : (l.drop (k + 1)).length = l.length - (k + 1) := by simp
        have hdc : List.take (l.length - (k + 1)) (List.drop (k + 1) (l.map vint)) = (l.drop (k + 1)).map vint := by
          rw [List.take_of_length_le (by simp), List.map_drop]
        have hrb : rowB (b ++ [l[k]]) = vints false false (b ++ [l[k]]) := by simp [rowB]
        have hrec : ∀ clip', CallV Tryz.prog 108 [vints false false (b ++ [l[k]]), .sl nl clip' (l.length - (k + 1)) ((l.drop (k + 1)).map vint), vint s, y] H1 (Went J Dn (itemsB (combs (l.drop (k + 1)) (s + 1) b) ++ rest)) := fun clip' => by
          have h := longer_any y J Dn hy s (l.drop (k + 1)) (b ++ [l[k]]) (itemsB (combs (l.drop (k + 1)) (s + 1) b) ++ rest) H1 nl clip' (by simp; omega) (by simp; omega) (by
            rw [← List.append_assoc, ← List.map_append]; exact hJ1)
          rw [hrb] at h
          have e : vints nl clip' (l.drop (k + 1)) = AV.sl nl clip' (l.length - (k + 1)) ((l.drop (k + 1)).map vint) := by rw [← hdl]
          rw [e] at h
          exact h
        simp only [Vthen, VinBlock, if_true, if_false, Nat.reduceEqDiff, reduceCtorEq]
        refine WpV.seq (WpV.block ?_)
        refine WpV.seq (WpV.regionE (by simp only [go_sem, reduceCtorEq, Nat.reduceAdd, Nat.reduceMul, Nat.reduceSub, Nat.reduceLT, Nat.reduceLeDiff, Nat.reduceEqDiff, Nat.reduceBEq, Nat.reducePow, hlt, hg]; rfl) (Marks.nil _) ?_)
        simp only [Vthen, VinBlock, if_true, if_false, Nat.reduceEqDiff, reduceCtorEq]
        refine WpV.seq (WpV.regionTN 10 Tryz.mixed (by kernel_rfl) (by kernel_rfl) (by kernel_rfl) ?_)
        refine LexD.take 2 (by rfl) (by simp only [go_sem, reduceCtorEq, Nat.reduceAdd, Nat.reduceMul, Nat.reduceSub, Nat.reduceLT, Nat.reduceLeDiff, Nat.reduceEqDiff, Nat.reduceBEq, Nat.reducePow]; rfl) ?_
        refine LexD.step (by rfl) (by rfl) (OpW.callY rfl (by rfl) (by rfl) (by rfl) (enters_of Tryz.func74 (by kernel_rfl) rfl) (with_any H1 b.isEmpty b.isEmpty b l[k] (by omega))) ?_
        refine LexD.take 7 (by rfl) (by simp only [go_sem, reduceCtorEq, Nat.reduceAdd, Nat.reduceMul, Nat.reduceSub, Nat.reduceLT, Nat.reduceLeDiff, Nat.reduceEqDiff, Nat.reduceBEq, Nat.reducePow, hw1, h0, hto, hle, hdc, hws]; rfl) ?_
        refine LexD.nilE ?_
        refine LexT.step (by rfl) (by rfl) (OpW.callY rfl (by rfl) (by rfl) (by rfl) (enters_of Tryz.func108 (by kernel_rfl) rfl) ((hrec _).mono ?_))
        rintro r H' (⟨rfl, hJ2⟩ | ⟨rfl, hD⟩)
        · refine LexT.take 1 (by simp only [go_sem, reduceCtorEq, Nat.reduceAdd, Nat.reduceMul, Nat.reduceSub, Nat.reduceLT, Nat.reduceLeDiff, Nat.reduceEqDiff, Nat.reduceBEq, Nat.reducePow]; rfl) (LexT.nilE ⟨Marks.nil _, ?_⟩)
          simp only [Vthen, VinBlock, if_true, if_false, Nat.reduceEqDiff, reduceCtorEq]
          refine WpV.cond rfl (fun hb => by cases hb) (fun hb => WpV.skip ?_)
          simp only [Vthen, VinBlock, if_true, if_false, Nat.reduceEqDiff, reduceCtorEq]
          refine WpV.regionE (by simp only [go_sem, reduceCtorEq, Nat.reduceAdd, Nat.reduceMul, Nat.reduceSub, Nat.reduceLT, Nat.reduceLeDiff, Nat.reduceEqDiff, Nat.reduceBEq, Nat.reducePow]; rfl) (Marks.nil _) ?_
          simp only [Vthen, VinBlock, if_true, if_false, Nat.reduceEqDiff, reduceCtorEq]
          refine ⟨by first | rfl | trivial, hlt', hJ2, .cons rfl rfl (.cons rfl rfl (.cons rfl rfl (.cons rfl rfl (.cons rfl rfl (.cons rfl rfl (.cons rfl ?_ (.nil _)))))))⟩
          rw [wrap64 (by omega)]; rfl
        · refine LexT.take 1 (by simp only [go_sem, reduceCtorEq, Nat.reduceAdd, Nat.reduceMul, Nat.reduceSub, Nat.reduceLT, Nat.reduceLeDiff, Nat.reduceEqDiff, Nat.reduceBEq, Nat.reducePow]; rfl) (LexT.nilE ⟨Marks.nil _, ?_⟩)
          simp only [Vthen, VinBlock, if_true, if_false, Nat.reduceEqDiff, reduceCtorEq]
          refine WpV.cond rfl (fun hb => ?_) (fun hb => by cases hb)
          refine WpV.seq (WpV.regionE (by simp only [go_sem, reduceCtorEq, Nat.reduceAdd, Nat.reduceMul, Nat.reduceSub, Nat.reduceLT, Nat.reduceLeDiff, Nat.reduceEqDiff, Nat.reduceBEq, Nat.reducePow]; rfl) (Marks.nil _) ?_)
          simp only [Vthen, VinBlock, if_true, if_false, Nat.reduceEqDiff, reduceCtorEq]
          refine WpV.ret ⟨Marks.nil _, List.nodup_nil, _, by simp only [Tryz.results108]; simp only [go_sem, reduceCtorEq, Nat.reduceAdd, Nat.reduceMul, Nat.reduceSub, Nat.reduceLT, Nat.reduceLeDiff, Nat.reduceEqDiff, Nat.reduceBEq, Nat.reducePow]; rfl, ?_⟩
          exact .inr ⟨rfl, hD⟩
      · have hge : k = l.length := by have := of_decide_eq_false ‹_›; omega
        subst hge
        rw [List.drop_length] at hJ1
        simp only [Vthen, VinBlock, if_true, if_false, Nat.reduceEqDiff, reduceCtorEq]
        refine WpV.seq (WpV.regionE (by simp only [go_sem, reduceCtorEq, Nat.reduceAdd, Nat.reduceMul, Nat.reduceSub, Nat.reduceLT, Nat.reduceLeDiff, Nat.reduceEqDiff, Nat.reduceBEq, Nat.reducePow]; rfl) (Marks.nil _) ?_)
        simp only [Vthen, VinBlock, if_true, if_false, Nat.reduceEqDiff, reduceCtorEq]
        refine WpV.ret ⟨Marks.nil _, List.nodup_nil, _, by simp only [Tryz.results108]; simp only [go_sem, reduceCtorEq, Nat.reduceAdd, Nat.reduceMul, Nat.reduceSub, Nat.reduceLT, Nat.reduceLeDiff, Nat.reduceEqDiff, Nat.reduceBEq, Nat.reducePow]; rfl, ?_⟩
        exact .inl ⟨rfl, hJ1⟩

/-- 'sets' as a sequence: what its function does with a consumer. -/
theorem sets_any (H : Hp) (nl clip : Bool) (l : List Int) (s : Nat) : CallV Tryz.prog 90 [vints nl clip l, vint s] H (fun r H' => r = .fn (.func 107) [] [.cp [vints nl clip l] 0, .cp [vint s] 0] ∧ H' = H) := by
  refine CallV.body Tryz.func90 rfl Tryz.ntmps90 (by rfl) ?_
  refine WpV.seq (WpV.regionE (by simp only [go_sem, reduceCtorEq, Nat.reduceAdd, Nat.reduceMul, Nat.reduceSub, Nat.reduceLT, Nat.reduceLeDiff, Nat.reduceEqDiff, Nat.reduceBEq, Nat.reducePow]; rfl) (Marks.nil _) ?_)
  simp only [Vthen, VinBlock, if_true, if_false, Nat.reduceEqDiff, reduceCtorEq]
  refine WpV.seq (WpV.regionE (by simp only [go_sem, reduceCtorEq, Nat.reduceAdd, Nat.reduceMul, Nat.reduceSub, Nat.reduceLT, Nat.reduceLeDiff, Nat.reduceEqDiff, Nat.reduceBEq, Nat.reducePow]; rfl) (Marks.nil _) ?_)
  simp only [Vthen, VinBlock, if_true, if_false, Nat.reduceEqDiff, reduceCtorEq]
  refine WpV.ret ⟨Marks.nil _, List.nodup_nil, _, by simp only [Tryz.results90]; simp only [go_sem, reduceCtorEq, Nat.reduceAdd, Nat.reduceMul, Nat.reduceSub, Nat.reduceLT, Nat.reduceLeDiff, Nat.reduceEqDiff, Nat.reduceBEq, Nat.reducePow]; rfl, ?_⟩
  exact ⟨rfl, rfl⟩
theorem sets_run (y : AV) (J : List (List AV) → Hp → Prop) (Dn : Hp → Prop) (hy : Eats Tryz.prog y J Dn) (s : Nat) (l : List Int) (rest : List (List AV)) (H : Hp) (nl clip : Bool) (hl : l.length < 1000000) (hs : s < 1000000) (hJ : J (itemsB (combs l s []) ++ rest) H) :
    CallV Tryz.prog 107 [y, .cp [vints nl clip l] 0, .cp [vint s] 0] H (fun _ H' => J rest H' ∨ Dn H') := by
  refine CallV.body Tryz.func107 rfl Tryz.ntmps107 (by rfl) ?_
  refine WpV.region ?_
  refine WpOps.take 3 (by simp only [go_sem, reduceCtorEq, Nat.reduceAdd, Nat.reduceMul, Nat.reduceSub, Nat.reduceLT, Nat.reduceLeDiff, Nat.reduceEqDiff, Nat.reduceBEq, Nat.reducePow]; rfl) ?_
  refine WpOps.step (by rfl) (by rfl) (OpW.callY rfl (by rfl) (by rfl) (by rfl) (enters_of Tryz.func108 (by kernel_rfl) rfl) ((longer_any y J Dn hy s l [] rest H nl clip hl (by simp; omega) hJ).mono ?_))
  rintro r H' hw
  refine WpOps.nil ⟨Marks.nil _, ⟨Marks.nil _, List.nodup_nil, .tup [], by simp only [Tryz.results107]; rfl, ?_⟩⟩
  rcases hw with ⟨-, h⟩ | ⟨-, h⟩
  · exact .inl h
  · exact .inr h
end Go.Proofs.YtaekibilldjnmaaGreat
namespace Go.Proofs.YtaekibilldjnmaaGreat
open Go.Proofs

def numsF (lo : Int) (n : Nat) : List Int := (List.range n).map fun (i : Nat) => lo + (i : Int)
theorem numsF_succ (lo : Int) (k : Nat) : numsF lo (k + 1) = numsF lo k ++ [lo + (k : Int)] := by unfold numsF; rw [List.range_succ, List.map_append]; rfl
theorem numsF_len (lo : Int) (k : Nat) : (numsF lo k).length = k := by simp [numsF]
abbrev selfV (xs : List Int) : AV := vints (true && decide (xs.length = 0)) (decide (xs.length = 0)) xs
theorem selfV_rowB (xs : List Int) : selfV xs = rowB xs := by cases xs <;> rfl

theorem numbers_any (H : Hp) (lo hi : Int) (n : Nat) (hn : n < 1000000) (hlo : -1000000 ≤ lo ∧ lo ≤ 1000000) (he : hi + 1 = lo + (n : Int)) : CallV Tryz.prog 91 [vint lo, vint hi] H (fun r H' => r = selfV (numsF lo n) ∧ H' = H) := by
  refine CallV.body Tryz.func91 rfl Tryz.ntmps91 (by rfl) ?_
  refine WpV.seq (WpV.regionE (by simp only [go_sem, reduceCtorEq, Nat.reduceAdd, Nat.reduceMul, Nat.reduceSub, Nat.reduceLT, Nat.reduceLeDiff, Nat.reduceEqDiff, Nat.reduceBEq, Nat.reducePow]; rfl) (Marks.nil _) ?_)
  simp only [Vthen, VinBlock, if_true, if_false, Nat.reduceEqDiff, reduceCtorEq]
  refine WpV.seq (WpV.regionE (by simp only [go_sem, reduceCtorEq, Nat.reduceAdd, Nat.reduceMul, Nat.reduceSub, Nat.reduceLT, Nat.reduceLeDiff, Nat.reduceEqDiff, Nat.reduceBEq, Nat.reducePow]; rfl) (Marks.nil _) ?_)
  simp only [Vthen, VinBlock, if_true, if_false, Nat.reduceEqDiff, reduceCtorEq]
  refine WpV.seq ?_
  refine WpV.seq (WpV.regionE (by simp only [go_sem, reduceCtorEq, Nat.reduceAdd, Nat.reduceMul, Nat.reduceSub, Nat.reduceLT, Nat.reduceLeDiff, Nat.reduceEqDiff, Nat.reduceBEq, Nat.reducePow]; rfl) (Marks.nil _) ?_)
  simp only [Vthen, VinBlock, if_true, if_false, Nat.reduceEqDiff, reduceCtorEq]
  refine WpV.block (WpV.loopB 3 1 true n (fun _ => True) (fun k => k) (fun k => (numsF lo k).map vint) (fun k v => [(1, vint hi), (5, v), (6, vint (lo + (k : Int)))]) trivial (Bld.nil H 3 1 true) ?_ ?_)
  · exact .cons rfl rfl (.cons rfl rfl (.cons rfl (by simp) (.nil _)))
  · intro k hk _ v H1 hB
    refine WpV.seq ?_
    refine WpV.seq (WpV.regionE (by simp only [go_sem, reduceCtorEq, Nat.reduceAdd, Nat.reduceMul, Nat.reduceSub, Nat.reduceLT, Nat.reduceLeDiff, Nat.reduceEqDiff, Nat.reduceBEq, Nat.reducePow]; rfl) (Marks.nil _) ?_)
    simp only [Vthen, VinBlock, if_true, if_false, Nat.reduceEqDiff, reduceCtorEq]
    refine WpV.cond rfl (fun hb => WpV.skip ?_) (fun hb => WpV.exit ?_)
    · have hle : lo + (k : Int) ≤ hi := of_decide_eq_true ‹_›
      simp only [Vthen, VinBlock, if_true, if_false, Nat.reduceEqDiff, reduceCtorEq]
      refine WpV.seq (WpV.block ?_)
      refine WpV.region ?_
      refine WpOps.take 3 (by simp only [go_sem, reduceCtorEq, Nat.reduceAdd, Nat.reduceMul, Nat.reduceSub, Nat.reduceLT, Nat.reduceLeDiff, Nat.reduceEqDiff, Nat.reduceBEq, Nat.reducePow]; rfl) ?_
      refine WpOps.step (by rfl) (by rfl) (OpW.appendB (m := 1) (ys := [vint (lo + (k : Int))]) rfl hB rfl rfl rfl (Tryz.el29 (by omega)) Tryz.underlying29 rfl rfl (by decide) (fun v' H' hB' => ?_))
      refine WpOps.take 1 (by simp only [go_sem, reduceCtorEq, Nat.reduceAdd, Nat.reduceMul, Nat.reduceSub, Nat.reduceLT, Nat.reduceLeDiff, Nat.reduceEqDiff, Nat.reduceBEq, Nat.reducePow]; rfl) (WpOps.nil ⟨Marks.nil _, ?_⟩)
      simp only [Vthen, VinBlock, if_true, if_false, Nat.reduceEqDiff, reduceCtorEq]
      refine WpV.regionE (by simp only [go_sem, reduceCtorEq, Nat.reduceAdd, Nat.reduceMul, Nat.reduceSub, Nat.reduceLT, Nat.reduceLeDiff, Nat.reduceEqDiff, Nat.reduceBEq, Nat.reducePow]; rfl) (Marks.nil _) ?_
      simp only [Vthen, VinBlock, if_true, if_false, Nat.reduceEqDiff, reduceCtorEq]
      refine ⟨by first | rfl | trivial, by omega, trivial, v', ?_, .cons rfl rfl (.cons rfl rfl (.cons rfl ?_ (.nil _)))⟩
      · rw [numsF_succ, List.map_append]; exact hB'
      · rw [wrap64 (by omega)]; congr 1; omega
    · have hge : ¬ lo + (k : Int) ≤ hi := of_decide_eq_false ‹_›
      have hkn : k = n := by omega
      subst hkn
      simp only [Vthen, VinBlock, if_true, if_false, Nat.reduceEqDiff, reduceCtorEq]
      refine WpV.seq (WpV.regionE (by simp only [go_sem, reduceCtorEq, Nat.reduceAdd, Nat.reduceMul, Nat.reduceSub, Nat.reduceLT, Nat.reduceLeDiff, Nat.reduceEqDiff, Nat.reduceBEq, Nat.reducePow]; rfl) (Marks.nil _) ?_)
      simp only [Vthen, VinBlock, if_true, if_false, Nat.reduceEqDiff, reduceCtorEq]
      refine WpV.pre (hB.frz (t := 4) rfl) (Marks.nil _) ?_
      refine WpV.ret ⟨Marks.nil _, List.nodup_nil, _, by simp only [Tryz.results91]; simp only [go_sem, reduceCtorEq, Nat.reduceAdd, Nat.reduceMul, Nat.reduceSub, Nat.reduceLT, Nat.reduceLeDiff, Nat.reduceEqDiff, Nat.reduceBEq, Nat.reducePow]; rfl, ?_⟩
      refine ⟨?_, rfl⟩
      show _ = AV.sl (true && decide ((numsF lo k).length = 0)) (decide ((numsF lo k).length = 0)) (numsF lo k).length ((numsF lo k).map vint)
      rw [numsF_len, Bool.true_and]

def contB (xs : List Int) (v : Int) : Bool := !decide (∀ i, i < xs.length → (fun k => v == xs.getD k 0) i = false)
theorem contains_any (H : Hp) (nl clip : Bool) (xs : List Int) (hl : xs.length < 1000000) (v : Int) : CallV Tryz.prog 101 [vints nl clip xs, vint v] H (fun r H' => r = .bool (contB xs v) ∧ H' = H) := by
  refine CallV.body Tryz.func101 rfl Tryz.ntmps101 (by rfl) ?_
  refine WpV.seq (WpV.regionE (by simp only [go_sem, reduceCtorEq, Nat.reduceAdd, Nat.reduceMul, Nat.reduceSub, Nat.reduceLT, Nat.reduceLeDiff, Nat.reduceEqDiff, Nat.reduceBEq, Nat.reducePow]; rfl) (Marks.nil _) ?_)
  simp only [Vthen, VinBlock, if_true, if_false, Nat.reduceEqDiff, reduceCtorEq]
  refine WpV.seq (WpV.region ?_)
  refine WpOps.take 2 (by simp only [go_sem, reduceCtorEq, Nat.reduceAdd, Nat.reduceMul, Nat.reduceSub, Nat.reduceLT, Nat.reduceLeDiff, Nat.reduceEqDiff, Nat.reduceBEq, Nat.reducePow]; rfl) ?_
  refine WpOps.step (by rfl) (by rfl) (OpW.callY rfl (by rfl) (by rfl) (by rfl) (enters_of Tryz.func89 (by kernel_rfl) rfl) ((index_any H nl clip xs hl v).mono ?_))
  rintro _ _ ⟨rfl, hH⟩
  replace hH := hH.symm
  subst hH
  refine WpOps.take 2 (by simp only [go_sem, reduceCtorEq, Nat.reduceAdd, Nat.reduceMul, Nat.reduceSub, Nat.reduceLT, Nat.reduceLeDiff, Nat.reduceEqDiff, Nat.reduceBEq, Nat.reducePow]; rfl) (WpOps.nil ⟨Marks.nil _, ?_⟩)
  simp only [Vthen, VinBlock, if_true, if_false, Nat.reduceEqDiff, reduceCtorEq]
  refine WpV.ret ⟨Marks.nil _, List.nodup_nil, _, by simp only [Tryz.results101]; simp only [go_sem, reduceCtorEq, Nat.reduceAdd, Nat.reduceMul, Nat.reduceSub, Nat.reduceLT, Nat.reduceLeDiff, Nat.reduceEqDiff, Nat.reduceBEq, Nat.reducePow]; rfl, ?_⟩
  exact ⟨by unfold contB; rw [← firstN_ge], rfl⟩

def withoutN (l ps : List Int) (k : Nat) : List Int := ((List.range k).filter fun (i : Nat) => !contB ps (i : Int)).map fun i => l.getD i 0
theorem withoutN_succ (l ps : List Int) (k : Nat) : withoutN l ps (k + 1) = withoutN l ps k ++ (if contB ps (k : Int) = true then [] else [l.getD k 0]) := by
  unfold withoutN
  rw [List.range_succ, List.filter_append, List.map_append]
  congr 1
  simp only [List.filter_cons, List.filter_nil]
  cases contB ps (k : Int) <;> simp
theorem withoutN_len (l ps : List Int) (k : Nat) : (withoutN l ps k).length ≤ k := by
  unfold withoutN
  rw [List.length_map]
  exact Nat.le_trans (List.length_filter_le _ _) (by simp)
abbrev withoutF (l ps : List Int) : List Int := withoutN l ps l.length

theorem without_any (H : Hp) (nl clip nl2 clip2 : Bool) (l ps : List Int) (hl : l.length < 1000000) (hp : ps.length < 1000000) : CallV Tryz.prog 92 [vints nl clip l, vints nl2 clip2 ps] H (fun r H' => r = selfV (withoutF l ps) ∧ H' = H) := by
  refine CallV.body Tryz.func92 rfl Tryz.ntmps92 (by rfl) ?_
  refine WpV.seq (WpV.regionE (by simp only [go_sem, reduceCtorEq, Nat.reduceAdd, Nat.reduceMul, Nat.reduceSub, Nat.reduceLT, Nat.reduceLeDiff, Nat.reduceEqDiff, Nat.reduceBEq, Nat.reducePow]; rfl) (Marks.nil _) ?_)
  simp only [Vthen, VinBlock, if_true, if_false, Nat.reduceEqDiff, reduceCtorEq]
  refine WpV.seq (WpV.regionE (by simp only [go_sem, reduceCtorEq, Nat.reduceAdd, Nat.reduceMul, Nat.reduceSub, Nat.reduceLT, Nat.reduceLeDiff, Nat.reduceEqDiff, Nat.reduceBEq, Nat.reducePow]; rfl) (Marks.nil _) ?_)
  simp only [Vthen, VinBlock, if_true, if_false, Nat.reduceEqDiff, reduceCtorEq]
  refine WpV.seq ?_
  refine WpV.seq (WpV.regionE (by simp only [go_sem, reduceCtorEq, Nat.reduceAdd, Nat.reduceMul, Nat.reduceSub, Nat.reduceLT, Nat.reduceLeDiff, Nat.reduceEqDiff, Nat.reduceBEq, Nat.reducePow]; rfl) (Marks.nil _) ?_)
  simp only [Vthen, VinBlock, if_true, if_false, Nat.reduceEqDiff, reduceCtorEq]
  refine WpV.block (WpV.loopB 3 1 true l.length (fun _ => True) (fun k => (withoutN l ps k).length) (fun k => (withoutN l ps k).map vint) (fun k v => [(1, vints nl2 clip2 ps), (5, v), (8, vints nl clip l), (9, vint l.length), (10, vint k)]) trivial (Bld.nil H 3 1 true) ?_ ?_)
  · exact .cons rfl rfl (.cons rfl rfl (.cons rfl rfl (.cons rfl rfl (.cons rfl rfl (.nil _)))))
  · intro k hk _ v H1 hB
    refine WpV.seq (WpV.regionE (by simp only [go_sem, reduceCtorEq, Nat.reduceAdd, Nat.reduceMul, Nat.reduceSub, Nat.reduceLT, Nat.reduceLeDiff, Nat.reduceEqDiff, Nat.reduceBEq, Nat.reducePow]; rfl) (Marks.nil _) ?_)
    simp only [Vthen, VinBlock, if_true, if_false, Nat.reduceEqDiff, reduceCtorEq]
    refine WpV.seq (WpV.cond rfl (fun hb => WpV.skip ?_) (fun hb => WpV.exit ?_))
    · have hlt : (k : Int) < (l.length : Int) := of_decide_eq_true ‹_›
      have hlt' : k < l.length := by omega
      have hg := ints_get l hlt'
      have hgd : l.getD k 0 = l[k] := by simp [List.getD_eq_getElem?_getD, hlt']
      have hbl := withoutN_len l ps k
      have hct := contains_any H1 nl2 clip2 ps hp (k : Int)
      simp only [Vthen, VinBlock, if_true, if_false, Nat.reduceEqDiff, reduceCtorEq]
      refine WpV.seq (WpV.block ?_)
      refine WpV.seq (WpV.regionE (by simp only [go_sem, reduceCtorEq, Nat.reduceAdd, Nat.reduceMul, Nat.reduceSub, Nat.reduceLT, Nat.reduceLeDiff, Nat.reduceEqDiff, Nat.reduceBEq, Nat.reducePow, hlt, hg]; rfl) (Marks.nil _) ?_)
      simp only [Vthen, VinBlock, if_true, if_false, Nat.reduceEqDiff, reduceCtorEq]
      cases hc : contB ps (k : Int)
      · rw [hc] at hct
        refine WpV.seq (WpV.region ?_)
        refine WpOps.take 2 (by simp only [go_sem, reduceCtorEq, Nat.reduceAdd, Nat.reduceMul, Nat.reduceSub, Nat.reduceLT, Nat.reduceLeDiff, Nat.reduceEqDiff, Nat.reduceBEq, Nat.reducePow]; rfl) ?_
        refine WpOps.step (by rfl) (by rfl) (OpW.callY rfl (by rfl) (by rfl) (by rfl) (enters_of Tryz.func101 (by kernel_rfl) rfl) ((hct).mono ?_))
        rintro _ _ ⟨rfl, hH⟩
        replace hH := hH.symm
        subst hH
        refine WpOps.take 1 (by simp only [go_sem, reduceCtorEq, Nat.reduceAdd, Nat.reduceMul, Nat.reduceSub, Nat.reduceLT, Nat.reduceLeDiff, Nat.reduceEqDiff, Nat.reduceBEq, Nat.reducePow]; rfl) (WpOps.nil ⟨Marks.nil _, ?_⟩)
        simp only [Vthen, VinBlock, if_true, if_false, Nat.reduceEqDiff, reduceCtorEq]
        refine WpV.cond rfl (fun hb => ?_) (fun hb => by cases hb)
        refine WpV.region ?_
        refine WpOps.take 3 (by simp only [go_sem, reduceCtorEq, Nat.reduceAdd, Nat.reduceMul, Nat.reduceSub, Nat.reduceLT, Nat.reduceLeDiff, Nat.reduceEqDiff, Nat.reduceBEq, Nat.reducePow]; rfl) ?_
        refine WpOps.step (by rfl) (by rfl) (OpW.appendB (m := 1) (ys := [vint l[k]]) rfl hB rfl rfl rfl (Tryz.el29 (by omega)) Tryz.underlying29 rfl rfl (by decide) (fun v' H' hB' => ?_))
        refine WpOps.take 1 (by simp only [go_sem, reduceCtorEq, Nat.reduceAdd, Nat.reduceMul, Nat.reduceSub, Nat.reduceLT, Nat.reduceLeDiff, Nat.reduceEqDiff, Nat.reduceBEq, Nat.reducePow]; rfl) (WpOps.nil ⟨Marks.nil _, ?_⟩)
        simp only [Vthen, VinBlock, if_true, if_false, Nat.reduceEqDiff, reduceCtorEq]
        refine WpV.regionE (by simp only [go_sem, reduceCtorEq, Nat.reduceAdd, Nat.reduceMul, Nat.reduceSub, Nat.reduceLT, Nat.reduceLeDiff, Nat.reduceEqDiff, Nat.reduceBEq, Nat.reducePow]; rfl) (Marks.nil _) ?_
        simp only [Vthen, VinBlock, if_true, if_false, Nat.reduceEqDiff, reduceCtorEq]
        refine ⟨by first | rfl | trivial, hlt', trivial, v', ?_, .cons rfl rfl (.cons rfl rfl (.cons rfl rfl (.cons rfl rfl (.cons rfl ?_ (.nil _)))))⟩
        · rw [withoutN_succ, hc, if_neg (by decide), hgd, List.length_append, List.map_append]; exact hB'
        · rw [wrap64 (by omega)]; rfl
      · rw [hc] at hct
        refine WpV.seq (WpV.region ?_)
        refine WpOps.take 2 (by simp only [go_sem, reduceCtorEq, Nat.reduceAdd, Nat.reduceMul, Nat.reduceSub, Nat.reduceLT, Nat.reduceLeDiff, Nat.reduceEqDiff, Nat.reduceBEq, Nat.reducePow]; rfl) ?_
        refine WpOps.step (by rfl) (by rfl) (OpW.callY rfl (by rfl) (by rfl) (by rfl) (enters_of Tryz.func101 (by kernel_rfl) rfl) ((hct).mono ?_))
        rintro _ _ ⟨rfl, hH⟩
        replace hH := hH.symm
        subst hH
        refine WpOps.take 1 (by simp only [go_sem, reduceCtorEq, Nat.reduceAdd, Nat.reduceMul, Nat.reduceSub, Nat.reduceLT, Nat.reduceLeDiff, Nat.reduceEqDiff, Nat.reduceBEq, Nat.reducePow]; rfl) (WpOps.nil ⟨Marks.nil _, ?_⟩)
        simp only [Vthen, VinBlock, if_true, if_false, Nat.reduceEqDiff, reduceCtorEq]
        refine WpV.cond rfl (fun hb => by cases hb) (fun hb => WpV.skip ?_)
        simp only [Vthen, VinBlock, if_true, if_false, Nat.reduceEqDiff, reduceCtorEq]
        refine WpV.regionE (by simp only [go_sem, reduceCtorEq, Nat.reduceAdd, Nat.reduceMul, Nat.reduceSub, Nat.reduceLT, Nat.reduceLeDiff, Nat.reduceEqDiff, Nat.reduceBEq, Nat.reducePow]; rfl) (Marks.nil _) ?_
        simp only [Vthen, VinBlock, if_true, if_false, Nat.reduceEqDiff, reduceCtorEq]
        refine ⟨by first | rfl | trivial, hlt', trivial, v, ?_, .cons rfl rfl (.cons rfl rfl (.cons rfl rfl (.cons rfl rfl (.cons rfl ?_ (.nil _)))))⟩
        · rw [withoutN_succ, hc, if_pos rfl, List.append_nil]; exact hB
        · rw [wrap64 (by omega)]; rfl
    · have hge : k = l.length := by have := of_decide_eq_false ‹_›; omega
      subst hge
      simp only [Vthen, VinBlock, if_true, if_false, Nat.reduceEqDiff, reduceCtorEq]
      refine WpV.seq (WpV.regionE (by simp only [go_sem, reduceCtorEq, Nat.reduceAdd, Nat.reduceMul, Nat.reduceSub, Nat.reduceLT, Nat.reduceLeDiff, Nat.reduceEqDiff, Nat.reduceBEq, Nat.reducePow]; rfl) (Marks.nil _) ?_)
      simp only [Vthen, VinBlock, if_true, if_false, Nat.reduceEqDiff, reduceCtorEq]
      refine WpV.pre (hB.frz (t := 4) rfl) (Marks.nil _) ?_
      refine WpV.ret ⟨Marks.nil _, List.nodup_nil, _, by simp only [Tryz.results92]; simp only [go_sem, reduceCtorEq, Nat.reduceAdd, Nat.reduceMul, Nat.reduceSub, Nat.reduceLT, Nat.reduceLeDiff, Nat.reduceEqDiff, Nat.reduceBEq, Nat.reducePow]; rfl, ?_⟩
      exact ⟨rfl, rfl⟩
end Go.Proofs.YtaekibilldjnmaaGreat
namespace Go.Proofs.YtaekibilldjnmaaGreat
open Go.Proofs

def setsF (n s : Nat) : List (List Int) := combs (numsF 0 n) s []
/-- The first of all lists of places, shorter ones first. -/
def fewestF (l : List Int) (p : List Int → Bool) : Option (List Int) := (List.range (l.length + 1)).findSome? fun s => (setsF l.length s).find? fun b => p (withoutF l b)
theorem combs_len : ∀ (l : List Int) (s : Nat) (b x : List Int), x ∈ combs l s b → x.length = b.length + s
  | l, 0, b, x, h => by rw [combs_zero] at h; simp at h; subst h; rfl
  | [], s + 1, b, x, h => by simp [combs] at h
  | y :: l, s + 1, b, x, h => by
    rw [combs, List.mem_append] at h
    rcases h with h | h
    · have := combs_len l s (b ++ [y]) x h; simp at this; omega
    · exact combs_len l (s + 1) b x h

theorem Seqs.sets (nl clip : Bool) (l : List Int) (s : Nat) (hl : l.length < 1000000) (hs : s < 1000000) : Seqs Tryz.prog 107 [] [.cp [vints nl clip l] 0, .cp [vint s] 0] (itemsB (combs l s [])) :=
  fun y J Dn H _ hy hJ => sets_run y J Dn hy s l [] H nl clip hl hs (by rw [List.append_nil]; exact hJ)

/-- What a condition on lists is, told as a call. -/
def Wants (g : FuncId) (gs cs : List AV) (p : List Int → Bool) (l : List Int) : Prop := EntersF Tryz.prog g ∧ ∀ (b : List Int) (H : Hp), CallV Tryz.prog g (gs ++ [selfV (withoutF l b)] ++ cs) H (fun r H' => r = .bool (p (withoutF l b)) ∧ H' = H)

/-- What a find gives, as the items go by. -/
theorem find_go {α : Type} (p : α → Bool) (done rest : List α) (x : α) (h : ∀ y ∈ done, p y = false) (hx : p x = true) : (done ++ x :: rest).find? p = some x := by
  rw [List.find?_append, List.find?_eq_none.2 (fun y hy => by rw [h y hy]; decide)]
  simp [hx]
theorem findSome_go {α β : Type} (f : α → Option β) : ∀ (l : List α) (k : Nat) (hk : k < l.length) (b : β), (∀ j (hj : j < l.length), j < k → f l[j] = none) → f l[k] = some b → l.findSome? f = some b
  | [], k, hk, _, _, _ => by simp at hk
  | x :: l, 0, hk, b, _, h => by rw [List.findSome?_cons]; simp only [List.getElem_cons_zero] at h; rw [h]
  | x :: l, k + 1, hk, b, h0, h => by
    rw [List.findSome?_cons, show f x = none from h0 0 (by simp) (by omega)]
    exact findSome_go f l k (by simpa using hk) b (fun j hj hjk => h0 (j + 1) (by simpa using hj) (by omega)) (by simpa using h)

def resF (x : Option (List Int)) : AV := match x with | some b => .tup [rowB b, .bool true] | none => .tup [.sl true true 0 [], .bool false]

set_option maxHeartbeats 2000000 in
theorem fewest_any (H : Hp) (nl clip : Bool) (l : List Int) (hl : l.length < 100000) (g : FuncId) (gs cs : List AV) (p : List Int → Bool) (hw : Wants g gs cs p l) :
    CallV Tryz.prog 70 [vints nl clip l, .fn (.func g) gs cs] H (fun r H' => r = resF (fewestF l p) ∧ H' = H) := by
  refine CallV.body Tryz.func70 rfl Tryz.ntmps70 (by rfl) ?_
  refine WpV.seq (WpV.region ?_)
  refine WpOps.take 2 (by simp only [go_sem, reduceCtorEq, Nat.reduceAdd, Nat.reduceMul, Nat.reduceSub, Nat.reduceLT, Nat.reduceLeDiff, Nat.reduceEqDiff, Nat.reduceBEq, Nat.reducePow]; rfl) ?_
  refine WpOps.step (by rfl) (by rfl) (OpW.alloc rfl (Tryz.ze29) (fun i4 h4 => ?_))
  refine WpOps.step (by rfl) (by rfl) (OpW.alloc rfl (Tryz.ze4) (fun i5 h5 => ?_))
  obtain ⟨n54, h5'⟩ := fresh_ne h5
  refine WpOps.nil ⟨Marks.nil _, ?_⟩
  simp only [Vthen, VinBlock, if_true, if_false, Nat.reduceEqDiff, reduceCtorEq]
  have hw1 : IntKind.i64.wrap ((l.length : Int) + 1) = ((l.length + 1 : Nat) : Int) := by rw [wrap64 (by omega)]; omega
  refine WpV.seq ?_
  refine WpV.seq (WpV.regionE (by simp only [go_sem, reduceCtorEq, Nat.reduceAdd, Nat.reduceMul, Nat.reduceSub, Nat.reduceLT, Nat.reduceLeDiff, Nat.reduceEqDiff, Nat.reduceBEq, Nat.reducePow, hw1]; rfl) (Marks.nil _) ?_)
  simp only [Vthen, VinBlock, if_true, if_false, Nat.reduceEqDiff, reduceCtorEq]
  generalize hB : (H.set i4 (some (.cells 29 0 [.sl true true 0 []]))).set i5 (some (.cells 4 0 [.bool false])) = B
  have hB4 : B i4 = some (.cells 29 0 [.sl true true 0 []]) := by rw [← hB, Hp.set_ne _ _ n54.symm, Hp.set_eq]
  have hB5 : B i5 = some (.cells 4 0 [.bool false]) := by rw [← hB, Hp.set_eq]
  have hback : ∀ x y, ((B.set i4 x).set i5 y).set i4 none = ((H.set i5 y)) ∧ (H.set i5 y).set i5 none = H := by
    intro x y
    refine ⟨?_, by rw [Hp.set_set, Hp.set_same _ _ _ h5']⟩
    rw [← hB]
    funext k
    simp only [Hp.set]
    by_cases e5 : k = i5
    · subst e5; simp [n54]
    · by_cases e4 : k = i4
      · subst e4; simp [e5, h4]
      · simp [e4, e5]
  have fin : ∀ (Q : Exit → Fr → List Nat → Hp → Prop) (ro : Option Nat) (fr : Fr) (D : List Nat) (H' : Hp) (x y : AV), (∀ fr D H', RetV Tryz.prog Tryz.f70 (fun r H' => r = resF (fewestF l p) ∧ H' = H) .ret fr D H' → Q .ret fr D H') → fr.get 4 = some (.rp i4 0 0) → fr.get 5 = some (.rp i5 0 0) → MarksOn D ((B.set i4 (some (.cells 29 0 [x]))).set i5 (some (.cells 4 0 [y]))) H' → .tup [x, y] = resF (fewestF l p) →
      WpV Tryz.prog ro 28 .ret Q fr D H' := by
    intro Q ro fr D H' x y hQ hf4 hf5 hM he
    have hg4 := hM.get (k := i4) (o := .cells 29 0 [x]) (by rw [Hp.set_ne _ _ n54.symm, Hp.set_eq])
    have hM1 := hM.set (k := i4) (o := .cells 29 0 [x]) none (by rw [Hp.set_ne _ _ n54.symm, Hp.set_eq])
    have e5 : (((B.set i4 (some (.cells 29 0 [x]))).set i5 (some (.cells 4 0 [y]))).set i4 none) i5 = some (.cells 4 0 [y]) := by rw [Hp.set_ne _ _ n54, Hp.set_eq]
    have hg5 := hM1.get (k := i5) e5
    have hM2 := hM1.set (k := i5) none e5
    refine WpV.pre (Frz.ptr (t := 4) hf4 hg4.1) hM1.marks.1 ?_
    refine WpV.pre (Frz.ptr (t := 5) (id := i5) (ver := 0) (off := 0) (by simp only [Fr.get]; rw [if_neg (by decide)]; exact hf5) hg5.1) hM2.marks.1 ?_
    refine WpV.ret (hQ _ _ _ ⟨hM2.marks.1, hM2.marks.2, .tup [x, y], ?_, he, ?_⟩)
    · simp only [Tryz.results70]; simp only [go_sem, reduceCtorEq, Nat.reduceAdd, Nat.reduceMul, Nat.reduceSub, Nat.reduceLT, Nat.reduceLeDiff, Nat.reduceEqDiff, Nat.reduceBEq, Nat.reducePow]
    · rw [hM2.kill, (hback _ _).1, (hback none (some (.cells 4 0 [y]))).2]
  refine WpV.block (WpV.loopD (ι := { q : Nat × List Nat × Hp // q.1 ≤ l.length + 1 ∧ MarksOn q.2.1 B q.2.2 ∧ ∀ s, s < q.1 → (setsF l.length s).find? (fun b => p (withoutF l b)) = none })
    (fun q => [(2, .cp [vints nl clip l] 0), (3, .cp [.fn (.func g) gs cs] 0), (4, .rp i4 0 0), (5, .rp i5 0 0), (10, vint ((l.length + 1 : Nat) : Int)), (11, vint q.1.1)]) (fun q => q.1.2.2) (fun q => q.1.2.1) (fun q => l.length + 1 - q.1.1) ⟨(0, [], B), Nat.zero_le _, rfl, fun s hs => absurd hs (Nat.not_lt_zero _)⟩ ?_ rfl rfl ?_)
  · exact Sub.cons rfl rfl (Sub.cons rfl rfl (Sub.cons rfl rfl (Sub.cons rfl rfl (Sub.cons rfl rfl (Sub.cons rfl rfl (Sub.nil _))))))
  rintro ⟨⟨k, D, H1⟩, hk, hM, hno⟩
  simp only at hk hM hno ⊢
  refine WpV.seq (WpV.regionE (by simp only [go_sem, reduceCtorEq, Nat.reduceAdd, Nat.reduceMul, Nat.reduceSub, Nat.reduceLT, Nat.reduceLeDiff, Nat.reduceEqDiff, Nat.reduceBEq, Nat.reducePow]; rfl) (hM.marks.1) ?_)
  simp only [Vthen, VinBlock, if_true, if_false, Nat.reduceEqDiff, reduceCtorEq]
  refine WpV.seq (WpV.cond rfl (fun hb => WpV.skip ?_) (fun hb => WpV.exit ?_))
  · have hlt : (k : Int) < ((l.length + 1 : Nat) : Int) := of_decide_eq_true ‹_›
    have hlt' : k < l.length + 1 := by omega
    simp only [Vthen, VinBlock, if_true, if_false, Nat.reduceEqDiff, reduceCtorEq]
    refine WpV.seq (WpV.block ?_)
    refine WpV.seq (WpV.regionE (by simp only [go_sem, reduceCtorEq, Nat.reduceAdd, Nat.reduceMul, Nat.reduceSub, Nat.reduceLT, Nat.reduceLeDiff, Nat.reduceEqDiff, Nat.reduceBEq, Nat.reducePow]; rfl) (hM.marks.1) ?_)
    simp only [Vthen, VinBlock, if_true, if_false, Nat.reduceEqDiff, reduceCtorEq]
    refine WpV.seq (WpV.region ?_)
    refine WpOps.take 3 (by simp only [go_sem, reduceCtorEq, Nat.reduceAdd, Nat.reduceMul, Nat.reduceSub, Nat.reduceLT, Nat.reduceLeDiff, Nat.reduceEqDiff, Nat.reduceBEq, Nat.reducePow]; rfl) ?_
    refine WpOps.step (by rfl) (by rfl) (OpW.callY rfl (by rfl) (by rfl) (by rfl) (enters_of Tryz.func91 (by kernel_rfl) rfl) ((numbers_any H1 0 _ l.length (by omega) (by omega) (by rw [wrap64 (by omega)]; omega)).mono ?_))
    rintro _ _ ⟨rfl, hH⟩
    replace hH := hH.symm
    subst hH
    refine WpOps.take 1 (by simp only [go_sem, reduceCtorEq, Nat.reduceAdd, Nat.reduceMul, Nat.reduceSub, Nat.reduceLT, Nat.reduceLeDiff, Nat.reduceEqDiff, Nat.reduceBEq, Nat.reducePow]; rfl) ?_
    refine WpOps.step (by rfl) (by rfl) (OpW.callY rfl (by rfl) (by rfl) (by rfl) (enters_of Tryz.func90 (by kernel_rfl) rfl) ((sets_any H1 _ _ _ k).mono ?_))
    rintro _ _ ⟨rfl, hH⟩
    replace hH := hH.symm
    subst hH
    refine WpOps.nil ⟨hM.marks.1, ?_⟩
    simp only [Vthen, VinBlock, if_true, if_false, Nat.reduceEqDiff, reduceCtorEq]
    refine WpV.block (WpV.rangeS (items := itemsB (setsF l.length k)) rfl (enters_of Tryz.func107 (by kernel_rfl) rfl) hM.marks.1 (by rfl) (Seqs.sets _ _ _ _ (by rw [numsF_len]; omega) (by omega)) ?_)
    intro idm idl hne hm0 hl0
    have hMm : MarksOn (idm :: D) B (H1.set idm (some .mark)) := ⟨H1, hM, hm0, rfl⟩
    generalize hHm : H1.set idm (some .mark) = Hm at hMm
    have g4 := (hMm.get hB4).1
    have g5 := (hMm.get hB5).1
    refine ⟨fun rest H' => H' = Hm ∧ ∃ done todo, setsF l.length k = done ++ todo ∧ rest = itemsB todo ∧ ∀ b ∈ done, p (withoutF l b) = false,
      fun c H' => c = .ret ∧ ∃ b, fewestF l p = some b ∧ H' = (Hm.set i4 (some (.cells 29 0 [rowB b]))).set i5 (some (.cells 4 0 [.bool true])), ⟨rfl, [], _, rfl, rfl, by simp⟩, ?_, ?_, ?_⟩
    · rintro D0 x rest Bx Hx hx hMx ⟨he, done, todo, e1, e2, e3⟩
      rw [he] at hMx
      cases todo with
      | nil => simp at e2
      | cons b todo =>
        simp only [itemsB, List.map_cons, List.cons.injEq] at e2
        obtain ⟨rfl, rfl⟩ := e2
        have hbl : b.length = k := by
          have := combs_len (numsF 0 l.length) k [] b (by rw [show combs (numsF 0 l.length) k [] = setsF l.length k from rfl, e1]; simp)
          simpa using this
        have x4 := set_none_get (hMx.get g4)
        have x5 := set_none_get (hMx.get g5)
        refine ⟨rfl, ?_⟩
        show WpV Tryz.prog (some idl) 28 _ _ ((20, rowB b) :: _) [] Hx
        refine WpV.regionE (by simp only [go_sem, reduceCtorEq, Nat.reduceAdd, Nat.reduceMul, Nat.reduceSub, Nat.reduceLT, Nat.reduceLeDiff, Nat.reduceEqDiff, Nat.reduceBEq, Nat.reducePow]; rfl) (Marks.nil _) ?_
        simp only [Vthen, VinBlock, if_true, if_false, Nat.reduceEqDiff, reduceCtorEq]
        refine ⟨none, hx, WpV.block ?_⟩
        generalize hHb : Hx.set idl _ = Hb
        have y4 : Hb i4 = some (.cells 29 0 [.sl true true 0 []]) := by rw [← hHb, Hp.set_ne _ _ x4.1]; exact x4.2
        have y5 : Hb i5 = some (.cells 4 0 [.bool false]) := by rw [← hHb, Hp.set_ne _ _ x5.1]; exact x5.2
        have yl := Hp.set_eq Hx idl
        refine WpV.seq (WpV.regionD Tryz.mixed (by kernel_rfl) (by kernel_rfl) ?_)
        refine LexD.take 3 (by rfl) (by simp only [go_sem, reduceCtorEq, Nat.reduceAdd, Nat.reduceMul, Nat.reduceSub, Nat.reduceLT, Nat.reduceLeDiff, Nat.reduceEqDiff, Nat.reduceBEq, Nat.reducePow]; rfl) ?_
        refine LexD.step (by rfl) (by rfl) (OpW.callY rfl (by rfl) (by rfl) (by rfl) (enters_of Tryz.func92 (by kernel_rfl) rfl) (without_any Hb nl clip b.isEmpty b.isEmpty l b (by omega) (by omega))) ?_
        refine LexD.step (by rfl) (by rfl) (OpW.callY rfl (by rfl) (by rfl) (by rfl) hw.1 (hw.2 b Hb)) ?_
        refine LexD.nilE ⟨Marks.nil _, ?_⟩
        simp only [Vthen, VinBlock, if_true, if_false, Nat.reduceEqDiff, reduceCtorEq]
        refine WpV.cond rfl (fun hpb => ?_) (fun hpb => WpV.skip ?_)
        · refine WpV.seq (WpV.region ?_)
          refine WpOps.take 1 (by simp only [go_sem, reduceCtorEq, Nat.reduceAdd, Nat.reduceMul, Nat.reduceSub, Nat.reduceLT, Nat.reduceLeDiff, Nat.reduceEqDiff, Nat.reduceBEq, Nat.reducePow]; rfl) ?_
          refine WpOps.step (by rfl) (by rfl) (OpW.store (ty := 29) (id := i4) (ver := 0) (off := 0) rfl (by simp only [go_sem, reduceCtorEq, Nat.reduceAdd, Nat.reduceMul, Nat.reduceSub, Nat.reduceLT, Nat.reduceLeDiff, Nat.reduceEqDiff, Nat.reduceBEq, Nat.reducePow]) (by simp only [go_sem, reduceCtorEq, Nat.reduceAdd, Nat.reduceMul, Nat.reduceSub, Nat.reduceLT, Nat.reduceLeDiff, Nat.reduceEqDiff, Nat.reduceBEq, Nat.reducePow]; try rfl) y4 (by simp only [go_sem, reduceCtorEq, Nat.reduceAdd, Nat.reduceMul, Nat.reduceSub, Nat.reduceLT, Nat.reduceLeDiff, Nat.reduceEqDiff, Nat.reduceBEq, Nat.reducePow]; try rfl) (by exact Tryz.sz29) (by simp) ?_)
          refine WpOps.step (by rfl) (by rfl) (OpW.store (ty := 4) (id := i5) (ver := 0) (off := 0) rfl (by simp only [go_sem, reduceCtorEq, Nat.reduceAdd, Nat.reduceMul, Nat.reduceSub, Nat.reduceLT, Nat.reduceLeDiff, Nat.reduceEqDiff, Nat.reduceBEq, Nat.reducePow]) (by simp only [go_sem, reduceCtorEq, Nat.reduceAdd, Nat.reduceMul, Nat.reduceSub, Nat.reduceLT, Nat.reduceLeDiff, Nat.reduceEqDiff, Nat.reduceBEq, Nat.reducePow]; try rfl) (by rw [Hp.set_ne _ _ n54]; exact y5) (by simp only [go_sem, reduceCtorEq, Nat.reduceAdd, Nat.reduceMul, Nat.reduceSub, Nat.reduceLT, Nat.reduceLeDiff, Nat.reduceEqDiff, Nat.reduceBEq, Nat.reducePow]; try rfl) (by exact Tryz.sz4) (by simp) ?_)
          simp only [go_sem, reduceCtorEq, Nat.reduceAdd, Nat.reduceMul, Nat.reduceSub, Nat.reduceLT, Nat.reduceLeDiff, Nat.reduceEqDiff, Nat.reduceBEq, Nat.reducePow]
          refine WpOps.nil ⟨Marks.nil _, ?_⟩
          simp only [Vthen, VinBlock, if_true, if_false, Nat.reduceEqDiff, reduceCtorEq]
          refine WpV.ret ⟨⟨none, ?_⟩, _, ?_, rfl, b, ?_, rfl⟩
          · rw [Hp.set_ne _ _ x5.1.symm, Hp.set_ne _ _ x4.1.symm, ← hHb]; exact yl _
          · rw [Hp.set_comm _ _ _ x5.1, Hp.set_comm _ _ _ x4.1, ← hHb, Hp.set_set]
            exact (hMx.set (some (.cells 29 0 [rowB b])) g4).set (k := i5) (o := .cells 4 0 [.bool false]) (some (.cells 4 0 [.bool true])) (by rw [Hp.set_ne _ _ n54]; exact g5)
          · unfold fewestF
            refine findSome_go _ _ k (by simpa using hlt') b (fun j hj hjk => ?_) ?_
            · rw [List.getElem_range]; exact hno j hjk
            · rw [List.getElem_range, e1]; exact find_go _ done todo b e3 hpb
        · refine ⟨⟨none, by rw [← hHb]; exact yl _⟩, Hm, by rw [← hHb, Hp.set_set]; exact hMx, rfl, done ++ [b], todo, by rw [e1]; simp, rfl, fun b' hb' => ?_⟩
          rcases List.mem_append.1 hb' with h | h
          · exact e3 b' h
          · have : b' = b := by simpa using h
            rw [this]; exact hpb
    · rintro H' ⟨rfl, done, todo, e1, e2, e3⟩
      have e4 : todo = [] := by cases todo with
        | nil => rfl
        | cons b todo => simp at e2
      subst e4
      refine ⟨hMm.marks.1, ?_⟩
      simp only [Vthen, VinBlock, if_true, if_false, Nat.reduceEqDiff, reduceCtorEq]
      refine WpV.regionE (by simp only [go_sem, reduceCtorEq, Nat.reduceAdd, Nat.reduceMul, Nat.reduceSub, Nat.reduceLT, Nat.reduceLeDiff, Nat.reduceEqDiff, Nat.reduceBEq, Nat.reducePow]; rfl) (hMm.marks.1) ?_
      simp only [Vthen, VinBlock, if_true, if_false, Nat.reduceEqDiff, reduceCtorEq]
      refine ⟨⟨(k + 1, idm :: D, H'), by simp only; omega, hMm, fun s hs => ?_⟩, by simp only; omega, Sub.cons rfl rfl (Sub.cons rfl rfl (Sub.cons rfl rfl (Sub.cons rfl rfl (Sub.cons rfl rfl (Sub.cons rfl ?_ (Sub.nil _)))))), rfl, rfl⟩
      · by_cases e : s = k
        · subst e
          rw [e1, List.append_nil]
          exact List.find?_eq_none.2 fun b hb => by rw [e3 b hb]; decide
        · exact hno s (by simp only at hs; omega)
      · rw [wrap64 (by omega)]; rfl
    · rintro c H' ⟨rfl, b, hfb, rfl⟩
      have hM3 := (hMm.set (k := i4) (some (.cells 29 0 [rowB b])) hB4).set (k := i5) (o := .cells 4 0 [.bool false]) (some (.cells 4 0 [.bool true])) (by rw [Hp.set_ne _ _ n54]; exact hB5)
      refine ⟨hM3.marks.1, fin _ none _ _ _ (rowB b) (.bool true) (fun fr D H' h => ?_) rfl rfl hM3 (by rw [hfb]; rfl)⟩
      simp only [Vthen, VinBlock]
      exact h
  · have hge : k = l.length + 1 := by have := of_decide_eq_false ‹_›; omega
    subst hge
    have g4 := (hM.get hB4).1
    have g5 := (hM.get hB5).1
    simp only [Vthen, VinBlock, if_true, if_false, Nat.reduceEqDiff, reduceCtorEq]
    refine WpV.seq (WpV.region ?_)
    refine WpOps.step (by rfl) (by rfl) (OpW.store (ty := 29) (id := i4) (ver := 0) (off := 0) rfl (by simp only [go_sem, reduceCtorEq, Nat.reduceAdd, Nat.reduceMul, Nat.reduceSub, Nat.reduceLT, Nat.reduceLeDiff, Nat.reduceEqDiff, Nat.reduceBEq, Nat.reducePow]) (by simp only [go_sem, reduceCtorEq, Nat.reduceAdd, Nat.reduceMul, Nat.reduceSub, Nat.reduceLT, Nat.reduceLeDiff, Nat.reduceEqDiff, Nat.reduceBEq, Nat.reducePow]; try rfl) g4 (by simp only [go_sem, reduceCtorEq, Nat.reduceAdd, Nat.reduceMul, Nat.reduceSub, Nat.reduceLT, Nat.reduceLeDiff, Nat.reduceEqDiff, Nat.reduceBEq, Nat.reducePow]; try rfl) (by exact Tryz.sz29) (by simp) ?_)
    refine WpOps.step (by rfl) (by rfl) (OpW.store (ty := 4) (id := i5) (ver := 0) (off := 0) rfl (by simp only [go_sem, reduceCtorEq, Nat.reduceAdd, Nat.reduceMul, Nat.reduceSub, Nat.reduceLT, Nat.reduceLeDiff, Nat.reduceEqDiff, Nat.reduceBEq, Nat.reducePow]) (by simp only [go_sem, reduceCtorEq, Nat.reduceAdd, Nat.reduceMul, Nat.reduceSub, Nat.reduceLT, Nat.reduceLeDiff, Nat.reduceEqDiff, Nat.reduceBEq, Nat.reducePow]; try rfl) (by rw [Hp.set_ne _ _ n54]; exact g5) (by simp only [go_sem, reduceCtorEq, Nat.reduceAdd, Nat.reduceMul, Nat.reduceSub, Nat.reduceLT, Nat.reduceLeDiff, Nat.reduceEqDiff, Nat.reduceBEq, Nat.reducePow]; try rfl) (by exact Tryz.sz4) (by simp) ?_)
    simp only [go_sem, reduceCtorEq, Nat.reduceAdd, Nat.reduceMul, Nat.reduceSub, Nat.reduceLT, Nat.reduceLeDiff, Nat.reduceEqDiff, Nat.reduceBEq, Nat.reducePow]
    have hM3 := (hM.set (k := i4) (some (.cells 29 0 [.sl true true 0 []])) hB4).set (k := i5) (o := .cells 4 0 [.bool false]) (some (.cells 4 0 [.bool false])) (by rw [Hp.set_ne _ _ n54]; exact hB5)
    refine WpOps.nil ⟨hM3.marks.1, ?_⟩
    simp only [Vthen, VinBlock, if_true, if_false, Nat.reduceEqDiff, reduceCtorEq]
    refine fin _ none _ _ _ (.sl true true 0 []) (.bool false) (fun fr D H' h => h) rfl rfl hM3 ?_
    have : fewestF l p = none := by
      unfold fewestF
      rw [List.findSome?_eq_none_iff]
      intro s hs
      exact hno s (by have := List.mem_range.1 hs; omega)
    rw [this]; rfl
end Go.Proofs.YtaekibilldjnmaaGreat
namespace Go.Proofs.YtaekibilldjnmaaGreat
open Go.Proofs

theorem withoutF_mem {l b : List Int} {x : Int} (h : x ∈ withoutF l b) : x ∈ l := by
  unfold withoutF withoutN at h
  obtain ⟨i, hi, rfl⟩ := List.mem_map.1 h
  have hi' : i < l.length := by have := (List.mem_filter.1 hi).1; simpa using this
  rw [List.getD_eq_getElem?_getD, List.getElem?_eq_getElem hi']
  exact List.getElem_mem _
def Cs.leftP (c : Cs) (n : Int) (rest : List Int) : Bool := decide ((rest.length : Int) > 0) && decide (c.needF [rest] ≤ n)

theorem left_one (H : Hp) (c : Cs) (hc : c.Fair) (n : Int) (w b : List Int) (hw : c.Word w) :
    CallV Tryz.prog 71 [selfV (withoutF w b), .cp c.box 0, .cp [vint n] 0] H (fun r H' => r = .bool (c.leftP n (withoutF w b)) ∧ H' = H) := by
  have hlen : (withoutF w b).length ≤ w.length := withoutN_len w b w.length
  have hmem : ∀ x ∈ withoutF w b, x ∈ w := fun x hx => withoutF_mem hx
  generalize withoutF w b = rest at hlen hmem
  refine CallV.body Tryz.func71 rfl Tryz.ntmps71 (by rfl) ?_
  refine WpV.seq (WpV.regionE (by simp only [go_sem, reduceCtorEq, Nat.reduceAdd, Nat.reduceMul, Nat.reduceSub, Nat.reduceLT, Nat.reduceLeDiff, Nat.reduceEqDiff, Nat.reduceBEq, Nat.reducePow]; rfl) (Marks.nil _) ?_)
  simp only [Vthen, VinBlock, if_true, if_false, Nat.reduceEqDiff, reduceCtorEq]
  by_cases h0 : (rest.length : Int) > 0
  · have hW : c.Word rest := ⟨by omega, by have := hw.2.1; omega, fun x hx => hw.2.2 x (hmem x hx)⟩
    have e0 : decide (rest.length = 0) = false := by simp; intro e; rw [e] at h0; simp at h0
    have hgo := goes_any H c hc (true && decide (rest.length = 0)) (decide (rest.length = 0)) rest hW n
    refine WpV.seq (WpV.region ?_)
    refine WpOps.take 7 (by simp only [go_sem, reduceCtorEq, Nat.reduceAdd, Nat.reduceMul, Nat.reduceSub, Nat.reduceLT, Nat.reduceLeDiff, Nat.reduceEqDiff, Nat.reduceBEq, Nat.reducePow, h0]; rfl) ?_
    refine WpOps.step (by rfl) (by rfl) (OpW.callY rfl (by rfl) (by rfl) (by rfl) (enters_of Tryz.func38 (by kernel_rfl) rfl) ((hgo).mono ?_))
    rintro _ _ ⟨rfl, hH⟩
    replace hH := hH.symm
    subst hH
    refine WpOps.take 2 (by simp only [go_sem, reduceCtorEq, Nat.reduceAdd, Nat.reduceMul, Nat.reduceSub, Nat.reduceLT, Nat.reduceLeDiff, Nat.reduceEqDiff, Nat.reduceBEq, Nat.reducePow, h0]; rfl) (WpOps.nil ⟨Marks.nil _, ?_⟩)
    simp only [Vthen, VinBlock, if_true, if_false, Nat.reduceEqDiff, reduceCtorEq]
    refine WpV.ret ⟨Marks.nil _, List.nodup_nil, _, by simp only [Tryz.results71]; simp only [go_sem, reduceCtorEq, Nat.reduceAdd, Nat.reduceMul, Nat.reduceSub, Nat.reduceLT, Nat.reduceLeDiff, Nat.reduceEqDiff, Nat.reduceBEq, Nat.reducePow]; rfl, ?_⟩
    exact ⟨by unfold Cs.leftP; rw [decide_eq_true h0, Bool.true_and], rfl⟩
  · refine WpV.seq (WpV.region ?_)
    refine WpOps.take 8 (by simp only [go_sem, reduceCtorEq, Nat.reduceAdd, Nat.reduceMul, Nat.reduceSub, Nat.reduceLT, Nat.reduceLeDiff, Nat.reduceEqDiff, Nat.reduceBEq, Nat.reducePow, h0]; rfl) ?_
    refine WpOps.take 2 (by simp only [go_sem, reduceCtorEq, Nat.reduceAdd, Nat.reduceMul, Nat.reduceSub, Nat.reduceLT, Nat.reduceLeDiff, Nat.reduceEqDiff, Nat.reduceBEq, Nat.reducePow, h0]; rfl) (WpOps.nil ⟨Marks.nil _, ?_⟩)
    simp only [Vthen, VinBlock, if_true, if_false, Nat.reduceEqDiff, reduceCtorEq]
    refine WpV.ret ⟨Marks.nil _, List.nodup_nil, _, by simp only [Tryz.results71]; simp only [go_sem, reduceCtorEq, Nat.reduceAdd, Nat.reduceMul, Nat.reduceSub, Nat.reduceLT, Nat.reduceLeDiff, Nat.reduceEqDiff, Nat.reduceBEq, Nat.reducePow]; rfl, ?_⟩
    exact ⟨by unfold Cs.leftP; rw [decide_eq_false h0, Bool.false_and], rfl⟩

theorem left_any (H : Hp) (c : Cs) (hc : c.Fair) (nl clip : Bool) (w : List Int) (n : Int) (hw : c.Word w) :
    CallV Tryz.prog 48 [.agg c.box, vints nl clip w, vint n] H (fun r H' => r = resF (fewestF w (c.leftP n)) ∧ H' = H) := by
  have h := fewest_any H nl clip w (by have := hw.2.1; omega) 71 [] [.cp c.box 0, .cp [vint n] 0] (c.leftP n) ⟨enters_of Tryz.func71 (by kernel_rfl) rfl, fun b H => left_one H c hc n w b hw⟩
  cases hf : fewestF w (c.leftP n) with
  | none =>
    rw [hf] at h
    unfold resF at h ⊢
    refine CallV.body Tryz.func48 rfl Tryz.ntmps48 (by rfl) ?_
    refine WpV.seq (WpV.regionE (by simp only [go_sem, reduceCtorEq, Nat.reduceAdd, Nat.reduceMul, Nat.reduceSub, Nat.reduceLT, Nat.reduceLeDiff, Nat.reduceEqDiff, Nat.reduceBEq, Nat.reducePow]; rfl) (Marks.nil _) ?_)
    simp only [Vthen, VinBlock, if_true, if_false, Nat.reduceEqDiff, reduceCtorEq]
    refine WpV.seq (WpV.region ?_)
    refine WpOps.take 2 (by simp only [go_sem, reduceCtorEq, Nat.reduceAdd, Nat.reduceMul, Nat.reduceSub, Nat.reduceLT, Nat.reduceLeDiff, Nat.reduceEqDiff, Nat.reduceBEq, Nat.reducePow]; rfl) ?_
    refine WpOps.step (by rfl) (by rfl) (OpW.callY rfl (by rfl) (by rfl) (by rfl) (enters_of Tryz.func70 (by kernel_rfl) rfl) ((h).mono ?_))
    rintro _ _ ⟨rfl, hH⟩
    replace hH := hH.symm
    subst hH
    refine WpOps.take 4 (by simp only [go_sem, reduceCtorEq, Nat.reduceAdd, Nat.reduceMul, Nat.reduceSub, Nat.reduceLT, Nat.reduceLeDiff, Nat.reduceEqDiff, Nat.reduceBEq, Nat.reducePow]; rfl) (WpOps.nil ⟨Marks.nil _, ?_⟩)
    simp only [Vthen, VinBlock, if_true, if_false, Nat.reduceEqDiff, reduceCtorEq]
    refine WpV.ret ⟨Marks.nil _, List.nodup_nil, _, by simp only [Tryz.results48]; simp only [go_sem, reduceCtorEq, Nat.reduceAdd, Nat.reduceMul, Nat.reduceSub, Nat.reduceLT, Nat.reduceLeDiff, Nat.reduceEqDiff, Nat.reduceBEq, Nat.reducePow]; rfl, ?_⟩
    exact ⟨rfl, rfl⟩
  | some b =>
    rw [hf] at h
    unfold resF at h ⊢
    refine CallV.body Tryz.func48 rfl Tryz.ntmps48 (by rfl) ?_
    refine WpV.seq (WpV.regionE (by simp only [go_sem, reduceCtorEq, Nat.reduceAdd, Nat.reduceMul, Nat.reduceSub, Nat.reduceLT, Nat.reduceLeDiff, Nat.reduceEqDiff, Nat.reduceBEq, Nat.reducePow]; rfl) (Marks.nil _) ?_)
    simp only [Vthen, VinBlock, if_true, if_false, Nat.reduceEqDiff, reduceCtorEq]
    refine WpV.seq (WpV.region ?_)
    refine WpOps.take 2 (by simp only [go_sem, reduceCtorEq, Nat.reduceAdd, Nat.reduceMul, Nat.reduceSub, Nat.reduceLT, Nat.reduceLeDiff, Nat.reduceEqDiff, Nat.reduceBEq, Nat.reducePow]; rfl) ?_
    refine WpOps.step (by rfl) (by rfl) (OpW.callY rfl (by rfl) (by rfl) (by rfl) (enters_of Tryz.func70 (by kernel_rfl) rfl) ((h).mono ?_))
    rintro _ _ ⟨rfl, hH⟩
    replace hH := hH.symm
    subst hH
    refine WpOps.take 4 (by simp only [go_sem, reduceCtorEq, Nat.reduceAdd, Nat.reduceMul, Nat.reduceSub, Nat.reduceLT, Nat.reduceLeDiff, Nat.reduceEqDiff, Nat.reduceBEq, Nat.reducePow]; rfl) (WpOps.nil ⟨Marks.nil _, ?_⟩)
    simp only [Vthen, VinBlock, if_true, if_false, Nat.reduceEqDiff, reduceCtorEq]
    refine WpV.ret ⟨Marks.nil _, List.nodup_nil, _, by simp only [Tryz.results48]; simp only [go_sem, reduceCtorEq, Nat.reduceAdd, Nat.reduceMul, Nat.reduceSub, Nat.reduceLT, Nat.reduceLeDiff, Nat.reduceEqDiff, Nat.reduceBEq, Nat.reducePow]; rfl, ?_⟩
    exact ⟨rfl, rfl⟩

def placesF (none9 : Int) (x : Option (List Int)) : AV := match x with
  | none => .tup [.sl true true 0 [], vint none9]
  | some b => if b.length = 0 then .tup [.sl true true 0 [], vint 6] else .tup [rowB b, vint 0]

theorem Left_any (H : Hp) (c : Cs) (hc : c.Valid) (nl clip : Bool) (w : List Int) (n : Int) (hw : c.word w = true) (hn : 1 ≤ n ∧ n ≤ 400) :
    CallV Tryz.prog 21 [.agg c.cells, vints nl clip w, vint n] H (fun r H' => r = placesF 9 (fewestF w (c.leftP n)) ∧ H' = H) := by
  have h := left_any H c hc.fair nl clip w n (Cs.word_iff.1 hw)
  refine CallV.body Tryz.func21 rfl Tryz.ntmps21 (by rfl) ?_
  refine WpV.seq (WpV.regionE (by simp only [go_sem, reduceCtorEq, Nat.reduceAdd, Nat.reduceMul, Nat.reduceSub, Nat.reduceLT, Nat.reduceLeDiff, Nat.reduceEqDiff, Nat.reduceBEq, Nat.reducePow]; rfl) (Marks.nil _) ?_)
  simp only [Vthen, VinBlock, if_true, if_false, Nat.reduceEqDiff, reduceCtorEq]
  refine WpV.seq ?_
  refine WpV.seq (WpV.region ?_)
  refine WpOps.take 3 (by simp only [go_sem, reduceCtorEq, Nat.reduceAdd, Nat.reduceMul, Nat.reduceSub, Nat.reduceLT, Nat.reduceLeDiff, Nat.reduceEqDiff, Nat.reduceBEq, Nat.reducePow]; rfl) ?_
  refine WpOps.step (by rfl) (by rfl) (OpW.callY rfl (by rfl) (by rfl) (by rfl) (enters_of Tryz.func37 (by kernel_rfl) rfl) ((checkLength_ok H c hc nl clip w n hw hn).mono ?_))
  rintro _ _ ⟨rfl, hH⟩
  replace hH := hH.symm
  subst hH
  refine WpOps.take 1 (by simp only [go_sem, reduceCtorEq, Nat.reduceAdd, Nat.reduceMul, Nat.reduceSub, Nat.reduceLT, Nat.reduceLeDiff, Nat.reduceEqDiff, Nat.reduceBEq, Nat.reducePow]; rfl) (WpOps.nil ⟨Marks.nil _, ?_⟩)
  simp only [Vthen, VinBlock, if_true, if_false, Nat.reduceEqDiff, reduceCtorEq]
  refine WpV.seq (WpV.regionE (by simp only [go_sem, reduceCtorEq, Nat.reduceAdd, Nat.reduceMul, Nat.reduceSub, Nat.reduceLT, Nat.reduceLeDiff, Nat.reduceEqDiff, Nat.reduceBEq, Nat.reducePow]; rfl) (Marks.nil _) ?_)
  simp only [Vthen, VinBlock, if_true, if_false, Nat.reduceEqDiff, reduceCtorEq]
  refine WpV.cond rfl (fun hb => by cases hb) (fun hb => WpV.skip ?_)
  simp only [Vthen, VinBlock, if_true, if_false, Nat.reduceEqDiff, reduceCtorEq]
  cases hf : fewestF w (c.leftP n) with
  | none =>
    rw [hf] at h
    unfold resF at h
    refine WpV.seq (WpV.region ?_)
    refine WpOps.take 1 (by simp only [go_sem, reduceCtorEq, Nat.reduceAdd, Nat.reduceMul, Nat.reduceSub, Nat.reduceLT, Nat.reduceLeDiff, Nat.reduceEqDiff, Nat.reduceBEq, Nat.reducePow]; rfl) ?_
    refine WpOps.step (by rfl) (by rfl) (OpW.callY rfl (by rfl) (by rfl) (by rfl) (enters_of Tryz.func35 (by kernel_rfl) rfl) ((box_of H c hc.ok hc.keys).mono ?_))
    rintro _ _ ⟨rfl, hH⟩
    replace hH := hH.symm
    subst hH
    refine WpOps.take 2 (by simp only [go_sem, reduceCtorEq, Nat.reduceAdd, Nat.reduceMul, Nat.reduceSub, Nat.reduceLT, Nat.reduceLeDiff, Nat.reduceEqDiff, Nat.reduceBEq, Nat.reducePow]; rfl) ?_
    refine WpOps.step (by rfl) (by rfl) (OpW.callY rfl (by rfl) (by rfl) (by rfl) (enters_of Tryz.func48 (by kernel_rfl) rfl) ((h).mono ?_))
    rintro _ _ ⟨rfl, hH⟩
    replace hH := hH.symm
    subst hH
    refine WpOps.take 5 (by simp only [go_sem, reduceCtorEq, Nat.reduceAdd, Nat.reduceMul, Nat.reduceSub, Nat.reduceLT, Nat.reduceLeDiff, Nat.reduceEqDiff, Nat.reduceBEq, Nat.reducePow]; rfl) (WpOps.nil ⟨Marks.nil _, ?_⟩)
    simp only [Vthen, VinBlock, if_true, if_false, Nat.reduceEqDiff, reduceCtorEq]
    refine WpV.seq (WpV.block ?_)
    refine WpV.seq (WpV.regionE (by simp only [go_sem, reduceCtorEq, Nat.reduceAdd, Nat.reduceMul, Nat.reduceSub, Nat.reduceLT, Nat.reduceLeDiff, Nat.reduceEqDiff, Nat.reduceBEq, Nat.reducePow]; rfl) (Marks.nil _) ?_)
    simp only [Vthen, VinBlock, if_true, if_false, Nat.reduceEqDiff, reduceCtorEq]
    refine WpV.cond rfl (fun hb => ?_) (fun hb => by cases hb)
    refine WpV.seq (WpV.regionE (by simp only [go_sem, reduceCtorEq, Nat.reduceAdd, Nat.reduceMul, Nat.reduceSub, Nat.reduceLT, Nat.reduceLeDiff, Nat.reduceEqDiff, Nat.reduceBEq, Nat.reducePow]; rfl) (Marks.nil _) ?_)
    simp only [Vthen, VinBlock, if_true, if_false, Nat.reduceEqDiff, reduceCtorEq]
    refine WpV.ret ⟨Marks.nil _, List.nodup_nil, _, by simp only [Tryz.results21]; simp only [go_sem, reduceCtorEq, Nat.reduceAdd, Nat.reduceMul, Nat.reduceSub, Nat.reduceLT, Nat.reduceLeDiff, Nat.reduceEqDiff, Nat.reduceBEq, Nat.reducePow]; rfl, ?_⟩
    exact ⟨rfl, rfl⟩
  | some b =>
    rw [hf] at h
    unfold resF at h
    refine WpV.seq (WpV.region ?_)
    refine WpOps.take 1 (by simp only [go_sem, reduceCtorEq, Nat.reduceAdd, Nat.reduceMul, Nat.reduceSub, Nat.reduceLT, Nat.reduceLeDiff, Nat.reduceEqDiff, Nat.reduceBEq, Nat.reducePow]; rfl) ?_
    refine WpOps.step (by rfl) (by rfl) (OpW.callY rfl (by rfl) (by rfl) (by rfl) (enters_of Tryz.func35 (by kernel_rfl) rfl) ((box_of H c hc.ok hc.keys).mono ?_))
    rintro _ _ ⟨rfl, hH⟩
    replace hH := hH.symm
    subst hH
    refine WpOps.take 2 (by simp only [go_sem, reduceCtorEq, Nat.reduceAdd, Nat.reduceMul, Nat.reduceSub, Nat.reduceLT, Nat.reduceLeDiff, Nat.reduceEqDiff, Nat.reduceBEq, Nat.reducePow]; rfl) ?_
    refine WpOps.step (by rfl) (by rfl) (OpW.callY rfl (by rfl) (by rfl) (by rfl) (enters_of Tryz.func48 (by kernel_rfl) rfl) ((h).mono ?_))
    rintro _ _ ⟨rfl, hH⟩
    replace hH := hH.symm
    subst hH
    refine WpOps.take 5 (by simp only [go_sem, reduceCtorEq, Nat.reduceAdd, Nat.reduceMul, Nat.reduceSub, Nat.reduceLT, Nat.reduceLeDiff, Nat.reduceEqDiff, Nat.reduceBEq, Nat.reducePow]; rfl) (WpOps.nil ⟨Marks.nil _, ?_⟩)
    simp only [Vthen, VinBlock, if_true, if_false, Nat.reduceEqDiff, reduceCtorEq]
    refine WpV.seq (WpV.block ?_)
    refine WpV.seq (WpV.regionE (by simp only [go_sem, reduceCtorEq, Nat.reduceAdd, Nat.reduceMul, Nat.reduceSub, Nat.reduceLT, Nat.reduceLeDiff, Nat.reduceEqDiff, Nat.reduceBEq, Nat.reducePow]; rfl) (Marks.nil _) ?_)
    simp only [Vthen, VinBlock, if_true, if_false, Nat.reduceEqDiff, reduceCtorEq]
    refine WpV.cond rfl (fun hb => by cases hb) (fun hb => ?_)
    by_cases h0 : b.length = 0
    · have e0 : ((b.length : Int) == 0) = true := by rw [h0]; rfl
      refine WpV.seq (WpV.regionE (by simp only [go_sem, reduceCtorEq, Nat.reduceAdd, Nat.reduceMul, Nat.reduceSub, Nat.reduceLT, Nat.reduceLeDiff, Nat.reduceEqDiff, Nat.reduceBEq, Nat.reducePow, e0]; rfl) (Marks.nil _) ?_)
      simp only [Vthen, VinBlock, if_true, if_false, Nat.reduceEqDiff, reduceCtorEq]
      refine WpV.cond rfl (fun hb => ?_) (fun hb => by cases hb)
      refine WpV.seq (WpV.regionE (by simp only [go_sem, reduceCtorEq, Nat.reduceAdd, Nat.reduceMul, Nat.reduceSub, Nat.reduceLT, Nat.reduceLeDiff, Nat.reduceEqDiff, Nat.reduceBEq, Nat.reducePow]; rfl) (Marks.nil _) ?_)
      simp only [Vthen, VinBlock, if_true, if_false, Nat.reduceEqDiff, reduceCtorEq]
      refine WpV.ret ⟨Marks.nil _, List.nodup_nil, _, by simp only [Tryz.results21]; simp only [go_sem, reduceCtorEq, Nat.reduceAdd, Nat.reduceMul, Nat.reduceSub, Nat.reduceLT, Nat.reduceLeDiff, Nat.reduceEqDiff, Nat.reduceBEq, Nat.reducePow]; rfl, ?_⟩
      exact ⟨by simp [placesF, h0], rfl⟩
    · have e0 : ((b.length : Int) == 0) = false := by simp; intro e; exact h0 (by rw [e]; rfl)
      refine WpV.seq (WpV.regionE (by simp only [go_sem, reduceCtorEq, Nat.reduceAdd, Nat.reduceMul, Nat.reduceSub, Nat.reduceLT, Nat.reduceLeDiff, Nat.reduceEqDiff, Nat.reduceBEq, Nat.reducePow, e0]; rfl) (Marks.nil _) ?_)
      simp only [Vthen, VinBlock, if_true, if_false, Nat.reduceEqDiff, reduceCtorEq]
      refine WpV.cond rfl (fun hb => by cases hb) (fun hb => WpV.skip ?_)
      simp only [Vthen, VinBlock, if_true, if_false, Nat.reduceEqDiff, reduceCtorEq]
      refine WpV.seq (WpV.regionE (by simp only [go_sem, reduceCtorEq, Nat.reduceAdd, Nat.reduceMul, Nat.reduceSub, Nat.reduceLT, Nat.reduceLeDiff, Nat.reduceEqDiff, Nat.reduceBEq, Nat.reducePow]; rfl) (Marks.nil _) ?_)
      simp only [Vthen, VinBlock, if_true, if_false, Nat.reduceEqDiff, reduceCtorEq]
      refine WpV.ret ⟨Marks.nil _, List.nodup_nil, _, by simp only [Tryz.results21]; simp only [go_sem, reduceCtorEq, Nat.reduceAdd, Nat.reduceMul, Nat.reduceSub, Nat.reduceLT, Nat.reduceLeDiff, Nat.reduceEqDiff, Nat.reduceBEq, Nat.reducePow]; rfl, ?_⟩
      exact ⟨by simp [placesF, h0], rfl⟩

def wrongP (most : Int) (looks : List Int) : Bool := decide (spreadF looks ≤ most)
theorem wrong_one (H : Hp) (most : Int) (l b : List Int) (hl : Tame l) : CallV Tryz.prog 80 [selfV (withoutF l b), .cp [vint most] 0] H (fun r H' => r = .bool (wrongP most (withoutF l b)) ∧ H' = H) := by
  have hlen : (withoutF l b).length ≤ l.length := withoutN_len l b l.length
  have hmem : ∀ x ∈ withoutF l b, x ∈ l := fun x hx => withoutF_mem hx
  generalize withoutF l b = rest at hlen hmem
  refine CallV.body Tryz.func80 rfl Tryz.ntmps80 (by rfl) ?_
  refine WpV.seq (WpV.regionE (by simp only [go_sem, reduceCtorEq, Nat.reduceAdd, Nat.reduceMul, Nat.reduceSub, Nat.reduceLT, Nat.reduceLeDiff, Nat.reduceEqDiff, Nat.reduceBEq, Nat.reducePow]; rfl) (Marks.nil _) ?_)
  simp only [Vthen, VinBlock, if_true, if_false, Nat.reduceEqDiff, reduceCtorEq]
  refine WpV.seq (WpV.regionD Tryz.mixed (by kernel_rfl) (by kernel_rfl) ?_)
  refine LexD.take 1 (by rfl) (by simp only [go_sem, reduceCtorEq, Nat.reduceAdd, Nat.reduceMul, Nat.reduceSub, Nat.reduceLT, Nat.reduceLeDiff, Nat.reduceEqDiff, Nat.reduceBEq, Nat.reducePow]; rfl) ?_
  refine LexD.step (by rfl) (by rfl) (OpW.callY rfl (by rfl) (by rfl) (by rfl) (enters_of Tryz.func47 (by kernel_rfl) rfl) (spread_any H _ _ rest ⟨by have := hl.1; omega, fun x hx => hl.2 x (hmem x hx)⟩)) ?_
  refine LexD.take 3 (by rfl) (by simp only [go_sem, reduceCtorEq, Nat.reduceAdd, Nat.reduceMul, Nat.reduceSub, Nat.reduceLT, Nat.reduceLeDiff, Nat.reduceEqDiff, Nat.reduceBEq, Nat.reducePow]; rfl) (LexD.nilE ⟨Marks.nil _, ?_⟩)
  simp only [Vthen, VinBlock, if_true, if_false, Nat.reduceEqDiff, reduceCtorEq]
  refine WpV.ret ⟨Marks.nil _, List.nodup_nil, _, by simp only [Tryz.results80]; simp only [go_sem, reduceCtorEq, Nat.reduceAdd, Nat.reduceMul, Nat.reduceSub, Nat.reduceLT, Nat.reduceLeDiff, Nat.reduceEqDiff, Nat.reduceBEq, Nat.reducePow]; rfl, ?_⟩
  exact ⟨rfl, rfl⟩

def rowO (x : Option (List Int)) : AV := match x with | some b => rowB b | none => .sl true true 0 []
theorem wrong_any (H : Hp) (c : Cs) (hc : c.Fair) (nl clip nl2 clip2 : Bool) (w gs : List Int) (most : Int) (hw : c.Word w) (hgl : gs.length = w.length - 1) (hgs : ∀ x ∈ gs, 0 ≤ x ∧ x ≤ 400) :
    CallV Tryz.prog 56 [.agg c.box, vints nl clip w, vints nl2 clip2 gs, vint most] H (fun r H' => r = rowO (fewestF (c.looksF w gs) (wrongP most)) ∧ H' = H) := by
  have ht := Cs.looks_tame hc hw hgl hgs
  have hll := Cs.looks_len (c := c) hgl
  have h := fewest_any H (true && decide ((c.looksF w gs).length = 0)) (decide ((c.looksF w gs).length = 0)) (c.looksF w gs) (by have := hw.2.1; omega) 80 [] [.cp [vint most] 0] (wrongP most) ⟨enters_of Tryz.func80 (by kernel_rfl) rfl, fun b H => wrong_one H most _ b ht⟩
  cases hf : fewestF (c.looksF w gs) (wrongP most) with
  | none =>
    rw [hf] at h
    unfold resF at h
    refine CallV.body Tryz.func56 rfl Tryz.ntmps56 (by rfl) ?_
    refine WpV.seq (WpV.regionE (by simp only [go_sem, reduceCtorEq, Nat.reduceAdd, Nat.reduceMul, Nat.reduceSub, Nat.reduceLT, Nat.reduceLeDiff, Nat.reduceEqDiff, Nat.reduceBEq, Nat.reducePow]; rfl) (Marks.nil _) ?_)
    simp only [Vthen, VinBlock, if_true, if_false, Nat.reduceEqDiff, reduceCtorEq]
    refine WpV.seq (WpV.region ?_)
    refine WpOps.take 3 (by simp only [go_sem, reduceCtorEq, Nat.reduceAdd, Nat.reduceMul, Nat.reduceSub, Nat.reduceLT, Nat.reduceLeDiff, Nat.reduceEqDiff, Nat.reduceBEq, Nat.reducePow]; rfl) ?_
    refine WpOps.step (by rfl) (by rfl) (OpW.callY rfl (by rfl) (by rfl) (by rfl) (enters_of Tryz.func46 (by kernel_rfl) rfl) ((looks_call H c hc nl clip nl2 clip2 w gs hw hgl hgs).mono ?_))
    rintro _ _ ⟨rfl, hH⟩
    replace hH := hH.symm
    subst hH
    refine WpOps.take 1 (by simp only [go_sem, reduceCtorEq, Nat.reduceAdd, Nat.reduceMul, Nat.reduceSub, Nat.reduceLT, Nat.reduceLeDiff, Nat.reduceEqDiff, Nat.reduceBEq, Nat.reducePow]; rfl) ?_
    refine WpOps.step (by rfl) (by rfl) (OpW.callY rfl (by rfl) (by rfl) (by rfl) (enters_of Tryz.func70 (by kernel_rfl) rfl) ((h).mono ?_))
    rintro _ _ ⟨rfl, hH⟩
    replace hH := hH.symm
    subst hH
    refine WpOps.take 5 (by simp only [go_sem, reduceCtorEq, Nat.reduceAdd, Nat.reduceMul, Nat.reduceSub, Nat.reduceLT, Nat.reduceLeDiff, Nat.reduceEqDiff, Nat.reduceBEq, Nat.reducePow]; rfl) (WpOps.nil ⟨Marks.nil _, ?_⟩)
    simp only [Vthen, VinBlock, if_true, if_false, Nat.reduceEqDiff, reduceCtorEq]
    refine WpV.seq (WpV.regionE (by simp only [go_sem, reduceCtorEq, Nat.reduceAdd, Nat.reduceMul, Nat.reduceSub, Nat.reduceLT, Nat.reduceLeDiff, Nat.reduceEqDiff, Nat.reduceBEq, Nat.reducePow]; rfl) (Marks.nil _) ?_)
    simp only [Vthen, VinBlock, if_true, if_false, Nat.reduceEqDiff, reduceCtorEq]
    refine WpV.ret ⟨Marks.nil _, List.nodup_nil, _, by simp only [Tryz.results56]; simp only [go_sem, reduceCtorEq, Nat.reduceAdd, Nat.reduceMul, Nat.reduceSub, Nat.reduceLT, Nat.reduceLeDiff, Nat.reduceEqDiff, Nat.reduceBEq, Nat.reducePow]; rfl, ?_⟩
    exact ⟨rfl, rfl⟩
  | some b =>
    rw [hf] at h
    unfold resF at h
    refine CallV.body Tryz.func56 rfl Tryz.ntmps56 (by rfl) ?_
    refine WpV.seq (WpV.regionE (by simp only [go_sem, reduceCtorEq, Nat.reduceAdd, Nat.reduceMul, Nat.reduceSub, Nat.reduceLT, Nat.reduceLeDiff, Nat.reduceEqDiff, Nat.reduceBEq, Nat.reducePow]; rfl) (Marks.nil _) ?_)
    simp only [Vthen, VinBlock, if_true, if_false, Nat.reduceEqDiff, reduceCtorEq]
    refine WpV.seq (WpV.region ?_)
    refine WpOps.take 3 (by simp only [go_sem, reduceCtorEq, Nat.reduceAdd, Nat.reduceMul, Nat.reduceSub, Nat.reduceLT, Nat.reduceLeDiff, Nat.reduceEqDiff, Nat.reduceBEq, Nat.reducePow]; rfl) ?_
    refine WpOps.step (by rfl) (by rfl) (OpW.callY rfl (by rfl) (by rfl) (by rfl) (enters_of Tryz.func46 (by kernel_rfl) rfl) ((looks_call H c hc nl clip nl2 clip2 w gs hw hgl hgs).mono ?_))
    rintro _ _ ⟨rfl, hH⟩
    replace hH := hH.symm
    subst hH
    refine WpOps.take 1 (by simp only [go_sem, reduceCtorEq, Nat.reduceAdd, Nat.reduceMul, Nat.reduceSub, Nat.reduceLT, Nat.reduceLeDiff, Nat.reduceEqDiff, Nat.reduceBEq, Nat.reducePow]; rfl) ?_
    refine WpOps.step (by rfl) (by rfl) (OpW.callY rfl (by rfl) (by rfl) (by rfl) (enters_of Tryz.func70 (by kernel_rfl) rfl) ((h).mono ?_))
    rintro _ _ ⟨rfl, hH⟩
    replace hH := hH.symm
    subst hH
    refine WpOps.take 5 (by simp only [go_sem, reduceCtorEq, Nat.reduceAdd, Nat.reduceMul, Nat.reduceSub, Nat.reduceLT, Nat.reduceLeDiff, Nat.reduceEqDiff, Nat.reduceBEq, Nat.reducePow]; rfl) (WpOps.nil ⟨Marks.nil _, ?_⟩)
    simp only [Vthen, VinBlock, if_true, if_false, Nat.reduceEqDiff, reduceCtorEq]
    refine WpV.seq (WpV.regionE (by simp only [go_sem, reduceCtorEq, Nat.reduceAdd, Nat.reduceMul, Nat.reduceSub, Nat.reduceLT, Nat.reduceLeDiff, Nat.reduceEqDiff, Nat.reduceBEq, Nat.reducePow]; rfl) (Marks.nil _) ?_)
    simp only [Vthen, VinBlock, if_true, if_false, Nat.reduceEqDiff, reduceCtorEq]
    refine WpV.ret ⟨Marks.nil _, List.nodup_nil, _, by simp only [Tryz.results56]; simp only [go_sem, reduceCtorEq, Nat.reduceAdd, Nat.reduceMul, Nat.reduceSub, Nat.reduceLT, Nat.reduceLeDiff, Nat.reduceEqDiff, Nat.reduceBEq, Nat.reducePow]; rfl, ?_⟩
    exact ⟨rfl, rfl⟩

def orTwice (x : Option (List Int)) : AV := match x with
  | none => .tup [.sl true true 0 [], vint 6]
  | some b => if b.length = 0 then .tup [.sl true true 0 [], vint 6] else .tup [rowB b, vint 0]
theorem Wrong_any (H : Hp) (c : Cs) (hc : c.Valid) (nl clip nl2 clip2 : Bool) (w gs : List Int) (most : Int) (hw : c.word w = true) (hg : gapsB w gs = true) (hm : 0 ≤ most ∧ most ≤ 400) :
    CallV Tryz.prog 33 [.agg c.cells, vints nl clip w, vints nl2 clip2 gs, vint most] H (fun r H' => r = orTwice (fewestF (c.looksF w gs) (wrongP most)) ∧ H' = H) := by
  have hW := Cs.word_iff.1 hw
  obtain ⟨hg1, hg2⟩ := gaps_iff.1 hg
  have h7 := hW.2.1
  have h1 := hW.1
  have h := wrong_any H c hc.fair nl clip nl2 clip2 w gs most hW (by omega) hg2
  have hmo := within_any H 0 400 false true [most] (by simp)
  rw [show insB 0 400 [most] = true by rw [insB_iff]; simpa using hm] at hmo
  refine CallV.body Tryz.func33 rfl Tryz.ntmps33 (by rfl) ?_
  refine WpV.seq (WpV.regionE (by simp only [go_sem, reduceCtorEq, Nat.reduceAdd, Nat.reduceMul, Nat.reduceSub, Nat.reduceLT, Nat.reduceLeDiff, Nat.reduceEqDiff, Nat.reduceBEq, Nat.reducePow]; rfl) (Marks.nil _) ?_)
  simp only [Vthen, VinBlock, if_true, if_false, Nat.reduceEqDiff, reduceCtorEq]
  refine WpV.seq ?_
  refine WpV.seq (WpV.region ?_)
  refine WpOps.take 3 (by simp only [go_sem, reduceCtorEq, Nat.reduceAdd, Nat.reduceMul, Nat.reduceSub, Nat.reduceLT, Nat.reduceLeDiff, Nat.reduceEqDiff, Nat.reduceBEq, Nat.reducePow]; rfl) ?_
  refine WpOps.step (by rfl) (by rfl) (OpW.callY rfl (by rfl) (by rfl) (by rfl) (enters_of Tryz.func45 (by kernel_rfl) rfl) ((checkGaps_ok H c hc nl clip nl2 clip2 w gs hw hg (by omega)).mono ?_))
  rintro _ _ ⟨rfl, hH⟩
  replace hH := hH.symm
  subst hH
  refine WpOps.take 1 (by simp only [go_sem, reduceCtorEq, Nat.reduceAdd, Nat.reduceMul, Nat.reduceSub, Nat.reduceLT, Nat.reduceLeDiff, Nat.reduceEqDiff, Nat.reduceBEq, Nat.reducePow]; rfl) (WpOps.nil ⟨Marks.nil _, ?_⟩)
  simp only [Vthen, VinBlock, if_true, if_false, Nat.reduceEqDiff, reduceCtorEq]
  refine WpV.seq (WpV.regionE (by simp only [go_sem, reduceCtorEq, Nat.reduceAdd, Nat.reduceMul, Nat.reduceSub, Nat.reduceLT, Nat.reduceLeDiff, Nat.reduceEqDiff, Nat.reduceBEq, Nat.reducePow]; rfl) (Marks.nil _) ?_)
  simp only [Vthen, VinBlock, if_true, if_false, Nat.reduceEqDiff, reduceCtorEq]
  refine WpV.cond rfl (fun hb => by cases hb) (fun hb => WpV.skip ?_)
  simp only [Vthen, VinBlock, if_true, if_false, Nat.reduceEqDiff, reduceCtorEq]
  refine WpV.seq ?_
  refine WpV.seq (WpV.region ?_)
  refine WpOps.take 2 (by simp only [go_sem, reduceCtorEq, Nat.reduceAdd, Nat.reduceMul, Nat.reduceSub, Nat.reduceLT, Nat.reduceLeDiff, Nat.reduceEqDiff, Nat.reduceBEq, Nat.reducePow]; rfl) ?_
  refine WpOps.step (by rfl) (by rfl) (OpW.callY rfl (by rfl) (by rfl) (by rfl) (enters_of Tryz.func49 (by kernel_rfl) rfl) ((hmo).mono ?_))
  rintro _ _ ⟨rfl, hH⟩
  replace hH := hH.symm
  subst hH
  refine WpOps.take 1 (by simp only [go_sem, reduceCtorEq, Nat.reduceAdd, Nat.reduceMul, Nat.reduceSub, Nat.reduceLT, Nat.reduceLeDiff, Nat.reduceEqDiff, Nat.reduceBEq, Nat.reducePow]; rfl) (WpOps.nil ⟨Marks.nil _, ?_⟩)
  simp only [Vthen, VinBlock, if_true, if_false, Nat.reduceEqDiff, reduceCtorEq]
  refine WpV.cond rfl (fun hb => by cases hb) (fun hb => WpV.skip ?_)
  simp only [Vthen, VinBlock, if_true, if_false, Nat.reduceEqDiff, reduceCtorEq]
  cases hf : fewestF (c.looksF w gs) (wrongP most) with
  | none =>
    rw [hf] at h
    unfold rowO at h
    refine WpV.seq (WpV.region ?_)
    refine WpOps.take 1 (by simp only [go_sem, reduceCtorEq, Nat.reduceAdd, Nat.reduceMul, Nat.reduceSub, Nat.reduceLT, Nat.reduceLeDiff, Nat.reduceEqDiff, Nat.reduceBEq, Nat.reducePow]; rfl) ?_
    refine WpOps.step (by rfl) (by rfl) (OpW.callY rfl (by rfl) (by rfl) (by rfl) (enters_of Tryz.func35 (by kernel_rfl) rfl) ((box_of H c hc.ok hc.keys).mono ?_))
    rintro _ _ ⟨rfl, hH⟩
    replace hH := hH.symm
    subst hH
    refine WpOps.take 3 (by simp only [go_sem, reduceCtorEq, Nat.reduceAdd, Nat.reduceMul, Nat.reduceSub, Nat.reduceLT, Nat.reduceLeDiff, Nat.reduceEqDiff, Nat.reduceBEq, Nat.reducePow]; rfl) ?_
    refine WpOps.step (by rfl) (by rfl) (OpW.callY rfl (by rfl) (by rfl) (by rfl) (enters_of Tryz.func56 (by kernel_rfl) rfl) ((h).mono ?_))
    rintro _ _ ⟨rfl, hH⟩
    replace hH := hH.symm
    subst hH
    refine WpOps.take 1 (by simp only [go_sem, reduceCtorEq, Nat.reduceAdd, Nat.reduceMul, Nat.reduceSub, Nat.reduceLT, Nat.reduceLeDiff, Nat.reduceEqDiff, Nat.reduceBEq, Nat.reducePow]; rfl) (WpOps.nil ⟨Marks.nil _, ?_⟩)
    simp only [Vthen, VinBlock, if_true, if_false, Nat.reduceEqDiff, reduceCtorEq]
    refine WpV.seq ?_
    refine WpV.seq (WpV.regionE (by simp only [go_sem, reduceCtorEq, Nat.reduceAdd, Nat.reduceMul, Nat.reduceSub, Nat.reduceLT, Nat.reduceLeDiff, Nat.reduceEqDiff, Nat.reduceBEq, Nat.reducePow]; rfl) (Marks.nil _) ?_)
    simp only [Vthen, VinBlock, if_true, if_false, Nat.reduceEqDiff, reduceCtorEq]
    refine WpV.cond rfl (fun hb => ?_) (fun hb => by cases hb)
    refine WpV.seq (WpV.regionE (by simp only [go_sem, reduceCtorEq, Nat.reduceAdd, Nat.reduceMul, Nat.reduceSub, Nat.reduceLT, Nat.reduceLeDiff, Nat.reduceEqDiff, Nat.reduceBEq, Nat.reducePow]; rfl) (Marks.nil _) ?_)
    simp only [Vthen, VinBlock, if_true, if_false, Nat.reduceEqDiff, reduceCtorEq]
    refine WpV.ret ⟨Marks.nil _, List.nodup_nil, _, by simp only [Tryz.results33]; simp only [go_sem, reduceCtorEq, Nat.reduceAdd, Nat.reduceMul, Nat.reduceSub, Nat.reduceLT, Nat.reduceLeDiff, Nat.reduceEqDiff, Nat.reduceBEq, Nat.reducePow]; rfl, ?_⟩
    exact ⟨rfl, rfl⟩
  | some b =>
    rw [hf] at h
    unfold rowO at h
    refine WpV.seq (WpV.region ?_)
    refine WpOps.take 1 (by simp only [go_sem, reduceCtorEq, Nat.reduceAdd, Nat.reduceMul, Nat.reduceSub, Nat.reduceLT, Nat.reduceLeDiff, Nat.reduceEqDiff, Nat.reduceBEq, Nat.reducePow]; rfl) ?_
    refine WpOps.step (by rfl) (by rfl) (OpW.callY rfl (by rfl) (by rfl) (by rfl) (enters_of Tryz.func35 (by kernel_rfl) rfl) ((box_of H c hc.ok hc.keys).mono ?_))
    rintro _ _ ⟨rfl, hH⟩
    replace hH := hH.symm
    subst hH
    refine WpOps.take 3 (by simp only [go_sem, reduceCtorEq, Nat.reduceAdd, Nat.reduceMul, Nat.reduceSub, Nat.reduceLT, Nat.reduceLeDiff, Nat.reduceEqDiff, Nat.reduceBEq, Nat.reducePow]; rfl) ?_
    refine WpOps.step (by rfl) (by rfl) (OpW.callY rfl (by rfl) (by rfl) (by rfl) (enters_of Tryz.func56 (by kernel_rfl) rfl) ((h).mono ?_))
    rintro _ _ ⟨rfl, hH⟩
    replace hH := hH.symm
    subst hH
    refine WpOps.take 1 (by simp only [go_sem, reduceCtorEq, Nat.reduceAdd, Nat.reduceMul, Nat.reduceSub, Nat.reduceLT, Nat.reduceLeDiff, Nat.reduceEqDiff, Nat.reduceBEq, Nat.reducePow]; rfl) (WpOps.nil ⟨Marks.nil _, ?_⟩)
    simp only [Vthen, VinBlock, if_true, if_false, Nat.reduceEqDiff, reduceCtorEq]
    refine WpV.seq ?_
    by_cases h0 : b.length = 0
    · have e0 : ((b.length : Int) == 0) = true := by rw [h0]; rfl
      refine WpV.seq (WpV.regionE (by simp only [go_sem, reduceCtorEq, Nat.reduceAdd, Nat.reduceMul, Nat.reduceSub, Nat.reduceLT, Nat.reduceLeDiff, Nat.reduceEqDiff, Nat.reduceBEq, Nat.reducePow, e0]; rfl) (Marks.nil _) ?_)
      simp only [Vthen, VinBlock, if_true, if_false, Nat.reduceEqDiff, reduceCtorEq]
      refine WpV.cond rfl (fun hb => ?_) (fun hb => by cases hb)
      refine WpV.seq (WpV.regionE (by simp only [go_sem, reduceCtorEq, Nat.reduceAdd, Nat.reduceMul, Nat.reduceSub, Nat.reduceLT, Nat.reduceLeDiff, Nat.reduceEqDiff, Nat.reduceBEq, Nat.reducePow]; rfl) (Marks.nil _) ?_)
      simp only [Vthen, VinBlock, if_true, if_false, Nat.reduceEqDiff, reduceCtorEq]
      refine WpV.ret ⟨Marks.nil _, List.nodup_nil, _, by simp only [Tryz.results33]; simp only [go_sem, reduceCtorEq, Nat.reduceAdd, Nat.reduceMul, Nat.reduceSub, Nat.reduceLT, Nat.reduceLeDiff, Nat.reduceEqDiff, Nat.reduceBEq, Nat.reducePow]; rfl, ?_⟩
      exact ⟨by simp [orTwice, h0], rfl⟩
    · have e0 : ((b.length : Int) == 0) = false := by simp; intro e; exact h0 (by rw [e]; rfl)
      refine WpV.seq (WpV.regionE (by simp only [go_sem, reduceCtorEq, Nat.reduceAdd, Nat.reduceMul, Nat.reduceSub, Nat.reduceLT, Nat.reduceLeDiff, Nat.reduceEqDiff, Nat.reduceBEq, Nat.reducePow, e0]; rfl) (Marks.nil _) ?_)
      simp only [Vthen, VinBlock, if_true, if_false, Nat.reduceEqDiff, reduceCtorEq]
      refine WpV.cond rfl (fun hb => by cases hb) (fun hb => WpV.skip ?_)
      simp only [Vthen, VinBlock, if_true, if_false, Nat.reduceEqDiff, reduceCtorEq]
      refine WpV.seq (WpV.regionE (by simp only [go_sem, reduceCtorEq, Nat.reduceAdd, Nat.reduceMul, Nat.reduceSub, Nat.reduceLT, Nat.reduceLeDiff, Nat.reduceEqDiff, Nat.reduceBEq, Nat.reducePow]; rfl) (Marks.nil _) ?_)
      simp only [Vthen, VinBlock, if_true, if_false, Nat.reduceEqDiff, reduceCtorEq]
      refine WpV.ret ⟨Marks.nil _, List.nodup_nil, _, by simp only [Tryz.results33]; simp only [go_sem, reduceCtorEq, Nat.reduceAdd, Nat.reduceMul, Nat.reduceSub, Nat.reduceLT, Nat.reduceLeDiff, Nat.reduceEqDiff, Nat.reduceBEq, Nat.reducePow]; rfl, ?_⟩
      exact ⟨by simp [orTwice, h0], rfl⟩
end Go.Proofs.YtaekibilldjnmaaGreat
namespace Go.Proofs.YtaekibilldjnmaaGreat
open Go.Proofs

def widthV (x : Int) : AV := if x < 1 then .tup [vint 0, vint 8] else .tup [vint x, vint 0]
theorem Widest_any (H : Hp) (c : Cs) (hc : c.Valid) (clip : Bool) (w : List Int) (k : Nat) (n : Int) (hw : c.word w = true) (hk : k < w.length) (hn : 1 ≤ n ∧ n ≤ 400) :
    CallV Tryz.prog 27 [.agg c.cells, vints false clip w, vint k, vint n] H (fun r H' => r = widthV (c.widestF w k n) ∧ H' = H) := by
  have hW := Cs.word_iff.1 hw
  have hl : w.length < 1000000 := by have := hW.2.1; omega
  have h1 := within_any H 0 (IntKind.i64.wrap ((w.length : Int) - 1)) false true [(k : Int)] (by simp)
  rw [show insB 0 (IntKind.i64.wrap ((w.length : Int) - 1)) [(k : Int)] = true by rw [insB_iff, wrap64 (by omega)]; simp; omega] at h1
  have h2 := lengths_any H false true [n] (by simp)
  rw [show insB 1 400 [n] = true by rw [insB_iff]; simpa using hn] at h2
  refine CallV.body Tryz.func27 rfl Tryz.ntmps27 (by rfl) ?_
  refine WpV.seq (WpV.regionE (by simp only [go_sem, reduceCtorEq, Nat.reduceAdd, Nat.reduceMul, Nat.reduceSub, Nat.reduceLT, Nat.reduceLeDiff, Nat.reduceEqDiff, Nat.reduceBEq, Nat.reducePow]; rfl) (Marks.nil _) ?_)
  simp only [Vthen, VinBlock, if_true, if_false, Nat.reduceEqDiff, reduceCtorEq]
  refine WpV.seq ?_
  refine WpV.seq (WpV.region ?_)
  refine WpOps.take 2 (by simp only [go_sem, reduceCtorEq, Nat.reduceAdd, Nat.reduceMul, Nat.reduceSub, Nat.reduceLT, Nat.reduceLeDiff, Nat.reduceEqDiff, Nat.reduceBEq, Nat.reducePow]; rfl) ?_
  refine WpOps.step (by rfl) (by rfl) (OpW.callY rfl (by rfl) (by rfl) (by rfl) (enters_of Tryz.func34 (by kernel_rfl) rfl) ((checkWord_ok H c hc false clip w hl hw).mono ?_))
  rintro _ _ ⟨rfl, hH⟩
  replace hH := hH.symm
  subst hH
  refine WpOps.take 1 (by simp only [go_sem, reduceCtorEq, Nat.reduceAdd, Nat.reduceMul, Nat.reduceSub, Nat.reduceLT, Nat.reduceLeDiff, Nat.reduceEqDiff, Nat.reduceBEq, Nat.reducePow]; rfl) (WpOps.nil ⟨Marks.nil _, ?_⟩)
  simp only [Vthen, VinBlock, if_true, if_false, Nat.reduceEqDiff, reduceCtorEq]
  refine WpV.seq (WpV.regionE (by simp only [go_sem, reduceCtorEq, Nat.reduceAdd, Nat.reduceMul, Nat.reduceSub, Nat.reduceLT, Nat.reduceLeDiff, Nat.reduceEqDiff, Nat.reduceBEq, Nat.reducePow]; rfl) (Marks.nil _) ?_)
  simp only [Vthen, VinBlock, if_true, if_false, Nat.reduceEqDiff, reduceCtorEq]
  refine WpV.cond rfl (fun hb => by cases hb) (fun hb => WpV.skip ?_)
  simp only [Vthen, VinBlock, if_true, if_false, Nat.reduceEqDiff, reduceCtorEq]
  refine WpV.seq ?_
  refine WpV.seq (WpV.region ?_)
  refine WpOps.take 5 (by simp only [go_sem, reduceCtorEq, Nat.reduceAdd, Nat.reduceMul, Nat.reduceSub, Nat.reduceLT, Nat.reduceLeDiff, Nat.reduceEqDiff, Nat.reduceBEq, Nat.reducePow]; rfl) ?_
  refine WpOps.step (by rfl) (by rfl) (OpW.callY rfl (by rfl) (by rfl) (by rfl) (enters_of Tryz.func49 (by kernel_rfl) rfl) ((h1).mono ?_))
  rintro _ _ ⟨rfl, hH⟩
  replace hH := hH.symm
  subst hH
  refine WpOps.take 1 (by simp only [go_sem, reduceCtorEq, Nat.reduceAdd, Nat.reduceMul, Nat.reduceSub, Nat.reduceLT, Nat.reduceLeDiff, Nat.reduceEqDiff, Nat.reduceBEq, Nat.reducePow]; rfl) (WpOps.nil ⟨Marks.nil _, ?_⟩)
  simp only [Vthen, VinBlock, if_true, if_false, Nat.reduceEqDiff, reduceCtorEq]
  refine WpV.cond rfl (fun hb => by cases hb) (fun hb => WpV.skip ?_)
  simp only [Vthen, VinBlock, if_true, if_false, Nat.reduceEqDiff, reduceCtorEq]
  refine WpV.seq ?_
  refine WpV.seq (WpV.region ?_)
  refine WpOps.take 2 (by simp only [go_sem, reduceCtorEq, Nat.reduceAdd, Nat.reduceMul, Nat.reduceSub, Nat.reduceLT, Nat.reduceLeDiff, Nat.reduceEqDiff, Nat.reduceBEq, Nat.reducePow]; rfl) ?_
  refine WpOps.step (by rfl) (by rfl) (OpW.callY rfl (by rfl) (by rfl) (by rfl) (enters_of Tryz.func50 (by kernel_rfl) rfl) ((h2).mono ?_))
  rintro _ _ ⟨rfl, hH⟩
  replace hH := hH.symm
  subst hH
  refine WpOps.take 1 (by simp only [go_sem, reduceCtorEq, Nat.reduceAdd, Nat.reduceMul, Nat.reduceSub, Nat.reduceLT, Nat.reduceLeDiff, Nat.reduceEqDiff, Nat.reduceBEq, Nat.reducePow]; rfl) (WpOps.nil ⟨Marks.nil _, ?_⟩)
  simp only [Vthen, VinBlock, if_true, if_false, Nat.reduceEqDiff, reduceCtorEq]
  refine WpV.cond rfl (fun hb => by cases hb) (fun hb => WpV.skip ?_)
  simp only [Vthen, VinBlock, if_true, if_false, Nat.reduceEqDiff, reduceCtorEq]
  refine WpV.seq (WpV.region ?_)
  refine WpOps.take 1 (by simp only [go_sem, reduceCtorEq, Nat.reduceAdd, Nat.reduceMul, Nat.reduceSub, Nat.reduceLT, Nat.reduceLeDiff, Nat.reduceEqDiff, Nat.reduceBEq, Nat.reducePow]; rfl) ?_
  refine WpOps.step (by rfl) (by rfl) (OpW.callY rfl (by rfl) (by rfl) (by rfl) (enters_of Tryz.func35 (by kernel_rfl) rfl) ((box_of H c hc.ok hc.keys).mono ?_))
  rintro _ _ ⟨rfl, hH⟩
  replace hH := hH.symm
  subst hH
  refine WpOps.take 3 (by simp only [go_sem, reduceCtorEq, Nat.reduceAdd, Nat.reduceMul, Nat.reduceSub, Nat.reduceLT, Nat.reduceLeDiff, Nat.reduceEqDiff, Nat.reduceBEq, Nat.reducePow]; rfl) ?_
  refine WpOps.step (by rfl) (by rfl) (OpW.callY rfl (by rfl) (by rfl) (by rfl) (enters_of Tryz.func51 (by kernel_rfl) rfl) ((widest_any H c hc clip w hW k hk n hn).mono ?_))
  rintro _ _ ⟨rfl, hH⟩
  replace hH := hH.symm
  subst hH
  refine WpOps.take 1 (by simp only [go_sem, reduceCtorEq, Nat.reduceAdd, Nat.reduceMul, Nat.reduceSub, Nat.reduceLT, Nat.reduceLeDiff, Nat.reduceEqDiff, Nat.reduceBEq, Nat.reducePow]; rfl) (WpOps.nil ⟨Marks.nil _, ?_⟩)
  simp only [Vthen, VinBlock, if_true, if_false, Nat.reduceEqDiff, reduceCtorEq]
  refine WpV.seq ?_
  by_cases h0 : c.widestF w k n < 1
  · refine WpV.seq (WpV.regionE (by simp only [go_sem, reduceCtorEq, Nat.reduceAdd, Nat.reduceMul, Nat.reduceSub, Nat.reduceLT, Nat.reduceLeDiff, Nat.reduceEqDiff, Nat.reduceBEq, Nat.reducePow, h0]; rfl) (Marks.nil _) ?_)
    simp only [Vthen, VinBlock, if_true, if_false, Nat.reduceEqDiff, reduceCtorEq]
    refine WpV.cond rfl (fun hb => ?_) (fun hb => by cases hb)
    refine WpV.seq (WpV.regionE (by simp only [go_sem, reduceCtorEq, Nat.reduceAdd, Nat.reduceMul, Nat.reduceSub, Nat.reduceLT, Nat.reduceLeDiff, Nat.reduceEqDiff, Nat.reduceBEq, Nat.reducePow]; rfl) (Marks.nil _) ?_)
    simp only [Vthen, VinBlock, if_true, if_false, Nat.reduceEqDiff, reduceCtorEq]
    refine WpV.ret ⟨Marks.nil _, List.nodup_nil, _, by simp only [Tryz.results27]; simp only [go_sem, reduceCtorEq, Nat.reduceAdd, Nat.reduceMul, Nat.reduceSub, Nat.reduceLT, Nat.reduceLeDiff, Nat.reduceEqDiff, Nat.reduceBEq, Nat.reducePow]; rfl, ?_⟩
    exact ⟨by simp [widthV, h0], rfl⟩
  · refine WpV.seq (WpV.regionE (by simp only [go_sem, reduceCtorEq, Nat.reduceAdd, Nat.reduceMul, Nat.reduceSub, Nat.reduceLT, Nat.reduceLeDiff, Nat.reduceEqDiff, Nat.reduceBEq, Nat.reducePow, h0]; rfl) (Marks.nil _) ?_)
    simp only [Vthen, VinBlock, if_true, if_false, Nat.reduceEqDiff, reduceCtorEq]
    refine WpV.cond rfl (fun hb => by cases hb) (fun hb => WpV.skip ?_)
    simp only [Vthen, VinBlock, if_true, if_false, Nat.reduceEqDiff, reduceCtorEq]
    refine WpV.seq (WpV.regionE (by simp only [go_sem, reduceCtorEq, Nat.reduceAdd, Nat.reduceMul, Nat.reduceSub, Nat.reduceLT, Nat.reduceLeDiff, Nat.reduceEqDiff, Nat.reduceBEq, Nat.reducePow]; rfl) (Marks.nil _) ?_)
    simp only [Vthen, VinBlock, if_true, if_false, Nat.reduceEqDiff, reduceCtorEq]
    refine WpV.ret ⟨Marks.nil _, List.nodup_nil, _, by simp only [Tryz.results27]; simp only [go_sem, reduceCtorEq, Nat.reduceAdd, Nat.reduceMul, Nat.reduceSub, Nat.reduceLT, Nat.reduceLeDiff, Nat.reduceEqDiff, Nat.reduceBEq, Nat.reducePow]; rfl, ?_⟩
    exact ⟨by simp [widthV, h0], rfl⟩

def Cs.wordsB (c : Cs) (rs : List Row) : Bool := rs.all fun r => c.word r.2.2
theorem Cs.wordsB_mem {c : Cs} {rs : List Row} (h : c.wordsB rs = true) : ∀ r ∈ rs, c.Word r.2.2 := fun r hr => Cs.word_iff.1 (List.all_eq_true.1 h r hr)
theorem rows_ok {c : Cs} {rs : List Row} (h : c.wordsB rs = true) (h5 : rs.length ≤ 5) : RowsOk rs := ⟨by omega, fun r hr => by have := (Cs.wordsB_mem h r hr).2.1; omega⟩
theorem checkLines_ok (H : Hp) (c : Cs) (hc : c.Valid) (nl clip : Bool) (rs : List Row) (n : Int) (h1 : 1 ≤ rs.length) (h5 : rs.length ≤ 5) (hw : c.wordsB rs = true) (hn : 1 ≤ n ∧ n ≤ 400) : CallV Tryz.prog 52 [.agg c.cells, vrows nl clip rs, vint n] H (fun r H' => r = vint 0 ∧ H' = H) := by
  have hws := words_any H c hc.ok nl clip rs (rows_ok hw h5)
  rw [show (rs.all fun r => c.word r.2.2) = true from hw] at hws
  have h2 := lengths_any H false true [n] (by simp)
  rw [show insB 1 400 [n] = true by rw [insB_iff]; simpa using hn] at h2
  have e0 : ((rs.length : Int) == 0) = false := by simp; intro e; rw [e] at h1; simp at h1
  have e5 : ¬ ((5 : Int) < (rs.length : Int)) := by omega
  refine CallV.body Tryz.func52 rfl Tryz.ntmps52 (by rfl) ?_
  refine WpV.seq (WpV.regionE (by simp only [go_sem, reduceCtorEq, Nat.reduceAdd, Nat.reduceMul, Nat.reduceSub, Nat.reduceLT, Nat.reduceLeDiff, Nat.reduceEqDiff, Nat.reduceBEq, Nat.reducePow]; rfl) (Marks.nil _) ?_)
  simp only [Vthen, VinBlock, if_true, if_false, Nat.reduceEqDiff, reduceCtorEq]
  refine WpV.seq (WpV.region ?_)
  refine WpOps.take 1 (by simp only [go_sem, reduceCtorEq, Nat.reduceAdd, Nat.reduceMul, Nat.reduceSub, Nat.reduceLT, Nat.reduceLeDiff, Nat.reduceEqDiff, Nat.reduceBEq, Nat.reducePow]; rfl) ?_
  refine WpOps.step (by rfl) (by rfl) (OpW.callY rfl (by rfl) (by rfl) (by rfl) (enters_of Tryz.func57 (by kernel_rfl) rfl) ((check_ok H c hc).mono ?_))
  rintro _ _ ⟨rfl, hH⟩
  replace hH := hH.symm
  subst hH
  refine WpOps.take 1 (by simp only [go_sem, reduceCtorEq, Nat.reduceAdd, Nat.reduceMul, Nat.reduceSub, Nat.reduceLT, Nat.reduceLeDiff, Nat.reduceEqDiff, Nat.reduceBEq, Nat.reducePow]; rfl) (WpOps.nil ⟨Marks.nil _, ?_⟩)
  simp only [Vthen, VinBlock, if_true, if_false, Nat.reduceEqDiff, reduceCtorEq]
  refine WpV.seq (WpV.block ?_)
  refine WpV.seq (WpV.regionE (by simp only [go_sem, reduceCtorEq, Nat.reduceAdd, Nat.reduceMul, Nat.reduceSub, Nat.reduceLT, Nat.reduceLeDiff, Nat.reduceEqDiff, Nat.reduceBEq, Nat.reducePow]; rfl) (Marks.nil _) ?_)
  simp only [Vthen, VinBlock, if_true, if_false, Nat.reduceEqDiff, reduceCtorEq]
  refine WpV.cond rfl (fun hb => by cases hb) (fun hb => ?_)
  refine WpV.seq (WpV.regionE (by simp only [go_sem, reduceCtorEq, Nat.reduceAdd, Nat.reduceMul, Nat.reduceSub, Nat.reduceLT, Nat.reduceLeDiff, Nat.reduceEqDiff, Nat.reduceBEq, Nat.reducePow, e0]; rfl) (Marks.nil _) ?_)
  simp only [Vthen, VinBlock, if_true, if_false, Nat.reduceEqDiff, reduceCtorEq]
  refine WpV.cond rfl (fun hb => by cases hb) (fun hb => ?_)
  refine WpV.seq (WpV.regionE (by simp only [go_sem, reduceCtorEq, Nat.reduceAdd, Nat.reduceMul, Nat.reduceSub, Nat.reduceLT, Nat.reduceLeDiff, Nat.reduceEqDiff, Nat.reduceBEq, Nat.reducePow, e5, gt_iff_lt]; rfl) (Marks.nil _) ?_)
  simp only [Vthen, VinBlock, if_true, if_false, Nat.reduceEqDiff, reduceCtorEq]
  refine WpV.cond rfl (fun hb => by cases hb) (fun hb => ?_)
  refine WpV.seq (WpV.region ?_)
  refine WpOps.take 2 (by simp only [go_sem, reduceCtorEq, Nat.reduceAdd, Nat.reduceMul, Nat.reduceSub, Nat.reduceLT, Nat.reduceLeDiff, Nat.reduceEqDiff, Nat.reduceBEq, Nat.reducePow]; rfl) ?_
  refine WpOps.step (by rfl) (by rfl) (OpW.callY rfl (by rfl) (by rfl) (by rfl) (enters_of Tryz.func76 (by kernel_rfl) rfl) ((hws).mono ?_))
  rintro _ _ ⟨rfl, hH⟩
  replace hH := hH.symm
  subst hH
  refine WpOps.take 2 (by simp only [go_sem, reduceCtorEq, Nat.reduceAdd, Nat.reduceMul, Nat.reduceSub, Nat.reduceLT, Nat.reduceLeDiff, Nat.reduceEqDiff, Nat.reduceBEq, Nat.reducePow]; rfl) (WpOps.nil ⟨Marks.nil _, ?_⟩)
  simp only [Vthen, VinBlock, if_true, if_false, Nat.reduceEqDiff, reduceCtorEq]
  refine WpV.cond rfl (fun hb => by cases hb) (fun hb => ?_)
  refine WpV.seq (WpV.region ?_)
  refine WpOps.take 2 (by simp only [go_sem, reduceCtorEq, Nat.reduceAdd, Nat.reduceMul, Nat.reduceSub, Nat.reduceLT, Nat.reduceLeDiff, Nat.reduceEqDiff, Nat.reduceBEq, Nat.reducePow]; rfl) ?_
  refine WpOps.step (by rfl) (by rfl) (OpW.callY rfl (by rfl) (by rfl) (by rfl) (enters_of Tryz.func50 (by kernel_rfl) rfl) ((h2).mono ?_))
  rintro _ _ ⟨rfl, hH⟩
  replace hH := hH.symm
  subst hH
  refine WpOps.take 2 (by simp only [go_sem, reduceCtorEq, Nat.reduceAdd, Nat.reduceMul, Nat.reduceSub, Nat.reduceLT, Nat.reduceLeDiff, Nat.reduceEqDiff, Nat.reduceBEq, Nat.reducePow]; rfl) (WpOps.nil ⟨Marks.nil _, ?_⟩)
  simp only [Vthen, VinBlock, if_true, if_false, Nat.reduceEqDiff, reduceCtorEq]
  refine WpV.cond rfl (fun hb => by cases hb) (fun hb => WpV.skip ?_)
  simp only [Vthen, VinBlock, if_true, if_false, Nat.reduceEqDiff, reduceCtorEq]
  refine WpV.seq (WpV.regionE (by simp only [go_sem, reduceCtorEq, Nat.reduceAdd, Nat.reduceMul, Nat.reduceSub, Nat.reduceLT, Nat.reduceLeDiff, Nat.reduceEqDiff, Nat.reduceBEq, Nat.reducePow]; rfl) (Marks.nil _) ?_)
  simp only [Vthen, VinBlock, if_true, if_false, Nat.reduceEqDiff, reduceCtorEq]
  refine WpV.ret ⟨Marks.nil _, List.nodup_nil, _, by simp only [Tryz.results52]; simp only [go_sem, reduceCtorEq, Nat.reduceAdd, Nat.reduceMul, Nat.reduceSub, Nat.reduceLT, Nat.reduceLeDiff, Nat.reduceEqDiff, Nat.reduceBEq, Nat.reducePow]; rfl, ?_⟩
  exact ⟨rfl, rfl⟩

theorem checkPlates_ok (H : Hp) (c : Cs) (hc : c.Valid) (nl clip nl2 clip2 : Bool) (rs : List Row) (ps : List Int) (h5 : rs.length ≤ 5) (h6 : ps.length ≤ 6) (hw : c.wordsB rs = true) (hp : ∀ x ∈ ps, 1 ≤ x ∧ x ≤ 400) : CallV Tryz.prog 54 [.agg c.cells, vrows nl clip rs, vints nl2 clip2 ps] H (fun r H' => r = vint 0 ∧ H' = H) := by
  have hws := words_any H c hc.ok nl clip rs (rows_ok hw h5)
  rw [show (rs.all fun r => c.word r.2.2) = true from hw] at hws
  have h2 := lengths_any H nl2 clip2 ps (by omega)
  rw [show insB 1 400 ps = true by rw [insB_iff]; exact hp] at h2
  have e5 : ¬ ((5 : Int) < (rs.length : Int)) := by omega
  have e6 : ¬ ((6 : Int) < (ps.length : Int)) := by omega
  refine CallV.body Tryz.func54 rfl Tryz.ntmps54 (by rfl) ?_
  refine WpV.seq (WpV.regionE (by simp only [go_sem, reduceCtorEq, Nat.reduceAdd, Nat.reduceMul, Nat.reduceSub, Nat.reduceLT, Nat.reduceLeDiff, Nat.reduceEqDiff, Nat.reduceBEq, Nat.reducePow]; rfl) (Marks.nil _) ?_)
  simp only [Vthen, VinBlock, if_true, if_false, Nat.reduceEqDiff, reduceCtorEq]
  refine WpV.seq (WpV.region ?_)
  refine WpOps.take 1 (by simp only [go_sem, reduceCtorEq, Nat.reduceAdd, Nat.reduceMul, Nat.reduceSub, Nat.reduceLT, Nat.reduceLeDiff, Nat.reduceEqDiff, Nat.reduceBEq, Nat.reducePow]; rfl) ?_
  refine WpOps.step (by rfl) (by rfl) (OpW.callY rfl (by rfl) (by rfl) (by rfl) (enters_of Tryz.func57 (by kernel_rfl) rfl) ((check_ok H c hc).mono ?_))
  rintro _ _ ⟨rfl, hH⟩
  replace hH := hH.symm
  subst hH
  refine WpOps.take 1 (by simp only [go_sem, reduceCtorEq, Nat.reduceAdd, Nat.reduceMul, Nat.reduceSub, Nat.reduceLT, Nat.reduceLeDiff, Nat.reduceEqDiff, Nat.reduceBEq, Nat.reducePow]; rfl) (WpOps.nil ⟨Marks.nil _, ?_⟩)
  simp only [Vthen, VinBlock, if_true, if_false, Nat.reduceEqDiff, reduceCtorEq]
  refine WpV.seq (WpV.block ?_)
  refine WpV.seq (WpV.regionE (by simp only [go_sem, reduceCtorEq, Nat.reduceAdd, Nat.reduceMul, Nat.reduceSub, Nat.reduceLT, Nat.reduceLeDiff, Nat.reduceEqDiff, Nat.reduceBEq, Nat.reducePow]; rfl) (Marks.nil _) ?_)
  simp only [Vthen, VinBlock, if_true, if_false, Nat.reduceEqDiff, reduceCtorEq]
  refine WpV.cond rfl (fun hb => by cases hb) (fun hb => ?_)
  refine WpV.seq (WpV.regionE (by simp only [go_sem, reduceCtorEq, Nat.reduceAdd, Nat.reduceMul, Nat.reduceSub, Nat.reduceLT, Nat.reduceLeDiff, Nat.reduceEqDiff, Nat.reduceBEq, Nat.reducePow, e5, e6, gt_iff_lt]; rfl) (Marks.nil _) ?_)
  simp only [Vthen, VinBlock, if_true, if_false, Nat.reduceEqDiff, reduceCtorEq]
  refine WpV.cond rfl (fun hb => by cases hb) (fun hb => ?_)
  refine WpV.seq (WpV.region ?_)
  refine WpOps.take 2 (by simp only [go_sem, reduceCtorEq, Nat.reduceAdd, Nat.reduceMul, Nat.reduceSub, Nat.reduceLT, Nat.reduceLeDiff, Nat.reduceEqDiff, Nat.reduceBEq, Nat.reducePow]; rfl) ?_
  refine WpOps.step (by rfl) (by rfl) (OpW.callY rfl (by rfl) (by rfl) (by rfl) (enters_of Tryz.func76 (by kernel_rfl) rfl) ((hws).mono ?_))
  rintro _ _ ⟨rfl, hH⟩
  replace hH := hH.symm
  subst hH
  refine WpOps.take 2 (by simp only [go_sem, reduceCtorEq, Nat.reduceAdd, Nat.reduceMul, Nat.reduceSub, Nat.reduceLT, Nat.reduceLeDiff, Nat.reduceEqDiff, Nat.reduceBEq, Nat.reducePow]; rfl) (WpOps.nil ⟨Marks.nil _, ?_⟩)
  simp only [Vthen, VinBlock, if_true, if_false, Nat.reduceEqDiff, reduceCtorEq]
  refine WpV.cond rfl (fun hb => by cases hb) (fun hb => ?_)
  refine WpV.seq (WpV.region ?_)
  refine WpOps.take 1 (by simp only [go_sem, reduceCtorEq, Nat.reduceAdd, Nat.reduceMul, Nat.reduceSub, Nat.reduceLT, Nat.reduceLeDiff, Nat.reduceEqDiff, Nat.reduceBEq, Nat.reducePow]; rfl) ?_
  refine WpOps.step (by rfl) (by rfl) (OpW.callY rfl (by rfl) (by rfl) (by rfl) (enters_of Tryz.func50 (by kernel_rfl) rfl) ((h2).mono ?_))
  rintro _ _ ⟨rfl, hH⟩
  replace hH := hH.symm
  subst hH
  refine WpOps.take 2 (by simp only [go_sem, reduceCtorEq, Nat.reduceAdd, Nat.reduceMul, Nat.reduceSub, Nat.reduceLT, Nat.reduceLeDiff, Nat.reduceEqDiff, Nat.reduceBEq, Nat.reducePow]; rfl) (WpOps.nil ⟨Marks.nil _, ?_⟩)
  simp only [Vthen, VinBlock, if_true, if_false, Nat.reduceEqDiff, reduceCtorEq]
  refine WpV.cond rfl (fun hb => by cases hb) (fun hb => WpV.skip ?_)
  simp only [Vthen, VinBlock, if_true, if_false, Nat.reduceEqDiff, reduceCtorEq]
  refine WpV.seq (WpV.regionE (by simp only [go_sem, reduceCtorEq, Nat.reduceAdd, Nat.reduceMul, Nat.reduceSub, Nat.reduceLT, Nat.reduceLeDiff, Nat.reduceEqDiff, Nat.reduceBEq, Nat.reducePow]; rfl) (Marks.nil _) ?_)
  simp only [Vthen, VinBlock, if_true, if_false, Nat.reduceEqDiff, reduceCtorEq]
  refine WpV.ret ⟨Marks.nil _, List.nodup_nil, _, by simp only [Tryz.results54]; simp only [go_sem, reduceCtorEq, Nat.reduceAdd, Nat.reduceMul, Nat.reduceSub, Nat.reduceLT, Nat.reduceLeDiff, Nat.reduceEqDiff, Nat.reduceBEq, Nat.reducePow]; rfl, ?_⟩
  exact ⟨rfl, rfl⟩

/-- The function value of 'picks'. -/
theorem picks_any (H : Hp) (c : Cs) (nl clip nl2 clip2 : Bool) (b : List Int) (rs : List Row) (ps : List Int) :
    CallV Tryz.prog 79 [.agg c.box, rowB b, vrows nl clip rs, vints nl2 clip2 ps] H (fun r H' => r = .fn (.func 100) [] [.cp [rowB b] 0, .cp [vrows nl clip rs] 0, .cp [vints nl2 clip2 ps] 0, .cp c.box 0] ∧ H' = H) := by
  refine CallV.body Tryz.func79 rfl Tryz.ntmps79 (by rfl) ?_
  refine WpV.seq (WpV.regionE (by simp only [go_sem, reduceCtorEq, Nat.reduceAdd, Nat.reduceMul, Nat.reduceSub, Nat.reduceLT, Nat.reduceLeDiff, Nat.reduceEqDiff, Nat.reduceBEq, Nat.reducePow]; rfl) (Marks.nil _) ?_)
  simp only [Vthen, VinBlock, if_true, if_false, Nat.reduceEqDiff, reduceCtorEq]
  refine WpV.seq (WpV.regionE (by simp only [go_sem, reduceCtorEq, Nat.reduceAdd, Nat.reduceMul, Nat.reduceSub, Nat.reduceLT, Nat.reduceLeDiff, Nat.reduceEqDiff, Nat.reduceBEq, Nat.reducePow]; rfl) (Marks.nil _) ?_)
  simp only [Vthen, VinBlock, if_true, if_false, Nat.reduceEqDiff, reduceCtorEq]
  refine WpV.ret ⟨Marks.nil _, List.nodup_nil, _, by simp only [Tryz.results79]; simp only [go_sem, reduceCtorEq, Nat.reduceAdd, Nat.reduceMul, Nat.reduceSub, Nat.reduceLT, Nat.reduceLeDiff, Nat.reduceEqDiff, Nat.reduceBEq, Nat.reducePow]; rfl, ?_⟩
  exact ⟨rfl, rfl⟩
end Go.Proofs.YtaekibilldjnmaaGreat
namespace Go.Proofs.YtaekibilldjnmaaGreat
open Go.Proofs

theorem itemsB_append (a b : List (List Int)) : itemsB (a ++ b) = itemsB a ++ itemsB b := List.map_append
def Cs.fits (c : Cs) (ws : List (List Int)) (ps : List Int) (b : List Int) (i : Nat) : Bool := !contB b (i : Int) && decide (c.needF [ws.getD b.length []] ≤ ps.getD i 0)
def picksN (c : Cs) (ws : List (List Int)) (ps : List Int) : Nat → List Int → List (List Int)
  | 0, b => [b]
  | n + 1, b => (List.range ps.length).flatMap fun i => if c.fits ws ps b i = true then picksN c ws ps n (b ++ [(i : Int)]) else []
def picksR (c : Cs) (ws : List (List Int)) (ps : List Int) (n : Nat) (b : List Int) (k : Nat) : List (List Int) := ((List.range ps.length).drop k).flatMap fun i => if c.fits ws ps b i = true then picksN c ws ps n (b ++ [(i : Int)]) else []
theorem picksR_step (c : Cs) (ws : List (List Int)) (ps : List Int) (n : Nat) (b : List Int) {k : Nat} (hk : k < ps.length) : picksR c ws ps n b k = (if c.fits ws ps b k = true then picksN c ws ps n (b ++ [(k : Int)]) else []) ++ picksR c ws ps n b (k + 1) := by
  unfold picksR
  rw [List.drop_eq_getElem_cons (by simpa using hk), List.flatMap_cons, List.getElem_range]
theorem picksR_end (c : Cs) (ws : List (List Int)) (ps : List Int) (n : Nat) (b : List Int) : picksR c ws ps n b ps.length = [] := by
  unfold picksR; rw [List.drop_of_length_le (by simp)]; rfl

set_option maxHeartbeats 4000000 in
theorem picks_seq (c : Cs) (hc : c.Fair) (nl clip nl2 clip2 : Bool) (rs : List Row) (ps : List Int) (h5 : rs.length ≤ 5) (h6 : ps.length ≤ 6) (hrs : ∀ r ∈ rs, c.Word r.2.2) : ∀ (n : Nat) (b : List Int), b.length + n = rs.length →
    Seqs Tryz.prog 100 [] [.cp [rowB b] 0, .cp [vrows nl clip rs] 0, .cp [vints nl2 clip2 ps] 0, .cp c.box 0] (itemsB (picksN c (rs.map (·.2.2)) ps n b))
  | 0, b, hb => by
    rintro y J Dn H ⟨yid, rfl⟩ hy hJ
    show CallV Tryz.prog 100 [.yl yid, .cp [rowB b] 0, .cp [vrows nl clip rs] 0, .cp [vints nl2 clip2 ps] 0, .cp c.box 0] H _
    have e0 : ((b.length : Int) == (rs.length : Int)) = true := by simp; omega
    refine CallV.body Tryz.func100 rfl Tryz.ntmps100 (by rfl) ?_
    refine WpV.seq (WpV.regionE (by simp only [go_sem, reduceCtorEq, Nat.reduceAdd, Nat.reduceMul, Nat.reduceSub, Nat.reduceLT, Nat.reduceLeDiff, Nat.reduceEqDiff, Nat.reduceBEq, Nat.reducePow]; rfl) (Marks.nil _) ?_)
    simp only [Vthen, VinBlock, if_true, if_false, Nat.reduceEqDiff, reduceCtorEq]
    refine WpV.seq ?_
    refine WpV.seq (WpV.regionE (by simp only [go_sem, reduceCtorEq, Nat.reduceAdd, Nat.reduceMul, Nat.reduceSub, Nat.reduceLT, Nat.reduceLeDiff, Nat.reduceEqDiff, Nat.reduceBEq, Nat.reducePow, e0]; rfl) (Marks.nil _) ?_)
    simp only [Vthen, VinBlock, if_true, if_false, Nat.reduceEqDiff, reduceCtorEq]
    refine WpV.cond rfl (fun hb => ?_) (fun hb => by cases hb)
    refine WpV.seq (WpV.region ?_)
    refine WpOps.take 2 (by simp only [go_sem, reduceCtorEq, Nat.reduceAdd, Nat.reduceMul, Nat.reduceSub, Nat.reduceLT, Nat.reduceLeDiff, Nat.reduceEqDiff, Nat.reduceBEq, Nat.reducePow]; rfl) ?_
    refine WpOps.step (by rfl) (by rfl) (OpW.mono (hy.now hJ _ _ (.tmp 14) #[.tmp 15] #[29] (by rfl) (by rfl) (by rfl)) ?_)
    rintro r H' hw
    refine WpOps.nil ⟨Marks.nil _, ?_⟩
    simp only [Vthen, VinBlock, if_true, if_false, Nat.reduceEqDiff, reduceCtorEq]
    refine WpV.ret ⟨Marks.nil _, List.nodup_nil, .tup [], by simp only [Tryz.results100]; rfl, ?_⟩
    rcases hw with ⟨-, h⟩ | ⟨-, h⟩
    · exact .inl h
    · exact .inr h
  | n + 1, b, hb => by
    rintro y J Dn H ⟨yid, rfl⟩ hy hJ
    show CallV Tryz.prog 100 [.yl yid, .cp [rowB b] 0, .cp [vrows nl clip rs] 0, .cp [vints nl2 clip2 ps] 0, .cp c.box 0] H _
    have e0 : ((b.length : Int) == (rs.length : Int)) = false := by simp; omega
    have hbl : b.length < rs.length := by omega
    have hblI : (b.length : Int) < (rs.length : Int) := by omega
    have hgr : (rs.map rowV)[b.length]? = some (rowV rs[b.length]) := by simp [hbl]
    have hwr := hrs rs[b.length] (List.getElem_mem _)
    have hwd : (rs.map (·.2.2)).getD b.length [] = rs[b.length].2.2 := by simp [List.getD_eq_getElem?_getD, hbl]
    refine CallV.body Tryz.func100 rfl Tryz.ntmps100 (by rfl) ?_
    refine WpV.seq (WpV.regionE (by simp only [go_sem, reduceCtorEq, Nat.reduceAdd, Nat.reduceMul, Nat.reduceSub, Nat.reduceLT, Nat.reduceLeDiff, Nat.reduceEqDiff, Nat.reduceBEq, Nat.reducePow]; rfl) (Marks.nil _) ?_)
    simp only [Vthen, VinBlock, if_true, if_false, Nat.reduceEqDiff, reduceCtorEq]
    refine WpV.seq ?_
    refine WpV.seq (WpV.regionE (by simp only [go_sem, reduceCtorEq, Nat.reduceAdd, Nat.reduceMul, Nat.reduceSub, Nat.reduceLT, Nat.reduceLeDiff, Nat.reduceEqDiff, Nat.reduceBEq, Nat.reducePow, e0]; rfl) (Marks.nil _) ?_)
    simp only [Vthen, VinBlock, if_true, if_false, Nat.reduceEqDiff, reduceCtorEq]
    refine WpV.cond rfl (fun hb => by cases hb) (fun hb => WpV.skip ?_)
    simp only [Vthen, VinBlock, if_true, if_false, Nat.reduceEqDiff, reduceCtorEq]
    refine WpV.seq (WpV.regionE (by simp only [go_sem, reduceCtorEq, Nat.reduceAdd, Nat.reduceMul, Nat.reduceSub, Nat.reduceLT, Nat.reduceLeDiff, Nat.reduceEqDiff, Nat.reduceBEq, Nat.reducePow]; rfl) (Marks.nil _) ?_)
    simp only [Vthen, VinBlock, if_true, if_false, Nat.reduceEqDiff, reduceCtorEq]
    refine WpV.block (WpV.loopD (ι := { q : Nat × List Nat × Hp × Hp // q.1 ≤ ps.length ∧ MarksOn q.2.1 q.2.2.1 q.2.2.2 ∧ J (itemsB (picksR c (rs.map (·.2.2)) ps n b q.1)) q.2.2.1 })
      (fun q => [(1, .cp [rowB b] 0), (2, .cp [vrows nl clip rs] 0), (3, .cp [vints nl2 clip2 ps] 0), (4, .cp c.box 0), (5, .cp [.yl yid] 0), (17, vints nl2 clip2 ps), (18, vint ps.length), (19, vint q.1.1)]) (fun q => q.1.2.2.2) (fun q => q.1.2.1) (fun q => ps.length - q.1.1) ⟨(0, [], H, H), Nat.zero_le _, rfl, hJ⟩ ?_ rfl rfl ?_)
    · exact Sub.cons rfl rfl (Sub.cons rfl rfl (Sub.cons rfl rfl (Sub.cons rfl rfl (Sub.cons rfl rfl (Sub.cons rfl rfl (Sub.cons rfl rfl (Sub.cons rfl rfl (Sub.nil _))))))))
    rintro ⟨⟨k, D, B, H1⟩, hk, hM, hJ1⟩
    simp only at hk hM hJ1 ⊢
    refine WpV.seq (WpV.regionE (by simp only [go_sem, reduceCtorEq, Nat.reduceAdd, Nat.reduceMul, Nat.reduceSub, Nat.reduceLT, Nat.reduceLeDiff, Nat.reduceEqDiff, Nat.reduceBEq, Nat.reducePow]; rfl) (hM.marks.1) ?_)
    simp only [Vthen, VinBlock, if_true, if_false, Nat.reduceEqDiff, reduceCtorEq]
    refine WpV.seq (WpV.cond rfl (fun hb => WpV.skip ?_) (fun hb => WpV.exit ?_))
    · have hlt : (k : Int) < (ps.length : Int) := of_decide_eq_true ‹_›
      have hlt' : k < ps.length := by omega
      have hg := ints_get ps hlt'
      have hgd : ps.getD k 0 = ps[k] := by simp [List.getD_eq_getElem?_getD, hlt']
      rw [picksR_step c _ ps n b hlt'] at hJ1
      have hct := contains_any H1 b.isEmpty b.isEmpty b (by omega) (k : Int)
      have hgo := goes_any H1 c hc rs[b.length].1 rs[b.length].2.1 rs[b.length].2.2 hwr ps[k]
      have skipCase : c.fits (rs.map (·.2.2)) ps b k = false → J (itemsB (picksR c (rs.map (·.2.2)) ps n b (k + 1))) B := by
        intro h; rw [h, if_neg (by decide), List.nil_append] at hJ1; exact hJ1
      simp only [Vthen, VinBlock, if_true, if_false, Nat.reduceEqDiff, reduceCtorEq]
      refine WpV.seq (WpV.block ?_)
      refine WpV.seq (WpV.regionE (by simp only [go_sem, reduceCtorEq, Nat.reduceAdd, Nat.reduceMul, Nat.reduceSub, Nat.reduceLT, Nat.reduceLeDiff, Nat.reduceEqDiff, Nat.reduceBEq, Nat.reducePow, hlt, hg]; rfl) (hM.marks.1) ?_)
      simp only [Vthen, VinBlock, if_true, if_false, Nat.reduceEqDiff, reduceCtorEq]
      refine WpV.seq ?_
      cases hcb : contB b (k : Int)
      · rw [hcb] at hct
        refine WpV.seq (WpV.regionD Tryz.mixed (by kernel_rfl) (by kernel_rfl) ?_)
        refine LexD.take 2 (by rfl) (by simp only [go_sem, reduceCtorEq, Nat.reduceAdd, Nat.reduceMul, Nat.reduceSub, Nat.reduceLT, Nat.reduceLeDiff, Nat.reduceEqDiff, Nat.reduceBEq, Nat.reducePow, hblI, hgr]; rfl) ?_
        refine LexD.step (by rfl) (by rfl) (OpW.callY rfl (by rfl) (by rfl) (by rfl) (enters_of Tryz.func101 (by kernel_rfl) rfl) (hct)) ?_
        refine LexD.take 8 (by rfl) (by simp only [go_sem, reduceCtorEq, Nat.reduceAdd, Nat.reduceMul, Nat.reduceSub, Nat.reduceLT, Nat.reduceLeDiff, Nat.reduceEqDiff, Nat.reduceBEq, Nat.reducePow, hblI, hgr]; rfl) ?_
        refine LexD.step (by rfl) (by rfl) (OpW.callY rfl (by rfl) (by rfl) (by rfl) (enters_of Tryz.func38 (by kernel_rfl) rfl) (hgo)) ?_
        refine LexD.take 2 (by rfl) (by simp only [go_sem, reduceCtorEq, Nat.reduceAdd, Nat.reduceMul, Nat.reduceSub, Nat.reduceLT, Nat.reduceLeDiff, Nat.reduceEqDiff, Nat.reduceBEq, Nat.reducePow, hblI, hgr]; rfl) (LexD.nilE ⟨hM.marks.1, ?_⟩)
        simp only [Vthen, VinBlock, if_true, if_false, Nat.reduceEqDiff, reduceCtorEq]
        refine WpV.cond rfl (fun hb => WpV.exit ?_) (fun hb => WpV.skip ?_)
        · simp only [Vthen, VinBlock, if_true, if_false, Nat.reduceEqDiff, reduceCtorEq]
          refine WpV.regionE (by simp only [go_sem, reduceCtorEq, Nat.reduceAdd, Nat.reduceMul, Nat.reduceSub, Nat.reduceLT, Nat.reduceLeDiff, Nat.reduceEqDiff, Nat.reduceBEq, Nat.reducePow]; rfl) (hM.marks.1) ?_
          simp only [Vthen, VinBlock, if_true, if_false, Nat.reduceEqDiff, reduceCtorEq]
          refine ⟨⟨(k + 1, D, B, H1), by simp only; omega, hM, skipCase (by unfold Cs.fits; rw [hcb, hwd, hgd]; simpa using hb)⟩, by simp only; omega, Sub.cons rfl rfl (Sub.cons rfl rfl (Sub.cons rfl rfl (Sub.cons rfl rfl (Sub.cons rfl rfl (Sub.cons rfl rfl (Sub.cons rfl rfl (Sub.cons rfl ?_ (Sub.nil _)))))))), rfl, rfl⟩
          rw [wrap64 (by omega)]; rfl
        · have hfit : c.fits (rs.map (·.2.2)) ps b k = true := by unfold Cs.fits; rw [hcb, hwd, hgd]; simpa using hb
          rw [hfit, if_pos rfl, itemsB_append] at hJ1
          have hrb : rowB (b ++ [(k : Int)]) = vints false false (b ++ [(k : Int)]) := by simp [rowB]
          have hpk := picks_any H1 c nl clip nl2 clip2 (b ++ [(k : Int)]) rs ps
          have ih := picks_seq c hc nl clip nl2 clip2 rs ps h5 h6 hrs n (b ++ [(k : Int)]) (by simp; omega)
          rw [hrb] at hpk ih
          simp only [Vthen, VinBlock, if_true, if_false, Nat.reduceEqDiff, reduceCtorEq]
          refine WpV.seq (WpV.regionD Tryz.mixed (by kernel_rfl) (by kernel_rfl) ?_)
          refine LexD.take 3 (by rfl) (by simp only [go_sem, reduceCtorEq, Nat.reduceAdd, Nat.reduceMul, Nat.reduceSub, Nat.reduceLT, Nat.reduceLeDiff, Nat.reduceEqDiff, Nat.reduceBEq, Nat.reducePow]; rfl) ?_
          refine LexD.step (by rfl) (by rfl) (OpW.callY rfl (by rfl) (by rfl) (by rfl) (enters_of Tryz.func74 (by kernel_rfl) rfl) (with_any H1 b.isEmpty b.isEmpty b k (by omega))) ?_
          refine LexD.take 2 (by rfl) (by simp only [go_sem, reduceCtorEq, Nat.reduceAdd, Nat.reduceMul, Nat.reduceSub, Nat.reduceLT, Nat.reduceLeDiff, Nat.reduceEqDiff, Nat.reduceBEq, Nat.reducePow]; rfl) ?_
          refine LexD.step (by rfl) (by rfl) (OpW.callY rfl (by rfl) (by rfl) (by rfl) (enters_of Tryz.func79 (by kernel_rfl) rfl) (hpk)) ?_
          refine LexD.nilE ⟨hM.marks.1, ?_⟩
          simp only [Vthen, VinBlock, if_true, if_false, Nat.reduceEqDiff, reduceCtorEq]
          refine WpV.block (WpV.rangeS (items := itemsB (picksN c (rs.map (·.2.2)) ps n (b ++ [(k : Int)]))) rfl (enters_of Tryz.func100 (by kernel_rfl) rfl) hM.marks.1 (by rfl) ih ?_)
          intro idm idl hne hm0 hl0
          have hMm : MarksOn (idm :: D) B (H1.set idm (some .mark)) := ⟨H1, hM, hm0, rfl⟩
          refine ⟨fun l H' => ∃ B' todo, MarksOn (idm :: D) B' H' ∧ l = itemsB todo ∧ J (l ++ itemsB (picksR c (rs.map (·.2.2)) ps n b (k + 1))) B',
            fun cc H' => cc = .ret ∧ ∃ B', MarksOn (idm :: D) B' H' ∧ Dn B', ⟨B, _, hMm, rfl, hJ1⟩, ?_, ?_, ?_⟩
          · rintro L x rest Bx Hx hx hLx ⟨B', todo, hM1, e2, hJ2⟩
            cases todo with
            | nil => simp at e2
            | cons bb todo =>
              simp only [itemsB, List.map_cons, List.cons.injEq] at e2
              obtain ⟨rfl, rfl⟩ := e2
              refine ⟨rfl, ?_⟩
              show WpV Tryz.prog (some idl) 51 _ _ ((45, rowB bb) :: _) [] Hx
              refine WpV.regionE (by simp only [go_sem, reduceCtorEq, Nat.reduceAdd, Nat.reduceMul, Nat.reduceSub, Nat.reduceLT, Nat.reduceLeDiff, Nat.reduceEqDiff, Nat.reduceBEq, Nat.reducePow]; rfl) (Marks.nil _) ?_
              simp only [Vthen, VinBlock, if_true, if_false, Nat.reduceEqDiff, reduceCtorEq]
              refine ⟨none, hx, WpV.block ?_⟩
              have hLy := (layOn_marks.2 hM1).trans hLx
              generalize hob : (Ob.loop 51 _ _ _ _ .busy none) = ob
              have hLb : LayOn ((idl, ob) :: (L ++ marksL (idm :: D))) B' (Hx.set idl (some ob)) := ⟨_, hLy, Hp.set_eq _ _ _, by rw [Hp.set_set]⟩
              refine WpV.seq (WpV.region ?_)
              refine WpOps.take 2 (by simp only [go_sem, reduceCtorEq, Nat.reduceAdd, Nat.reduceMul, Nat.reduceSub, Nat.reduceLT, Nat.reduceLeDiff, Nat.reduceEqDiff, Nat.reduceBEq, Nat.reducePow]; rfl) ?_
              refine WpOps.step (by rfl) (by rfl) (OpW.mono (hy _ _ _ _ _ hLb hJ2 _ _ (.tmp 46) #[.tmp 47] #[29] (by rfl) (by rfl) (by rfl)) ?_)
              rintro r H2 ⟨B2, ⟨H3, h3, h3n, rfl⟩, hw⟩
              obtain ⟨B3, e5, e6⟩ := LayOn.split h3
              have hback : (H3.set idl (some ob)).set idl none = H3 := by rw [Hp.set_set, Hp.set_same _ _ _ h3n]
              rcases hw with ⟨rfl, hJ3⟩ | ⟨rfl, hD⟩
              · refine WpOps.take 1 (by simp only [go_sem, reduceCtorEq, Nat.reduceAdd, Nat.reduceMul, Nat.reduceSub, Nat.reduceLT, Nat.reduceLeDiff, Nat.reduceEqDiff, Nat.reduceBEq, Nat.reducePow]; rfl) (WpOps.nil ⟨Marks.nil _, ?_⟩)
                simp only [Vthen, VinBlock, if_true, if_false, Nat.reduceEqDiff, reduceCtorEq]
                refine WpV.cond rfl (fun hb => by cases hb) (fun hb => WpV.skip ?_)
                refine ⟨⟨none, by rw [Hp.set_eq, hob]⟩, B3, by rw [hback]; exact e6, B2, todo, layOn_marks.1 e5, rfl, hJ3⟩
              · refine WpOps.take 1 (by simp only [go_sem, reduceCtorEq, Nat.reduceAdd, Nat.reduceMul, Nat.reduceSub, Nat.reduceLT, Nat.reduceLeDiff, Nat.reduceEqDiff, Nat.reduceBEq, Nat.reducePow]; rfl) (WpOps.nil ⟨Marks.nil _, ?_⟩)
                simp only [Vthen, VinBlock, if_true, if_false, Nat.reduceEqDiff, reduceCtorEq]
                refine WpV.cond rfl (fun hb => ?_) (fun hb => by cases hb)
                refine WpV.ret ⟨⟨none, by rw [Hp.set_eq, hob]⟩, B3, by rw [hback]; exact e6, rfl, B2, layOn_marks.1 e5, hD⟩
          · rintro H' ⟨B', todo, hM1, e2, hJ2⟩
            refine ⟨hM1.marks.1, ?_⟩
            simp only [Vthen, VinBlock, if_true, if_false, Nat.reduceEqDiff, reduceCtorEq]
            refine WpV.regionE (by simp only [go_sem, reduceCtorEq, Nat.reduceAdd, Nat.reduceMul, Nat.reduceSub, Nat.reduceLT, Nat.reduceLeDiff, Nat.reduceEqDiff, Nat.reduceBEq, Nat.reducePow]; rfl) (hM1.marks.1) ?_
            simp only [Vthen, VinBlock, if_true, if_false, Nat.reduceEqDiff, reduceCtorEq]
            refine ⟨⟨(k + 1, idm :: D, B', H'), by simp only; omega, hM1, hJ2⟩, by simp only; omega, Sub.cons rfl rfl (Sub.cons rfl rfl (Sub.cons rfl rfl (Sub.cons rfl rfl (Sub.cons rfl rfl (Sub.cons rfl rfl (Sub.cons rfl rfl (Sub.cons rfl ?_ (Sub.nil _)))))))), rfl, rfl⟩
            rw [wrap64 (by omega)]; rfl
          · rintro cc H' ⟨rfl, B', hM1, hD⟩
            refine ⟨hM1.marks.1, WpV.ret ?_⟩
            simp only [Vthen, VinBlock]
            refine ⟨hM1.marks.1, hM1.marks.2, .tup [], by simp only [Tryz.results100]; rfl, .inr ?_⟩
            rw [hM1.kill]; exact hD
      · rw [hcb] at hct
        refine WpV.seq (WpV.regionD Tryz.mixed (by kernel_rfl) (by kernel_rfl) ?_)
        refine LexD.take 2 (by rfl) (by simp only [go_sem, reduceCtorEq, Nat.reduceAdd, Nat.reduceMul, Nat.reduceSub, Nat.reduceLT, Nat.reduceLeDiff, Nat.reduceEqDiff, Nat.reduceBEq, Nat.reducePow]; rfl) ?_
        refine LexD.step (by rfl) (by rfl) (OpW.callY rfl (by rfl) (by rfl) (by rfl) (enters_of Tryz.func101 (by kernel_rfl) rfl) (hct)) ?_
        refine LexD.take 8 (by rfl) (by simp only [go_sem, reduceCtorEq, Nat.reduceAdd, Nat.reduceMul, Nat.reduceSub, Nat.reduceLT, Nat.reduceLeDiff, Nat.reduceEqDiff, Nat.reduceBEq, Nat.reducePow]; rfl) ?_
        refine LexD.take 3 (by rfl) (by simp only [go_sem, reduceCtorEq, Nat.reduceAdd, Nat.reduceMul, Nat.reduceSub, Nat.reduceLT, Nat.reduceLeDiff, Nat.reduceEqDiff, Nat.reduceBEq, Nat.reducePow]; rfl) (LexD.nilE ⟨hM.marks.1, ?_⟩)
        simp only [Vthen, VinBlock, if_true, if_false, Nat.reduceEqDiff, reduceCtorEq]
        refine WpV.cond rfl (fun hb => WpV.exit ?_) (fun hb => by cases hb)
        simp only [Vthen, VinBlock, if_true, if_false, Nat.reduceEqDiff, reduceCtorEq]
        refine WpV.regionE (by simp only [go_sem, reduceCtorEq, Nat.reduceAdd, Nat.reduceMul, Nat.reduceSub, Nat.reduceLT, Nat.reduceLeDiff, Nat.reduceEqDiff, Nat.reduceBEq, Nat.reducePow]; rfl) (hM.marks.1) ?_
        simp only [Vthen, VinBlock, if_true, if_false, Nat.reduceEqDiff, reduceCtorEq]
        refine ⟨⟨(k + 1, D, B, H1), by simp only; omega, hM, skipCase (by unfold Cs.fits; rw [hcb]; rfl)⟩, by simp only; omega, Sub.cons rfl rfl (Sub.cons rfl rfl (Sub.cons rfl rfl (Sub.cons rfl rfl (Sub.cons rfl rfl (Sub.cons rfl rfl (Sub.cons rfl rfl (Sub.cons rfl ?_ (Sub.nil _)))))))), rfl, rfl⟩
        rw [wrap64 (by omega)]; rfl
    · have hge : k = ps.length := by have := of_decide_eq_false ‹_›; omega
      subst hge
      rw [picksR_end] at hJ1
      simp only [Vthen, VinBlock, if_true, if_false, Nat.reduceEqDiff, reduceCtorEq]
      refine ⟨hM.marks.1, hM.marks.2, .tup [], by simp only [Tryz.results100]; rfl, .inl ?_⟩
      rw [hM.kill]; exact hJ1
end Go.Proofs.YtaekibilldjnmaaGreat
