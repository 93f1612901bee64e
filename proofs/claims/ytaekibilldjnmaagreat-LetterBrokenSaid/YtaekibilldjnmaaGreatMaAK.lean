/- 'alike', 'lay', Lay. 'own'. 'made'. 'known'. -/
import Derived.Test.YtaekibilldjnmaaGreatMaAJ
set_option linter.unusedVariables false
set_option linter.unusedSimpArgs false
set_option linter.unusedSectionVars false
namespace Go.Proofs.YtaekibilldjnmaaGreat
open Go.Proofs

theorem fillF_len {ms : List Int} {hi : Int} : ∀ {k : Nat} {g : List Int} {r : Int} {g' : List Int} {r' : Int}, fillF ms hi k g r = some (g', r') → g'.length = g.length
  | 0, g, r, g', r', h => by cases h; rfl
  | k + 1, g, r, g', r', h => by
    rw [fillF] at h
    split at h
    · cases h
    · rw [fillF_len h]; simp
theorem Cs.between_len {c : Cs} {w : List Int} {lo hi room : Int} {g : List Int} {r : Int} (h : c.betweenF w lo hi room = some (g, r)) : g.length = w.length - 1 := by
  have := fillF_len h; rw [this, Cs.openF_len]
def Cs.alikeStep (c : Cs) (w : List Int) (s room : Int) (st : Option (List Int)) (lo : Nat) : Option (List Int) :=
  match c.betweenF w lo ((lo : Int) + s) room with
  | none => st
  | some (g, r) => if (r == 0) = true then (match st with | none => some g | some b => if compareF g b < 0 then some g else some b) else st
def Cs.alikeN (c : Cs) (w : List Int) (s room : Int) (k : Nat) : Option (List Int) := (List.range k).foldl (c.alikeStep w s room) none
theorem Cs.alikeN_succ (c : Cs) (w : List Int) (s room : Int) (k : Nat) : c.alikeN w s room (k + 1) = c.alikeStep w s room (c.alikeN w s room k) k := by
  unfold Cs.alikeN; rw [List.range_succ, List.foldl_append]; rfl
theorem Cs.alikeN_len (c : Cs) (w : List Int) (s room : Int) : ∀ (k : Nat) (b : List Int), c.alikeN w s room k = some b → b.length = w.length - 1
  | 0, b, h => by cases h
  | k + 1, b, h => by
    rw [Cs.alikeN_succ] at h
    have ih := Cs.alikeN_len c w s room k
    unfold Cs.alikeStep at h
    split at h
    · exact ih b h
    · rename_i g r hb
      split at h
      · split at h
        · cases h; exact Cs.between_len hb
        · rename_i b' hst
          split at h
          · cases h; exact Cs.between_len hb
          · cases h; exact ih _ hst
      · exact ih b h
def rowP : Option (List Int) → AV | some g => vints false false g | none => .sl true true 0 []

set_option maxHeartbeats 4000000 in
theorem alike_any (H : Hp) (c : Cs) (hc : c.Fair) (nl clip : Bool) (w : List Int) (hw : c.Word w) (h2 : 2 ≤ w.length) (s room : Int) (hs : 0 ≤ s ∧ s ≤ 1500) (hr : 0 ≤ room ∧ room ≤ 1000) :
    CallV Tryz.prog 62 [.agg c.box, vints nl clip w, vint s, vint room] H (fun r H' => r = .tup [rowP (c.alikeN w s room (room + 6).toNat), .bool (c.alikeN w s room (room + 6).toNat).isSome] ∧ H' = H) := by
  have hl7 := hw.2.1
  have hN : ((room + 6).toNat : Int) = room + 6 := by omega
  have hby := beyond_any H room (by omega)
  rw [← hN] at hby
  generalize hNn : (room + 6).toNat = N at *
  refine CallV.body Tryz.func62 rfl Tryz.ntmps62 (by rfl) ?_
  refine WpV.seq (WpV.regionE (by simp only [go_sem, reduceCtorEq, Nat.reduceAdd, Nat.reduceMul, Nat.reduceSub, Nat.reduceLT, Nat.reduceLeDiff, Nat.reduceEqDiff, Nat.reduceBEq, Nat.reducePow]; rfl) (Marks.nil _) ?_)
  simp only [Vthen, VinBlock, if_true, if_false, Nat.reduceEqDiff, reduceCtorEq]
  refine WpV.seq ?_
  refine WpV.seq (WpV.region ?_)
  refine WpOps.take 1 (by simp only [go_sem, reduceCtorEq, Nat.reduceAdd, Nat.reduceMul, Nat.reduceSub, Nat.reduceLT, Nat.reduceLeDiff, Nat.reduceEqDiff, Nat.reduceBEq, Nat.reducePow]; rfl) ?_
  refine WpOps.step (by rfl) (by rfl) (OpW.callY rfl (by rfl) (by rfl) (by rfl) (enters_of Tryz.func61 (by kernel_rfl) rfl) ((hby).mono ?_))
  rintro _ _ ⟨rfl, hH⟩
  replace hH := hH.symm
  subst hH
  refine WpOps.take 1 (by simp only [go_sem, reduceCtorEq, Nat.reduceAdd, Nat.reduceMul, Nat.reduceSub, Nat.reduceLT, Nat.reduceLeDiff, Nat.reduceEqDiff, Nat.reduceBEq, Nat.reducePow]; rfl) (WpOps.nil ⟨Marks.nil _, ?_⟩)
  simp only [Vthen, VinBlock, if_true, if_false, Nat.reduceEqDiff, reduceCtorEq]
  refine WpV.block (WpV.loopN N (fun k => [(1, vints nl clip w), (2, vint s), (3, vint room), (4, .cp c.box 0), (8, rowP (c.alikeN w s room k)), (9, .bool (c.alikeN w s room k).isSome), (14, vint N), (15, vint k)]) (fun _ => H) ?_ rfl ?_)
  · exact .cons rfl rfl (.cons rfl rfl (.cons rfl rfl (.cons rfl rfl (.cons rfl rfl (.cons rfl rfl (.cons rfl rfl (.cons rfl rfl (.nil _))))))))
  · intro k hk
    refine WpV.seq (WpV.regionE (by simp only [go_sem, reduceCtorEq, Nat.reduceAdd, Nat.reduceMul, Nat.reduceSub, Nat.reduceLT, Nat.reduceLeDiff, Nat.reduceEqDiff, Nat.reduceBEq, Nat.reducePow]; rfl) (Marks.nil _) ?_)
    simp only [Vthen, VinBlock, if_true, if_false, Nat.reduceEqDiff, reduceCtorEq]
    refine WpV.seq (WpV.cond rfl (fun hb => WpV.skip ?_) (fun hb => WpV.exit ?_))
    · have hlt : (k : Int) < (N : Int) := of_decide_eq_true ‹_›
      have hlt' : k < N := by omega
      have hw1 : IntKind.i64.wrap ((k : Int) + s) = (k : Int) + s := wrap64 (by omega)
      have hbt := between_any H c hc nl clip w hw h2 k ((k : Int) + s) room (by omega) (by omega) (by omega)
      have hsu := Cs.alikeN_succ c w s room k
      unfold Cs.alikeStep at hsu
      have hlen := Cs.alikeN_len c w s room k
      generalize hst : c.alikeN w s room k = st at *
      have hnext : IntKind.i64.wrap ((k : Int) + 1) = ((k + 1 : Nat) : Int) := by rw [wrap64 (by omega)]; rfl
      simp only [Vthen, VinBlock, if_true, if_false, Nat.reduceEqDiff, reduceCtorEq]
      refine WpV.seq (WpV.block ?_)
      refine WpV.seq (WpV.regionE (by simp only [go_sem, reduceCtorEq, Nat.reduceAdd, Nat.reduceMul, Nat.reduceSub, Nat.reduceLT, Nat.reduceLeDiff, Nat.reduceEqDiff, Nat.reduceBEq, Nat.reducePow]; rfl) (Marks.nil _) ?_)
      simp only [Vthen, VinBlock, if_true, if_false, Nat.reduceEqDiff, reduceCtorEq]
      cases hbf : c.betweenF w k ((k : Int) + s) room with
      | none =>
        rw [hbf] at hbt hsu
        unfold betweenV at hbt
        simp only at hsu
        refine WpV.seq (WpV.region ?_)
        refine WpOps.take 8 (by simp only [go_sem, reduceCtorEq, Nat.reduceAdd, Nat.reduceMul, Nat.reduceSub, Nat.reduceLT, Nat.reduceLeDiff, Nat.reduceEqDiff, Nat.reduceBEq, Nat.reducePow, hw1]; rfl) ?_
        refine WpOps.step (by rfl) (by rfl) (OpW.callY rfl (by rfl) (by rfl) (by rfl) (enters_of Tryz.func85 (by kernel_rfl) rfl) ((hbt).mono ?_))
        rintro _ _ ⟨rfl, hH⟩
        replace hH := hH.symm
        subst hH
        refine WpOps.take 5 (by simp only [go_sem, reduceCtorEq, Nat.reduceAdd, Nat.reduceMul, Nat.reduceSub, Nat.reduceLT, Nat.reduceLeDiff, Nat.reduceEqDiff, Nat.reduceBEq, Nat.reducePow, hw1]; rfl) (WpOps.nil ⟨Marks.nil _, ?_⟩)
        simp only [Vthen, VinBlock, if_true, if_false, Nat.reduceEqDiff, reduceCtorEq]
        refine WpV.seq (WpV.region ?_)
        refine WpOps.take 8 (by simp only [go_sem, reduceCtorEq, Nat.reduceAdd, Nat.reduceMul, Nat.reduceSub, Nat.reduceLT, Nat.reduceLeDiff, Nat.reduceEqDiff, Nat.reduceBEq, Nat.reducePow]; rfl) ?_
        refine WpOps.take 3 (by simp only [go_sem, reduceCtorEq, Nat.reduceAdd, Nat.reduceMul, Nat.reduceSub, Nat.reduceLT, Nat.reduceLeDiff, Nat.reduceEqDiff, Nat.reduceBEq, Nat.reducePow]; rfl) (WpOps.nil ⟨Marks.nil _, ?_⟩)
        simp only [Vthen, VinBlock, if_true, if_false, Nat.reduceEqDiff, reduceCtorEq]
        refine WpV.cond rfl (fun hb => by cases hb) (fun hb => WpV.skip ?_)
        simp only [Vthen, VinBlock, if_true, if_false, Nat.reduceEqDiff, reduceCtorEq]
        refine WpV.regionE (by simp only [go_sem, reduceCtorEq, Nat.reduceAdd, Nat.reduceMul, Nat.reduceSub, Nat.reduceLT, Nat.reduceLeDiff, Nat.reduceEqDiff, Nat.reduceBEq, Nat.reducePow]; rfl) (Marks.nil _) ?_
        simp only [Vthen, VinBlock, if_true, if_false, Nat.reduceEqDiff, reduceCtorEq]
        refine ⟨by first | rfl | trivial, hlt', .cons rfl rfl (.cons rfl rfl (.cons rfl rfl (.cons rfl rfl (.cons rfl (by rw [hsu]) (.cons rfl (by rw [hsu]) (.cons rfl rfl (.cons rfl ?_ (.nil _)))))))), by first | rfl | trivial⟩
        rw [hnext]
      | some gr =>
        obtain ⟨g, r⟩ := gr
        have hgl := Cs.between_len hbf
        rw [hbf] at hbt hsu
        unfold betweenV at hbt
        simp only at hsu hbt
        cases hr0 : (r == 0)
        · rw [hr0] at hbt
          rw [if_neg (by rw [hr0]; decide)] at hsu
          refine WpV.seq (WpV.region ?_)
          refine WpOps.take 8 (by simp only [go_sem, reduceCtorEq, Nat.reduceAdd, Nat.reduceMul, Nat.reduceSub, Nat.reduceLT, Nat.reduceLeDiff, Nat.reduceEqDiff, Nat.reduceBEq, Nat.reducePow, hw1]; rfl) ?_
          refine WpOps.step (by rfl) (by rfl) (OpW.callY rfl (by rfl) (by rfl) (by rfl) (enters_of Tryz.func85 (by kernel_rfl) rfl) ((hbt).mono ?_))
          rintro _ _ ⟨rfl, hH⟩
          replace hH := hH.symm
          subst hH
          refine WpOps.take 5 (by simp only [go_sem, reduceCtorEq, Nat.reduceAdd, Nat.reduceMul, Nat.reduceSub, Nat.reduceLT, Nat.reduceLeDiff, Nat.reduceEqDiff, Nat.reduceBEq, Nat.reducePow, hw1]; rfl) (WpOps.nil ⟨Marks.nil _, ?_⟩)
          simp only [Vthen, VinBlock, if_true, if_false, Nat.reduceEqDiff, reduceCtorEq]
          refine WpV.seq (WpV.region ?_)
          refine WpOps.take 8 (by simp only [go_sem, reduceCtorEq, Nat.reduceAdd, Nat.reduceMul, Nat.reduceSub, Nat.reduceLT, Nat.reduceLeDiff, Nat.reduceEqDiff, Nat.reduceBEq, Nat.reducePow]; rfl) ?_
          refine WpOps.take 3 (by simp only [go_sem, reduceCtorEq, Nat.reduceAdd, Nat.reduceMul, Nat.reduceSub, Nat.reduceLT, Nat.reduceLeDiff, Nat.reduceEqDiff, Nat.reduceBEq, Nat.reducePow]; rfl) (WpOps.nil ⟨Marks.nil _, ?_⟩)
          simp only [Vthen, VinBlock, if_true, if_false, Nat.reduceEqDiff, reduceCtorEq]
          refine WpV.cond rfl (fun hb => by cases hb) (fun hb => WpV.skip ?_)
          simp only [Vthen, VinBlock, if_true, if_false, Nat.reduceEqDiff, reduceCtorEq]
          refine WpV.regionE (by simp only [go_sem, reduceCtorEq, Nat.reduceAdd, Nat.reduceMul, Nat.reduceSub, Nat.reduceLT, Nat.reduceLeDiff, Nat.reduceEqDiff, Nat.reduceBEq, Nat.reducePow]; rfl) (Marks.nil _) ?_
          simp only [Vthen, VinBlock, if_true, if_false, Nat.reduceEqDiff, reduceCtorEq]
          refine ⟨by first | rfl | trivial, hlt', .cons rfl rfl (.cons rfl rfl (.cons rfl rfl (.cons rfl rfl (.cons rfl (by rw [hsu]) (.cons rfl (by rw [hsu]) (.cons rfl rfl (.cons rfl ?_ (.nil _)))))))), by first | rfl | trivial⟩
          rw [hnext]
        · rw [hr0] at hbt
          rw [if_pos hr0] at hsu
          refine WpV.seq (WpV.region ?_)
          refine WpOps.take 8 (by simp only [go_sem, reduceCtorEq, Nat.reduceAdd, Nat.reduceMul, Nat.reduceSub, Nat.reduceLT, Nat.reduceLeDiff, Nat.reduceEqDiff, Nat.reduceBEq, Nat.reducePow, hw1]; rfl) ?_
          refine WpOps.step (by rfl) (by rfl) (OpW.callY rfl (by rfl) (by rfl) (by rfl) (enters_of Tryz.func85 (by kernel_rfl) rfl) ((hbt).mono ?_))
          rintro _ _ ⟨rfl, hH⟩
          replace hH := hH.symm
          subst hH
          refine WpOps.take 5 (by simp only [go_sem, reduceCtorEq, Nat.reduceAdd, Nat.reduceMul, Nat.reduceSub, Nat.reduceLT, Nat.reduceLeDiff, Nat.reduceEqDiff, Nat.reduceBEq, Nat.reducePow, hw1]; rfl) (WpOps.nil ⟨Marks.nil _, ?_⟩)
          simp only [Vthen, VinBlock, if_true, if_false, Nat.reduceEqDiff, reduceCtorEq]
          cases st with
          | none =>
            simp only at hsu
            refine WpV.seq (WpV.region ?_)
            refine WpOps.take 8 (by simp only [go_sem, reduceCtorEq, Nat.reduceAdd, Nat.reduceMul, Nat.reduceSub, Nat.reduceLT, Nat.reduceLeDiff, Nat.reduceEqDiff, Nat.reduceBEq, Nat.reducePow, Option.isSome_none]; rfl) ?_
            refine WpOps.take 3 (by simp only [go_sem, reduceCtorEq, Nat.reduceAdd, Nat.reduceMul, Nat.reduceSub, Nat.reduceLT, Nat.reduceLeDiff, Nat.reduceEqDiff, Nat.reduceBEq, Nat.reducePow, Option.isSome_none]; rfl) (WpOps.nil ⟨Marks.nil _, ?_⟩)
            simp only [Vthen, VinBlock, if_true, if_false, Nat.reduceEqDiff, reduceCtorEq]
            refine WpV.cond rfl (fun hb => ?_) (fun hb => by cases hb)
            refine WpV.regionE (by simp only [go_sem, reduceCtorEq, Nat.reduceAdd, Nat.reduceMul, Nat.reduceSub, Nat.reduceLT, Nat.reduceLeDiff, Nat.reduceEqDiff, Nat.reduceBEq, Nat.reducePow]; rfl) (Marks.nil _) ?_
            simp only [Vthen, VinBlock, if_true, if_false, Nat.reduceEqDiff, reduceCtorEq]
            refine WpV.regionE (by simp only [go_sem, reduceCtorEq, Nat.reduceAdd, Nat.reduceMul, Nat.reduceSub, Nat.reduceLT, Nat.reduceLeDiff, Nat.reduceEqDiff, Nat.reduceBEq, Nat.reducePow]; rfl) (Marks.nil _) ?_
            simp only [Vthen, VinBlock, if_true, if_false, Nat.reduceEqDiff, reduceCtorEq]
            refine ⟨by first | rfl | trivial, hlt', .cons rfl rfl (.cons rfl rfl (.cons rfl rfl (.cons rfl rfl (.cons rfl (by rw [hsu]; rfl) (.cons rfl (by rw [hsu]; rfl) (.cons rfl rfl (.cons rfl ?_ (.nil _)))))))), by first | rfl | trivial⟩
            rw [hnext]
          | some b =>
            simp only at hsu
            have hbl := hlen b rfl
            have hcm := compare_any H false false false false g b (by omega) (by omega)
            by_cases hcl : compareF g b < 0
            · rw [if_pos hcl] at hsu
              refine WpV.seq (WpV.region ?_)
              refine WpOps.take 7 (by simp only [go_sem, reduceCtorEq, Nat.reduceAdd, Nat.reduceMul, Nat.reduceSub, Nat.reduceLT, Nat.reduceLeDiff, Nat.reduceEqDiff, Nat.reduceBEq, Nat.reducePow, Option.isSome_some, rowP, hcl]; rfl) ?_
              refine WpOps.step (by rfl) (by rfl) (OpW.callY rfl (by rfl) (by rfl) (by rfl) (enters_of Tryz.func86 (by kernel_rfl) rfl) ((hcm).mono ?_))
              rintro _ _ ⟨rfl, hH⟩
              replace hH := hH.symm
              subst hH
              refine WpOps.take 3 (by simp only [go_sem, reduceCtorEq, Nat.reduceAdd, Nat.reduceMul, Nat.reduceSub, Nat.reduceLT, Nat.reduceLeDiff, Nat.reduceEqDiff, Nat.reduceBEq, Nat.reducePow, Option.isSome_some, rowP, hcl]; rfl) (WpOps.nil ⟨Marks.nil _, ?_⟩)
              simp only [Vthen, VinBlock, if_true, if_false, Nat.reduceEqDiff, reduceCtorEq]
              refine WpV.cond rfl (fun hb => ?_) (fun hb => by cases hb)
              refine WpV.regionE (by simp only [go_sem, reduceCtorEq, Nat.reduceAdd, Nat.reduceMul, Nat.reduceSub, Nat.reduceLT, Nat.reduceLeDiff, Nat.reduceEqDiff, Nat.reduceBEq, Nat.reducePow]; rfl) (Marks.nil _) ?_
              simp only [Vthen, VinBlock, if_true, if_false, Nat.reduceEqDiff, reduceCtorEq]
              refine WpV.regionE (by simp only [go_sem, reduceCtorEq, Nat.reduceAdd, Nat.reduceMul, Nat.reduceSub, Nat.reduceLT, Nat.reduceLeDiff, Nat.reduceEqDiff, Nat.reduceBEq, Nat.reducePow]; rfl) (Marks.nil _) ?_
              simp only [Vthen, VinBlock, if_true, if_false, Nat.reduceEqDiff, reduceCtorEq]
              refine ⟨by first | rfl | trivial, hlt', .cons rfl rfl (.cons rfl rfl (.cons rfl rfl (.cons rfl rfl (.cons rfl (by rw [hsu]; rfl) (.cons rfl (by rw [hsu]; rfl) (.cons rfl rfl (.cons rfl ?_ (.nil _)))))))), by first | rfl | trivial⟩
              rw [hnext]
            · rw [if_neg hcl] at hsu
              refine WpV.seq (WpV.region ?_)
              refine WpOps.take 7 (by simp only [go_sem, reduceCtorEq, Nat.reduceAdd, Nat.reduceMul, Nat.reduceSub, Nat.reduceLT, Nat.reduceLeDiff, Nat.reduceEqDiff, Nat.reduceBEq, Nat.reducePow, Option.isSome_some, rowP, hcl]; rfl) ?_
              refine WpOps.step (by rfl) (by rfl) (OpW.callY rfl (by rfl) (by rfl) (by rfl) (enters_of Tryz.func86 (by kernel_rfl) rfl) ((hcm).mono ?_))
              rintro _ _ ⟨rfl, hH⟩
              replace hH := hH.symm
              subst hH
              refine WpOps.take 3 (by simp only [go_sem, reduceCtorEq, Nat.reduceAdd, Nat.reduceMul, Nat.reduceSub, Nat.reduceLT, Nat.reduceLeDiff, Nat.reduceEqDiff, Nat.reduceBEq, Nat.reducePow, Option.isSome_some, rowP, hcl]; rfl) (WpOps.nil ⟨Marks.nil _, ?_⟩)
              simp only [Vthen, VinBlock, if_true, if_false, Nat.reduceEqDiff, reduceCtorEq]
              refine WpV.cond rfl (fun hb => by cases hb) (fun hb => WpV.skip ?_)
              simp only [Vthen, VinBlock, if_true, if_false, Nat.reduceEqDiff, reduceCtorEq]
              refine WpV.regionE (by simp only [go_sem, reduceCtorEq, Nat.reduceAdd, Nat.reduceMul, Nat.reduceSub, Nat.reduceLT, Nat.reduceLeDiff, Nat.reduceEqDiff, Nat.reduceBEq, Nat.reducePow]; rfl) (Marks.nil _) ?_
              simp only [Vthen, VinBlock, if_true, if_false, Nat.reduceEqDiff, reduceCtorEq]
              refine ⟨by first | rfl | trivial, hlt', .cons rfl rfl (.cons rfl rfl (.cons rfl rfl (.cons rfl rfl (.cons rfl (by rw [hsu]; rfl) (.cons rfl (by rw [hsu]; rfl) (.cons rfl rfl (.cons rfl ?_ (.nil _)))))))), by first | rfl | trivial⟩
              rw [hnext]
    · have hge : k = N := by have := of_decide_eq_false ‹_›; omega
      subst hge
      simp only [Vthen, VinBlock, if_true, if_false, Nat.reduceEqDiff, reduceCtorEq]
      refine WpV.seq (WpV.regionE (by simp only [go_sem, reduceCtorEq, Nat.reduceAdd, Nat.reduceMul, Nat.reduceSub, Nat.reduceLT, Nat.reduceLeDiff, Nat.reduceEqDiff, Nat.reduceBEq, Nat.reducePow]; rfl) (Marks.nil _) ?_)
      simp only [Vthen, VinBlock, if_true, if_false, Nat.reduceEqDiff, reduceCtorEq]
      refine WpV.ret ⟨Marks.nil _, List.nodup_nil, _, by simp only [Tryz.results62]; simp only [go_sem, reduceCtorEq, Nat.reduceAdd, Nat.reduceMul, Nat.reduceSub, Nat.reduceLT, Nat.reduceLeDiff, Nat.reduceEqDiff, Nat.reduceBEq, Nat.reducePow]; rfl, ?_⟩
      exact ⟨rfl, rfl⟩

def Cs.roomF (c : Cs) (w : List Int) (n : Int) : Int := n - 2 * c.rim - c.longF w []
def Cs.layF (c : Cs) (w : List Int) (n : Int) : Option (List Int × Nat) :=
  if w.length = 1 then none else (List.range (c.roomF w n + 6).toNat).findSome? fun (s : Nat) => (c.alikeN w (s : Int) (c.roomF w n) (c.roomF w n + 6).toNat).map fun g => (g, s)
def layV : Option (List Int × Nat) → AV | some (g, s) => .tup [vints false false g, vint (s : Int)] | none => .tup [.sl true true 0 [], vint 0]
theorem Cs.need_one (c : Cs) (w : List Int) : c.needF [w] = 2 * c.rim + c.need1 w := by simp [Cs.needF]
theorem Cs.room_le {c : Cs} (hc : c.Fair) {w : List Int} (hw : c.Word w) {n : Int} (hn : 1 ≤ n ∧ n ≤ 400) (hgo : c.needF [w] ≤ n) : 0 ≤ c.roomF w n ∧ c.roomF w n ≤ 400 := by
  rw [Cs.need_one] at hgo
  have h1 := sum_bound (xs := c.closest w) (a := 0) (b := 15) (Cs.closest_le hc w)
  have h2 := sum_bound (xs := w.map c.widthOf) (a := 0) (b := 30) (fun y hy => by
    obtain ⟨x, hx, rfl⟩ := List.mem_map.1 hy; exact Cs.width_le hc.ws (hw.2.2 x hx))
  have h3 := hc.rim
  unfold Cs.need1 at hgo
  unfold Cs.roomF
  unfold Cs.longF at hgo ⊢
  simp only [List.sum_nil] at hgo ⊢
  omega

set_option maxHeartbeats 4000000 in
theorem lay_any (H : Hp) (c : Cs) (hc : c.Fair) (nl clip : Bool) (w : List Int) (hw : c.Word w) (n : Int) (hn : 1 ≤ n ∧ n ≤ 400) (hgo : c.needF [w] ≤ n) :
    CallV Tryz.prog 39 [.agg c.box, vints nl clip w, vint n] H (fun r H' => r = layV (c.layF w n) ∧ H' = H) := by
  have hl7 := hw.2.1
  have hrm := Cs.room_le hc hw hn hgo
  have hrim := hc.rim
  generalize hlf : c.layF w n = lf
  unfold Cs.layF at hlf
  refine CallV.body Tryz.func39 rfl Tryz.ntmps39 (by rfl) ?_
  refine WpV.seq (WpV.regionE (by simp only [go_sem, reduceCtorEq, Nat.reduceAdd, Nat.reduceMul, Nat.reduceSub, Nat.reduceLT, Nat.reduceLeDiff, Nat.reduceEqDiff, Nat.reduceBEq, Nat.reducePow]; rfl) (Marks.nil _) ?_)
  simp only [Vthen, VinBlock, if_true, if_false, Nat.reduceEqDiff, reduceCtorEq]
  refine WpV.seq ?_
  by_cases h1 : w.length = 1
  · have e1 : ((w.length : Int) == 1) = true := by simp; omega
    rw [if_pos h1] at hlf
    refine WpV.seq (WpV.regionE (by simp only [go_sem, reduceCtorEq, Nat.reduceAdd, Nat.reduceMul, Nat.reduceSub, Nat.reduceLT, Nat.reduceLeDiff, Nat.reduceEqDiff, Nat.reduceBEq, Nat.reducePow, e1]; rfl) (Marks.nil _) ?_)
    simp only [Vthen, VinBlock, if_true, if_false, Nat.reduceEqDiff, reduceCtorEq]
    refine WpV.cond rfl (fun hb => ?_) (fun hb => by cases hb)
    refine WpV.seq (WpV.regionE (by simp only [go_sem, reduceCtorEq, Nat.reduceAdd, Nat.reduceMul, Nat.reduceSub, Nat.reduceLT, Nat.reduceLeDiff, Nat.reduceEqDiff, Nat.reduceBEq, Nat.reducePow]; rfl) (Marks.nil _) ?_)
    simp only [Vthen, VinBlock, if_true, if_false, Nat.reduceEqDiff, reduceCtorEq]
    refine WpV.ret ⟨Marks.nil _, List.nodup_nil, _, by simp only [Tryz.results39]; simp only [go_sem, reduceCtorEq, Nat.reduceAdd, Nat.reduceMul, Nat.reduceSub, Nat.reduceLT, Nat.reduceLeDiff, Nat.reduceEqDiff, Nat.reduceBEq, Nat.reducePow]; rfl, ?_⟩
    exact ⟨by rw [← hlf]; rfl, rfl⟩
  · have e1 : ((w.length : Int) == 1) = false := by simp; omega
    rw [if_neg h1] at hlf
    have h2 : 2 ≤ w.length := by have := hw.1; omega
    have hlg := long_any H c hc.ws nl clip true true w [] hw.2.2 (by omega) ⟨by simp, by simp⟩
    have hwa : IntKind.i64.wrap (2 * c.rim) = 2 * c.rim := wrap64 (by omega)
    have hwb : IntKind.i64.wrap (n - 2 * c.rim) = n - 2 * c.rim := wrap64 (by omega)
    have hwc : IntKind.i64.wrap (n - 2 * c.rim - c.longF w []) = c.roomF w n := by rw [wrap64 (by unfold Cs.roomF at hrm; omega)]; rfl
    refine WpV.seq (WpV.regionE (by simp only [go_sem, reduceCtorEq, Nat.reduceAdd, Nat.reduceMul, Nat.reduceSub, Nat.reduceLT, Nat.reduceLeDiff, Nat.reduceEqDiff, Nat.reduceBEq, Nat.reducePow, e1]; rfl) (Marks.nil _) ?_)
    simp only [Vthen, VinBlock, if_true, if_false, Nat.reduceEqDiff, reduceCtorEq]
    refine WpV.cond rfl (fun hb => by cases hb) (fun hb => WpV.skip ?_)
    simp only [Vthen, VinBlock, if_true, if_false, Nat.reduceEqDiff, reduceCtorEq]
    refine WpV.seq (WpV.regionD Tryz.mixed (by kernel_rfl) (by kernel_rfl) ?_)
    refine LexD.take 8 (by rfl) (by simp only [go_sem, reduceCtorEq, Nat.reduceAdd, Nat.reduceMul, Nat.reduceSub, Nat.reduceLT, Nat.reduceLeDiff, Nat.reduceEqDiff, Nat.reduceBEq, Nat.reducePow, hwa, hwb, hwc]; rfl) ?_
    refine LexD.step (by rfl) (by rfl) (OpW.callY rfl (by rfl) (by rfl) (by rfl) (enters_of Tryz.func59 (by kernel_rfl) rfl) (hlg)) ?_
    refine LexD.take 2 (by rfl) (by simp only [go_sem, reduceCtorEq, Nat.reduceAdd, Nat.reduceMul, Nat.reduceSub, Nat.reduceLT, Nat.reduceLeDiff, Nat.reduceEqDiff, Nat.reduceBEq, Nat.reducePow, hwa, hwb, hwc]; rfl) (LexD.nilE ⟨Marks.nil _, ?_⟩)
    simp only [Vthen, VinBlock, if_true, if_false, Nat.reduceEqDiff, reduceCtorEq]
    generalize c.roomF w n = room at *
    have hN : ((room + 6).toNat : Int) = room + 6 := by omega
    have hby := beyond_any H room (by omega)
    rw [← hN] at hby
    have hal := fun (s : Nat) (hs : s < (room + 6).toNat) => alike_any H c hc nl clip w hw h2 s room (by omega) (by omega)
    generalize (room + 6).toNat = N at *
    refine WpV.seq ?_
    refine WpV.seq (WpV.region ?_)
    refine WpOps.take 1 (by simp only [go_sem, reduceCtorEq, Nat.reduceAdd, Nat.reduceMul, Nat.reduceSub, Nat.reduceLT, Nat.reduceLeDiff, Nat.reduceEqDiff, Nat.reduceBEq, Nat.reducePow]; rfl) ?_
    refine WpOps.step (by rfl) (by rfl) (OpW.callY rfl (by rfl) (by rfl) (by rfl) (enters_of Tryz.func61 (by kernel_rfl) rfl) ((hby).mono ?_))
    rintro _ _ ⟨rfl, hH⟩
    replace hH := hH.symm
    subst hH
    refine WpOps.take 1 (by simp only [go_sem, reduceCtorEq, Nat.reduceAdd, Nat.reduceMul, Nat.reduceSub, Nat.reduceLT, Nat.reduceLeDiff, Nat.reduceEqDiff, Nat.reduceBEq, Nat.reducePow]; rfl) (WpOps.nil ⟨Marks.nil _, ?_⟩)
    simp only [Vthen, VinBlock, if_true, if_false, Nat.reduceEqDiff, reduceCtorEq]
    refine WpV.block (WpV.loopP N (fun k => ∀ j, j < k → c.alikeN w j room N = none) (fun k => [(1, vints nl clip w), (2, vint n), (3, .cp c.box 0), (8, vint room), (26, vint N), (27, vint k)]) (fun _ => H) (fun j hj => absurd hj (Nat.not_lt_zero _)) ?_ rfl ?_)
    · exact .cons rfl rfl (.cons rfl rfl (.cons rfl rfl (.cons rfl rfl (.cons rfl rfl (.cons rfl rfl (.nil _))))))
    · intro k hk hno
      refine WpV.seq (WpV.regionE (by simp only [go_sem, reduceCtorEq, Nat.reduceAdd, Nat.reduceMul, Nat.reduceSub, Nat.reduceLT, Nat.reduceLeDiff, Nat.reduceEqDiff, Nat.reduceBEq, Nat.reducePow]; rfl) (Marks.nil _) ?_)
      simp only [Vthen, VinBlock, if_true, if_false, Nat.reduceEqDiff, reduceCtorEq]
      refine WpV.seq (WpV.cond rfl (fun hb => WpV.skip ?_) (fun hb => WpV.exit ?_))
      · have hlt : (k : Int) < (N : Int) := of_decide_eq_true ‹_›
        have hlt' : k < N := by omega
        have ha := hal k hlt'
        have hnext : IntKind.i64.wrap ((k : Int) + 1) = ((k + 1 : Nat) : Int) := by rw [wrap64 (by omega)]; rfl
        simp only [Vthen, VinBlock, if_true, if_false, Nat.reduceEqDiff, reduceCtorEq]
        refine WpV.seq (WpV.block ?_)
        refine WpV.seq (WpV.regionE (by simp only [go_sem, reduceCtorEq, Nat.reduceAdd, Nat.reduceMul, Nat.reduceSub, Nat.reduceLT, Nat.reduceLeDiff, Nat.reduceEqDiff, Nat.reduceBEq, Nat.reducePow]; rfl) (Marks.nil _) ?_)
        simp only [Vthen, VinBlock, if_true, if_false, Nat.reduceEqDiff, reduceCtorEq]
        cases hak : c.alikeN w k room N with
        | none =>
          rw [hak] at ha
          simp only [rowP, Option.isSome_none] at ha
          refine WpV.seq (WpV.region ?_)
          refine WpOps.take 4 (by simp only [go_sem, reduceCtorEq, Nat.reduceAdd, Nat.reduceMul, Nat.reduceSub, Nat.reduceLT, Nat.reduceLeDiff, Nat.reduceEqDiff, Nat.reduceBEq, Nat.reducePow]; rfl) ?_
          refine WpOps.step (by rfl) (by rfl) (OpW.callY rfl (by rfl) (by rfl) (by rfl) (enters_of Tryz.func62 (by kernel_rfl) rfl) ((ha).mono ?_))
          rintro _ _ ⟨rfl, hH⟩
          replace hH := hH.symm
          subst hH
          refine WpOps.take 5 (by simp only [go_sem, reduceCtorEq, Nat.reduceAdd, Nat.reduceMul, Nat.reduceSub, Nat.reduceLT, Nat.reduceLeDiff, Nat.reduceEqDiff, Nat.reduceBEq, Nat.reducePow]; rfl) (WpOps.nil ⟨Marks.nil _, ?_⟩)
          simp only [Vthen, VinBlock, if_true, if_false, Nat.reduceEqDiff, reduceCtorEq]
          refine WpV.seq (WpV.regionE (by simp only [go_sem, reduceCtorEq, Nat.reduceAdd, Nat.reduceMul, Nat.reduceSub, Nat.reduceLT, Nat.reduceLeDiff, Nat.reduceEqDiff, Nat.reduceBEq, Nat.reducePow]; rfl) (Marks.nil _) ?_)
          simp only [Vthen, VinBlock, if_true, if_false, Nat.reduceEqDiff, reduceCtorEq]
          refine WpV.cond rfl (fun hb => by cases hb) (fun hb => WpV.skip ?_)
          simp only [Vthen, VinBlock, if_true, if_false, Nat.reduceEqDiff, reduceCtorEq]
          refine WpV.regionE (by simp only [go_sem, reduceCtorEq, Nat.reduceAdd, Nat.reduceMul, Nat.reduceSub, Nat.reduceLT, Nat.reduceLeDiff, Nat.reduceEqDiff, Nat.reduceBEq, Nat.reducePow]; rfl) (Marks.nil _) ?_
          simp only [Vthen, VinBlock, if_true, if_false, Nat.reduceEqDiff, reduceCtorEq]
          refine ⟨by first | rfl | trivial, hlt', fun j hj => ?_, .cons rfl rfl (.cons rfl rfl (.cons rfl rfl (.cons rfl rfl (.cons rfl rfl (.cons rfl ?_ (.nil _)))))), by first | rfl | trivial⟩
          · by_cases e : j = k
            · rw [e]; exact hak
            · exact hno j (by omega)
          · rw [hnext]
        | some g =>
          rw [hak] at ha
          simp only [rowP, Option.isSome_some] at ha
          refine WpV.seq (WpV.region ?_)
          refine WpOps.take 4 (by simp only [go_sem, reduceCtorEq, Nat.reduceAdd, Nat.reduceMul, Nat.reduceSub, Nat.reduceLT, Nat.reduceLeDiff, Nat.reduceEqDiff, Nat.reduceBEq, Nat.reducePow]; rfl) ?_
          refine WpOps.step (by rfl) (by rfl) (OpW.callY rfl (by rfl) (by rfl) (by rfl) (enters_of Tryz.func62 (by kernel_rfl) rfl) ((ha).mono ?_))
          rintro _ _ ⟨rfl, hH⟩
          replace hH := hH.symm
          subst hH
          refine WpOps.take 5 (by simp only [go_sem, reduceCtorEq, Nat.reduceAdd, Nat.reduceMul, Nat.reduceSub, Nat.reduceLT, Nat.reduceLeDiff, Nat.reduceEqDiff, Nat.reduceBEq, Nat.reducePow]; rfl) (WpOps.nil ⟨Marks.nil _, ?_⟩)
          simp only [Vthen, VinBlock, if_true, if_false, Nat.reduceEqDiff, reduceCtorEq]
          refine WpV.seq (WpV.regionE (by simp only [go_sem, reduceCtorEq, Nat.reduceAdd, Nat.reduceMul, Nat.reduceSub, Nat.reduceLT, Nat.reduceLeDiff, Nat.reduceEqDiff, Nat.reduceBEq, Nat.reducePow]; rfl) (Marks.nil _) ?_)
          simp only [Vthen, VinBlock, if_true, if_false, Nat.reduceEqDiff, reduceCtorEq]
          refine WpV.cond rfl (fun hb => ?_) (fun hb => by cases hb)
          refine WpV.seq (WpV.regionE (by simp only [go_sem, reduceCtorEq, Nat.reduceAdd, Nat.reduceMul, Nat.reduceSub, Nat.reduceLT, Nat.reduceLeDiff, Nat.reduceEqDiff, Nat.reduceBEq, Nat.reducePow]; rfl) (Marks.nil _) ?_)
          simp only [Vthen, VinBlock, if_true, if_false, Nat.reduceEqDiff, reduceCtorEq]
          refine WpV.ret ⟨Marks.nil _, List.nodup_nil, _, by simp only [Tryz.results39]; simp only [go_sem, reduceCtorEq, Nat.reduceAdd, Nat.reduceMul, Nat.reduceSub, Nat.reduceLT, Nat.reduceLeDiff, Nat.reduceEqDiff, Nat.reduceBEq, Nat.reducePow]; rfl, ?_⟩
          refine ⟨?_, rfl⟩
          have : lf = some (g, k) := by
            rw [← hlf]
            refine findSome_go _ _ k (by simpa using hlt') (g, k) (fun j hj hjk => ?_) ?_
            · rw [List.getElem_range, hno j hjk]; rfl
            · rw [List.getElem_range, hak]; rfl
          rw [this]; rfl
      · have hge : k = N := by have := of_decide_eq_false ‹_›; omega
        subst hge
        simp only [Vthen, VinBlock, if_true, if_false, Nat.reduceEqDiff, reduceCtorEq]
        refine WpV.seq (WpV.regionE (by simp only [go_sem, reduceCtorEq, Nat.reduceAdd, Nat.reduceMul, Nat.reduceSub, Nat.reduceLT, Nat.reduceLeDiff, Nat.reduceEqDiff, Nat.reduceBEq, Nat.reducePow]; rfl) (Marks.nil _) ?_)
        simp only [Vthen, VinBlock, if_true, if_false, Nat.reduceEqDiff, reduceCtorEq]
        refine WpV.ret ⟨Marks.nil _, List.nodup_nil, _, by simp only [Tryz.results39]; simp only [go_sem, reduceCtorEq, Nat.reduceAdd, Nat.reduceMul, Nat.reduceSub, Nat.reduceLT, Nat.reduceLeDiff, Nat.reduceEqDiff, Nat.reduceBEq, Nat.reducePow]; rfl, ?_⟩
        refine ⟨?_, rfl⟩
        have : lf = none := by
          rw [← hlf, List.findSome?_eq_none_iff]
          intro s hs
          rw [hno s (List.mem_range.1 hs)]; rfl
        rw [this]; rfl

def layR (o : Option (List Int × Nat)) : AV := match o with | some (g, s) => .tup [vints false false g, vint (s : Int), vint 0] | none => .tup [.sl true true 0 [], vint 0, vint 0]
def Cs.LayV (c : Cs) (w : List Int) (n : Int) : AV := if c.needF [w] ≤ n then layR (c.layF w n) else .tup [.sl true true 0 [], vint 0, vint 8]
theorem Lay_any (H : Hp) (c : Cs) (hc : c.Valid) (nl clip : Bool) (w : List Int) (n : Int) (hw : c.word w = true) (hn : 1 ≤ n ∧ n ≤ 400) :
    CallV Tryz.prog 14 [.agg c.cells, vints nl clip w, vint n] H (fun r H' => r = c.LayV w n ∧ H' = H) := by
  have hww := Cs.word_iff.1 hw
  have hgo := fun H => goes_any H c hc.fair nl clip w hww n
  refine CallV.body Tryz.func14 rfl Tryz.ntmps14 (by rfl) ?_
  refine WpV.seq (WpV.regionE (by simp only [go_sem, reduceCtorEq, Nat.reduceAdd, Nat.reduceMul, Nat.reduceSub, Nat.reduceLT, Nat.reduceLeDiff, Nat.reduceEqDiff, Nat.reduceBEq, Nat.reducePow]; rfl) (Marks.nil _) ?_)
  simp only [Vthen, VinBlock, if_true, if_false, Nat.reduceEqDiff, reduceCtorEq]
  refine WpV.seq ?_
  refine WpV.seq (WpV.region ?_)
  refine WpOps.take 3 (by simp only [go_sem, reduceCtorEq, Nat.reduceAdd, Nat.reduceMul, Nat.reduceSub, Nat.reduceLT, Nat.reduceLeDiff, Nat.reduceEqDiff, Nat.reduceBEq, Nat.reducePow]; rfl) ?_
  refine WpOps.step (by rfl) (by rfl) (OpW.callY rfl (by rfl) (by rfl) (by rfl) (enters_of Tryz.func37 (by kernel_rfl) rfl) ((checkLength_ok H c hc nl clip w n hw hn).mono ?_))
  rintro _ _ ⟨rfl, hH⟩
  replace hH := hH.symm
  subst hH
  refine WpOps.take 1 (by simp only [go_sem, reduceCtorEq, Nat.reduceAdd, Nat.reduceMul, Nat.reduceSub, Nat.reduceLT, Nat.reduceLeDiff, Nat.reduceEqDiff, Nat.reduceBEq, Nat.reducePow]; rfl) (WpOps.nil ⟨Marks.nil _, ?_⟩)
  simp only [Vthen, VinBlock, if_true, if_false, Nat.reduceEqDiff, reduceCtorEq]
  refine WpV.seq (WpV.regionE (by simp only [go_sem, reduceCtorEq, Nat.reduceAdd, Nat.reduceMul, Nat.reduceSub, Nat.reduceLT, Nat.reduceLeDiff, Nat.reduceEqDiff, Nat.reduceBEq, Nat.reducePow]; rfl) (Marks.nil _) ?_)
  simp only [Vthen, VinBlock, if_true, if_false, Nat.reduceEqDiff, reduceCtorEq]
  refine WpV.cond rfl (fun hb => by cases hb) (fun hb => WpV.skip ?_)
  simp only [Vthen, VinBlock, if_true, if_false, Nat.reduceEqDiff, reduceCtorEq]
  refine WpV.seq (WpV.region ?_)
  refine WpOps.take 1 (by simp only [go_sem, reduceCtorEq, Nat.reduceAdd, Nat.reduceMul, Nat.reduceSub, Nat.reduceLT, Nat.reduceLeDiff, Nat.reduceEqDiff, Nat.reduceBEq, Nat.reducePow]; rfl) ?_
  refine WpOps.step (by rfl) (by rfl) (OpW.callY rfl (by rfl) (by rfl) (by rfl) (enters_of Tryz.func35 (by kernel_rfl) rfl) ((box_of _ c hc.ok hc.keys).mono ?_))
  rintro _ _ ⟨rfl, hH⟩
  replace hH := hH.symm
  subst hH
  refine WpOps.step (by rfl) (by rfl) (OpW.alloc rfl (Tryz.ze78) (fun i10 f10 => ?_))
  refine WpOps.step (by rfl) (by rfl) (OpW.store (ty := 78) (id := i10) (ver := 0) (off := 0) rfl (by simp only [go_sem, reduceCtorEq, Nat.reduceAdd, Nat.reduceMul, Nat.reduceSub, Nat.reduceLT, Nat.reduceLeDiff, Nat.reduceEqDiff, Nat.reduceBEq, Nat.reducePow]; try rfl) (by simp only [go_sem, reduceCtorEq, Nat.reduceAdd, Nat.reduceMul, Nat.reduceSub, Nat.reduceLT, Nat.reduceLeDiff, Nat.reduceEqDiff, Nat.reduceBEq, Nat.reducePow]; try rfl) (Hp.set_eq _ _ _) (by simp only [go_sem, reduceCtorEq, Nat.reduceAdd, Nat.reduceMul, Nat.reduceSub, Nat.reduceLT, Nat.reduceLeDiff, Nat.reduceEqDiff, Nat.reduceBEq, Nat.reducePow]; try rfl) (by exact Tryz.sz78) (by simp) ?_)
  refine WpOps.nil ⟨Marks.nil _, ?_⟩
  rw [Hp.set_set]
  simp only [Vthen, VinBlock, if_true, if_false, Nat.reduceEqDiff, reduceCtorEq]
  refine WpV.pre (Frz.ptr (t := 10) (id := i10) rfl (Hp.set_eq _ _ _)) (Marks.nil _) ?_
  rw [Hp.set_set, Hp.set_same _ _ _ f10]
  have hg := hgo H
  unfold Cs.LayV
  refine WpV.seq ?_
  by_cases hle : c.needF [w] ≤ n
  · rw [decide_eq_true hle] at hg
    have hla := lay_any H c hc.fair nl clip w hww n hn hle
    rw [if_pos hle]
    refine WpV.seq (WpV.region ?_)
    refine WpOps.take 3 (by simp only [go_sem, reduceCtorEq, Nat.reduceAdd, Nat.reduceMul, Nat.reduceSub, Nat.reduceLT, Nat.reduceLeDiff, Nat.reduceEqDiff, Nat.reduceBEq, Nat.reducePow]; rfl) ?_
    refine WpOps.step (by rfl) (by rfl) (OpW.callY rfl (by rfl) (by rfl) (by rfl) (enters_of Tryz.func38 (by kernel_rfl) rfl) ((hg).mono ?_))
    rintro _ _ ⟨rfl, hH⟩
    replace hH := hH.symm
    subst hH
    refine WpOps.take 1 (by simp only [go_sem, reduceCtorEq, Nat.reduceAdd, Nat.reduceMul, Nat.reduceSub, Nat.reduceLT, Nat.reduceLeDiff, Nat.reduceEqDiff, Nat.reduceBEq, Nat.reducePow]; rfl) (WpOps.nil ⟨Marks.nil _, ?_⟩)
    simp only [Vthen, VinBlock, if_true, if_false, Nat.reduceEqDiff, reduceCtorEq]
    refine WpV.cond rfl (fun hb => by cases hb) (fun hb => WpV.skip ?_)
    simp only [Vthen, VinBlock, if_true, if_false, Nat.reduceEqDiff, reduceCtorEq]
    cases hlf : c.layF w n with
    | none =>
      rw [hlf] at hla
      unfold layV at hla
      refine WpV.seq (WpV.region ?_)
      refine WpOps.take 3 (by simp only [go_sem, reduceCtorEq, Nat.reduceAdd, Nat.reduceMul, Nat.reduceSub, Nat.reduceLT, Nat.reduceLeDiff, Nat.reduceEqDiff, Nat.reduceBEq, Nat.reducePow]; rfl) ?_
      refine WpOps.step (by rfl) (by rfl) (OpW.callY rfl (by rfl) (by rfl) (by rfl) (enters_of Tryz.func39 (by kernel_rfl) rfl) ((hla).mono ?_))
      rintro _ _ ⟨rfl, hH⟩
      replace hH := hH.symm
      subst hH
      refine WpOps.take 5 (by simp only [go_sem, reduceCtorEq, Nat.reduceAdd, Nat.reduceMul, Nat.reduceSub, Nat.reduceLT, Nat.reduceLeDiff, Nat.reduceEqDiff, Nat.reduceBEq, Nat.reducePow]; rfl) (WpOps.nil ⟨Marks.nil _, ?_⟩)
      simp only [Vthen, VinBlock, if_true, if_false, Nat.reduceEqDiff, reduceCtorEq]
      refine WpV.seq (WpV.regionE (by simp only [go_sem, reduceCtorEq, Nat.reduceAdd, Nat.reduceMul, Nat.reduceSub, Nat.reduceLT, Nat.reduceLeDiff, Nat.reduceEqDiff, Nat.reduceBEq, Nat.reducePow]; rfl) (Marks.nil _) ?_)
      simp only [Vthen, VinBlock, if_true, if_false, Nat.reduceEqDiff, reduceCtorEq]
      refine WpV.ret ⟨Marks.nil _, List.nodup_nil, _, by simp only [Tryz.results14]; simp only [go_sem, reduceCtorEq, Nat.reduceAdd, Nat.reduceMul, Nat.reduceSub, Nat.reduceLT, Nat.reduceLeDiff, Nat.reduceEqDiff, Nat.reduceBEq, Nat.reducePow]; rfl, ?_⟩
      exact ⟨rfl, rfl⟩
    | some gs =>
      obtain ⟨g, s⟩ := gs
      rw [hlf] at hla
      unfold layV at hla
      refine WpV.seq (WpV.region ?_)
      refine WpOps.take 3 (by simp only [go_sem, reduceCtorEq, Nat.reduceAdd, Nat.reduceMul, Nat.reduceSub, Nat.reduceLT, Nat.reduceLeDiff, Nat.reduceEqDiff, Nat.reduceBEq, Nat.reducePow]; rfl) ?_
      refine WpOps.step (by rfl) (by rfl) (OpW.callY rfl (by rfl) (by rfl) (by rfl) (enters_of Tryz.func39 (by kernel_rfl) rfl) ((hla).mono ?_))
      rintro _ _ ⟨rfl, hH⟩
      replace hH := hH.symm
      subst hH
      refine WpOps.take 5 (by simp only [go_sem, reduceCtorEq, Nat.reduceAdd, Nat.reduceMul, Nat.reduceSub, Nat.reduceLT, Nat.reduceLeDiff, Nat.reduceEqDiff, Nat.reduceBEq, Nat.reducePow]; rfl) (WpOps.nil ⟨Marks.nil _, ?_⟩)
      simp only [Vthen, VinBlock, if_true, if_false, Nat.reduceEqDiff, reduceCtorEq]
      refine WpV.seq (WpV.regionE (by simp only [go_sem, reduceCtorEq, Nat.reduceAdd, Nat.reduceMul, Nat.reduceSub, Nat.reduceLT, Nat.reduceLeDiff, Nat.reduceEqDiff, Nat.reduceBEq, Nat.reducePow]; rfl) (Marks.nil _) ?_)
      simp only [Vthen, VinBlock, if_true, if_false, Nat.reduceEqDiff, reduceCtorEq]
      refine WpV.ret ⟨Marks.nil _, List.nodup_nil, _, by simp only [Tryz.results14]; simp only [go_sem, reduceCtorEq, Nat.reduceAdd, Nat.reduceMul, Nat.reduceSub, Nat.reduceLT, Nat.reduceLeDiff, Nat.reduceEqDiff, Nat.reduceBEq, Nat.reducePow]; rfl, ?_⟩
      exact ⟨rfl, rfl⟩
  · rw [decide_eq_false hle] at hg
    rw [if_neg hle]
    refine WpV.seq (WpV.region ?_)
    refine WpOps.take 3 (by simp only [go_sem, reduceCtorEq, Nat.reduceAdd, Nat.reduceMul, Nat.reduceSub, Nat.reduceLT, Nat.reduceLeDiff, Nat.reduceEqDiff, Nat.reduceBEq, Nat.reducePow]; rfl) ?_
    refine WpOps.step (by rfl) (by rfl) (OpW.callY rfl (by rfl) (by rfl) (by rfl) (enters_of Tryz.func38 (by kernel_rfl) rfl) ((hg).mono ?_))
    rintro _ _ ⟨rfl, hH⟩
    replace hH := hH.symm
    subst hH
    refine WpOps.take 1 (by simp only [go_sem, reduceCtorEq, Nat.reduceAdd, Nat.reduceMul, Nat.reduceSub, Nat.reduceLT, Nat.reduceLeDiff, Nat.reduceEqDiff, Nat.reduceBEq, Nat.reducePow]; rfl) (WpOps.nil ⟨Marks.nil _, ?_⟩)
    simp only [Vthen, VinBlock, if_true, if_false, Nat.reduceEqDiff, reduceCtorEq]
    refine WpV.cond rfl (fun hb => ?_) (fun hb => by cases hb)
    refine WpV.seq (WpV.regionE (by simp only [go_sem, reduceCtorEq, Nat.reduceAdd, Nat.reduceMul, Nat.reduceSub, Nat.reduceLT, Nat.reduceLeDiff, Nat.reduceEqDiff, Nat.reduceBEq, Nat.reducePow]; rfl) (Marks.nil _) ?_)
    simp only [Vthen, VinBlock, if_true, if_false, Nat.reduceEqDiff, reduceCtorEq]
    refine WpV.ret ⟨Marks.nil _, List.nodup_nil, _, by simp only [Tryz.results14]; simp only [go_sem, reduceCtorEq, Nat.reduceAdd, Nat.reduceMul, Nat.reduceSub, Nat.reduceLT, Nat.reduceLeDiff, Nat.reduceEqDiff, Nat.reduceBEq, Nat.reducePow]; rfl, ?_⟩
    exact ⟨rfl, rfl⟩
end Go.Proofs.YtaekibilldjnmaaGreat
namespace Go.Proofs.YtaekibilldjnmaaGreat
open Go.Proofs

def Cs.own (c : Cs) : Cs := { c with wn := false, wc := decide (c.ws.length = 0), pn := false, pc := decide (c.ps.length = 0) }
def ownH (H : Hp) (i1 : Nat) (c d : Cs) (_ : Nat → Nat) (b : Nat → Bool) : Hp :=
  H.set i1 (some (.cells 32 0 [if b 8 = true then vints d.wn d.wc d.ws else vints c.wn c.wc c.ws, if b 10 = true then .sl d.pn d.pc d.ps.length (d.ps.flatMap pairC) else .sl c.pn c.pc c.ps.length (c.ps.flatMap pairC), vint c.rim, vint c.least, vint c.blank]))
theorem all_one_pairs (ps : List (Int × Int × Int)) : (ps.flatMap pairC).all AV.one = true := by
  rw [List.all_eq_true]
  intro x hx
  obtain ⟨p, -, hp⟩ := List.mem_flatMap.1 hx
  simp only [pairC, List.mem_cons, List.not_mem_nil, or_false] at hp
  rcases hp with rfl | rfl | rfl <;> rfl

set_option maxHeartbeats 1000000 in
theorem own_any (H : Hp) (c : Cs) (hc : c.Ok) : CallV Tryz.prog 11 [.agg c.cells] H (fun r H' => r = .agg c.own.cells ∧ H' = H) := by
  have hws := hc.ws
  have hps := hc.ps
  refine CallV.body Tryz.func11 rfl Tryz.ntmps11 (by rfl) ?_
  refine WpV.seq (WpV.region ?_)
  refine WpOps.step (by rfl) (by rfl) (OpW.box rfl rfl rfl (fun i1 f1 => ?_))
  refine WpOps.step (by rfl) (by rfl) (OpW.alloc rfl (Tryz.ze32) (fun i2 f2 => ?_))
  refine WpOps.nil ⟨Marks.nil _, ?_⟩
  simp only [Vthen, VinBlock, if_true, if_false, Nat.reduceEqDiff, reduceCtorEq]
  obtain ⟨n21, f2'⟩ := fresh_ne f2
  rw [Hp.set_comm _ _ _ n21.symm]
  have g1 : (H.set i2 (some (.cells 32 0 [.sl true true 0 [], .sl true true 0 [], vint 0, vint 0, vint 0]))) i1 = none := by rw [Hp.set_ne _ _ n21.symm]; exact f1
  generalize hB : H.set i2 _ = B at g1 ⊢
  have hB' : B = B := rfl
  refine WpV.seq (WpV.regionB Tryz.mixed (by kernel_rfl) (by kernel_rfl) (fun _ => false) (ownH B i1 c c.own) (fun ids => ?_) (fun ids ids' b _ => rfl) (fun ids b j hj => by cases hj) (fun ids b id _ h => ?_) ?_)
  · simp [ownH]
  · unfold ownH at h
    simp only [Hp.set] at h ⊢
    split at h
    · cases h
    · rename_i e; rw [if_neg e]; exact h
  refine LexB.pure (by rfl) (by rfl) (fun _ => rfl) (fun ids b _ => by simp [ownH, upd]) (fun ids b g => OpW.evX (by simp only [go_sem, reduceCtorEq, Nat.reduceAdd, Nat.reduceMul, Nat.reduceSub, Nat.reduceLT, Nat.reduceLeDiff, Nat.reduceEqDiff, Nat.reduceBEq, Nat.reducePow, ownH]; rfl)) ?_
  refine LexB.pure (by rfl) (by rfl) (fun _ => rfl) (fun ids b _ => by simp [ownH, upd]) (fun ids b g => OpW.evX (by have e8 := g.wait 8 _ rfl (by decide); simp only [go_sem, reduceCtorEq, Nat.reduceAdd, Nat.reduceMul, Nat.reduceSub, Nat.reduceLT, Nat.reduceLeDiff, Nat.reduceEqDiff, Nat.reduceBEq, Nat.reducePow, ownH, e8, Bool.false_eq_true]; rfl)) ?_
  refine LexB.pure (by rfl) (by rfl) (fun _ => rfl) (fun ids b _ => by simp [ownH, upd]) (fun ids b g => OpW.callY rfl (by rfl) (by rfl) (by rfl) (enters_of Tryz.func12 (by kernel_rfl) rfl) (ints_any _ c.wn c.wc c.ws hws)) ?_
  refine LexB.pure (by rfl) (by rfl) (fun _ => rfl) (fun ids b _ => by simp [ownH, upd]) (fun ids b g => OpW.evX (by simp only [go_sem, reduceCtorEq, Nat.reduceAdd, Nat.reduceMul, Nat.reduceSub, Nat.reduceLT, Nat.reduceLeDiff, Nat.reduceEqDiff, Nat.reduceBEq, Nat.reducePow, ownH]; rfl)) ?_
  refine LexB.pure (by rfl) (by rfl) (fun _ => rfl) (fun ids b _ => by simp [ownH, upd]) (fun ids b g => OpW.evX (by simp only [go_sem, reduceCtorEq, Nat.reduceAdd, Nat.reduceMul, Nat.reduceSub, Nat.reduceLT, Nat.reduceLeDiff, Nat.reduceEqDiff, Nat.reduceBEq, Nat.reducePow, ownH]; rfl)) ?_
  refine LexB.pure (by rfl) (by rfl) (fun _ => rfl) (fun ids b _ => by simp [ownH, upd]) (fun ids b g => OpW.evX (by have e10 := g.wait 10 _ rfl (by decide); simp only [go_sem, reduceCtorEq, Nat.reduceAdd, Nat.reduceMul, Nat.reduceSub, Nat.reduceLT, Nat.reduceLeDiff, Nat.reduceEqDiff, Nat.reduceBEq, Nat.reducePow, ownH, e10, Bool.false_eq_true]; rfl)) ?_
  refine LexB.pure (x := .sl false (decide (c.ps.length = 0)) c.ps.length (c.ps.flatMap pairC)) (by rfl) (by rfl) (fun _ => rfl) (fun ids b _ => by simp [ownH, upd]) (fun ids b g => ?_) ?_
  · by_cases h0 : c.ps.length = 0
    · have hx : c.ps = [] := List.length_eq_zero_iff.1 h0
      rw [hx]
      exact OpW.append0 (nl := false) (len := 0) (cells := []) rfl (by rfl) (by simp only [go_sem, reduceCtorEq, Nat.reduceAdd, Nat.reduceMul, Nat.reduceSub, Nat.reduceLT, Nat.reduceLeDiff, Nat.reduceEqDiff, Nat.reduceBEq, Nat.reducePow]; rfl) (by rfl) (Tryz.el30 (by omega)) Tryz.underlying30 ⟨rfl, rfl⟩
    · rw [decide_eq_false h0]
      refine OpW.frzS (e := 74) (s := 3) ?_ (pairs_len _)
      refine OpW.append (nl := false) (len := 0) (cells := []) (m := c.ps.length) (ys := c.ps.flatMap pairC) rfl (by rfl) (by simp only [go_sem, reduceCtorEq, Nat.reduceAdd, Nat.reduceMul, Nat.reduceSub, Nat.reduceLT, Nat.reduceLeDiff, Nat.reduceEqDiff, Nat.reduceBEq, Nat.reducePow]; rfl) (by simp only [viewS]) (Tryz.el30 (by omega)) Tryz.underlying30 (by simp) (pairs_len _) (all_one_pairs _) (by omega) (fun id hid => ⟨id, 0, hid, by rw [Nat.zero_add], by rw [List.nil_append]⟩)
  refine LexB.pure (by rfl) (by rfl) (fun _ => rfl) (fun ids b _ => by simp [ownH, upd]) (fun ids b g => OpW.evX (by simp only [go_sem, reduceCtorEq, Nat.reduceAdd, Nat.reduceMul, Nat.reduceSub, Nat.reduceLT, Nat.reduceLeDiff, Nat.reduceEqDiff, Nat.reduceBEq, Nat.reducePow, ownH]; rfl)) ?_
  refine LexB.eff (x := .any) (by rfl) (by rfl) (fun _ => rfl) (fun ids b g => ?_) ?_
  · have e8 : b 8 = false := g.not
    refine OpW.store (ty := 32) (id := i1) (ver := 0) (off := 0) rfl (by simp only [go_sem, reduceCtorEq, Nat.reduceAdd, Nat.reduceMul, Nat.reduceSub, Nat.reduceLT, Nat.reduceLeDiff, Nat.reduceEqDiff, Nat.reduceBEq, Nat.reducePow]; try rfl) (by simp only [go_sem, reduceCtorEq, Nat.reduceAdd, Nat.reduceMul, Nat.reduceSub, Nat.reduceLT, Nat.reduceLeDiff, Nat.reduceEqDiff, Nat.reduceBEq, Nat.reducePow]; try rfl) (Hp.set_eq _ _ _) (by simp only [go_sem, reduceCtorEq, Nat.reduceAdd, Nat.reduceMul, Nat.reduceSub, Nat.reduceLT, Nat.reduceLeDiff, Nat.reduceEqDiff, Nat.reduceBEq, Nat.reducePow]; try rfl) (by exact Tryz.sz29) (by simp) ⟨rfl, ?_⟩
    unfold ownH
    rw [Hp.set_set]
    simp [upd, e8, putC, Cs.own]
  refine LexB.pure (by rfl) (by rfl) (fun _ => rfl) (fun ids b _ => by simp [ownH, upd]) (fun ids b g => OpW.evX (by simp only [go_sem, reduceCtorEq, Nat.reduceAdd, Nat.reduceMul, Nat.reduceSub, Nat.reduceLT, Nat.reduceLeDiff, Nat.reduceEqDiff, Nat.reduceBEq, Nat.reducePow, ownH]; rfl)) ?_
  refine LexB.eff (x := .any) (by rfl) (by rfl) (fun _ => rfl) (fun ids b g => ?_) ?_
  · have e10 : b 10 = false := g.not
    refine OpW.store (ty := 32) (id := i1) (ver := 0) (off := 1) rfl (by simp only [go_sem, reduceCtorEq, Nat.reduceAdd, Nat.reduceMul, Nat.reduceSub, Nat.reduceLT, Nat.reduceLeDiff, Nat.reduceEqDiff, Nat.reduceBEq, Nat.reducePow]; try rfl) (by simp only [go_sem, reduceCtorEq, Nat.reduceAdd, Nat.reduceMul, Nat.reduceSub, Nat.reduceLT, Nat.reduceLeDiff, Nat.reduceEqDiff, Nat.reduceBEq, Nat.reducePow]; try rfl) (Hp.set_eq _ _ _) (by simp only [go_sem, reduceCtorEq, Nat.reduceAdd, Nat.reduceMul, Nat.reduceSub, Nat.reduceLT, Nat.reduceLeDiff, Nat.reduceEqDiff, Nat.reduceBEq, Nat.reducePow]; try rfl) (by exact Tryz.sz30) (by simp) ⟨rfl, ?_⟩
    unfold ownH
    rw [Hp.set_set]
    simp [upd, e10, putC, Cs.own]
  intro ids _ _
  simp only [ownH, List.length_cons, List.length_nil, Nat.reduceAdd, Nat.reduceLT, decide_true, if_true]
  refine ⟨Marks.nil _, ?_⟩
  have o2 : (B.set i1 (some (.cells 32 0 c.own.cells))) i2 = some (.cells 32 0 [.sl true true 0 [], .sl true true 0 [], vint 0, vint 0, vint 0]) := by rw [Hp.set_ne _ _ n21, ← hB]; exact Hp.set_eq _ _ _
  show Vthen _ _ _ _ _ (B.set i1 (some (.cells 32 0 c.own.cells)))
  simp only [Vthen, VinBlock, if_true, if_false, Nat.reduceEqDiff, reduceCtorEq]
  refine WpV.seq (WpV.region ?_)
  refine WpOps.take 1 (by simp only [go_sem, reduceCtorEq, Nat.reduceAdd, Nat.reduceMul, Nat.reduceSub, Nat.reduceLT, Nat.reduceLeDiff, Nat.reduceEqDiff, Nat.reduceBEq, Nat.reducePow]; rfl) ?_
  refine WpOps.step (by rfl) (by rfl) (OpW.store (ty := 32) (id := i2) (ver := 0) (off := 0) rfl (by simp only [go_sem, reduceCtorEq, Nat.reduceAdd, Nat.reduceMul, Nat.reduceSub, Nat.reduceLT, Nat.reduceLeDiff, Nat.reduceEqDiff, Nat.reduceBEq, Nat.reducePow]; try rfl) (by simp only [go_sem, reduceCtorEq, Nat.reduceAdd, Nat.reduceMul, Nat.reduceSub, Nat.reduceLT, Nat.reduceLeDiff, Nat.reduceEqDiff, Nat.reduceBEq, Nat.reducePow]; try rfl) o2 (by simp only [go_sem, reduceCtorEq, Nat.reduceAdd, Nat.reduceMul, Nat.reduceSub, Nat.reduceLT, Nat.reduceLeDiff, Nat.reduceEqDiff, Nat.reduceBEq, Nat.reducePow]; try rfl) (by exact Tryz.sz32) (by simp) ?_)
  refine WpOps.nil ⟨Marks.nil _, ?_⟩
  simp only [Vthen, VinBlock, if_true, if_false, Nat.reduceEqDiff, reduceCtorEq]
  refine WpV.pre (Frz.ptr (t := 2) (id := i2) (ver := 0) (off := 0) rfl (Hp.set_eq _ _ _)) (Marks.nil _) ?_
  refine WpV.pre (Frz.drop _ _ i1) (Marks.nil _) ?_
  refine WpV.ret ⟨Marks.nil _, List.nodup_nil, _, by simp only [Tryz.results11]; simp only [go_sem, reduceCtorEq, Nat.reduceAdd, Nat.reduceMul, Nat.reduceSub, Nat.reduceLT, Nat.reduceLeDiff, Nat.reduceEqDiff, Nat.reduceBEq, Nat.reducePow]; rfl, ?_⟩
  refine ⟨rfl, ?_⟩
  rw [← hB]
  funext j
  simp only [killA, Hp.set]
  by_cases e1 : j = i1
  · subst e1; simp [f1]
  · by_cases e2 : j = i2
    · subst e2; simp [e1, f2']
    · simp [e1, e2]
end Go.Proofs.YtaekibilldjnmaaGreat
namespace Go.Proofs.YtaekibilldjnmaaGreat
open Go.Proofs

/-- The draw, as it lies in memory. -/
structure TyA where
  wd : List Int
  pn : Bool
  pc : Bool
  prs : List (Int × Int)
  f0 : Int
  f1 : Int
  f2 : Int
def prC (p : Int × Int) : List AV := [vbyte p.1, vbyte p.2]
def TyA.cells (x : TyA) : List AV := x.wd.map vbyte ++ [.sl x.pn x.pc x.prs.length (x.prs.flatMap prC), vbyte x.f0, vbyte x.f1, vbyte x.f2]
def Byte (n : Int) : Prop := 0 ≤ n ∧ n < 256
structure TyA.Ok (x : TyA) : Prop where
  wd : x.wd.length = 6
  wb : ∀ n ∈ x.wd, Byte n
  prs : x.prs.length ≤ 9223372036854775807
  pb : ∀ p ∈ x.prs, Byte p.1 ∧ Byte p.2
  f0 : Byte x.f0
  f1 : Byte x.f1
  f2 : Byte x.f2

theorem byte_wrap {n : Int} (h : Byte n) : IntKind.i64.wrap n = n := wrap64 (by unfold Byte at h; omega)
theorem byte_mod {n : Int} (h : Byte n) (k : Int) : n.tmod k = n % k := Int.tmod_eq_emod_of_nonneg h.1
def madeW (x : TyA) : List Int := x.wd.map fun n => 1 + n % 25
def pairOf (p : Int × Int) : Int × Int × Int := (p.1 % 6, p.1 / 6 % 6, p.2 % 11 - 5)
def twiceB (ps : List (Int × Int × Int)) (p : Int × Int × Int) : Bool := ps.any fun q => q.1 == p.1 && q.2.1 == p.2.1
def addP (ps : List (Int × Int × Int)) (p : Int × Int × Int) : List (Int × Int × Int) := if twiceB ps p = true then ps else ps ++ [p]
def madeP (x : TyA) (k : Nat) : List (Int × Int × Int) := ((x.prs.take k).map pairOf).foldl addP []
def TyA.made (x : TyA) : Cs := { wn := false, wc := false, ws := madeW x, pn := decide ((madeP x 10).length = 0), pc := decide ((madeP x 10).length = 0), ps := madeP x 10, rim := x.f0 % 12, least := x.f1 % 6, blank := x.f2 % 15 }

theorem TyA.at_w {x : TyA} (h : x.Ok) {k : Nat} (hk : k < 6) : x.cells[k]? = some (vbyte (x.wd.getD k 0)) := by
  unfold TyA.cells
  have := h.wd
  rw [List.getElem?_append_left (by simp; omega)]
  simp [List.getD_eq_getElem?_getD, show k < x.wd.length by omega]
theorem TyA.at_p {x : TyA} (h : x.Ok) : x.cells[6]? = some (.sl x.pn x.pc x.prs.length (x.prs.flatMap prC)) := by
  unfold TyA.cells
  have := h.wd
  rw [List.getElem?_append_right (by simp; omega)]
  simp [this]
theorem TyA.at_f {x : TyA} (h : x.Ok) : x.cells[7]? = some (vbyte x.f0) ∧ x.cells[8]? = some (vbyte x.f1) ∧ x.cells[9]? = some (vbyte x.f2) := by
  unfold TyA.cells
  have := h.wd
  refine ⟨?_, ?_, ?_⟩ <;> (rw [List.getElem?_append_right (by simp; omega)]; simp [this])

theorem OpW.appendBx {P : Program} {B Hw : Hp} {ob : Ob} {i3 : Nat} {o : Oper} {ev : Operand → Option AV} {t t2 e : TypeId} {a y : Operand} {nl : Bool} {len m s : Nat} {xs ys : List AV} {v y' : AV} {K : AV → Hp → Prop}
    (ho : o.op = .call { callee := .builtin .append, args := #[a, y], argTypes := #[t, t2] }) (hb : Bld B e s nl len xs v Hw) (hi : Hw i3 = none) (ha : ev a = some v) (hy : ev y = some y') (hv : viewS (Hw.set i3 (some ob)) y' = some (m, ys))
    (hE : Elem P t e s (len + m)) (hu2 : P.underlying t2 = some (.slice e)) (hl2 : ys.length = m * s) (h1 : ys.all AV.one = true) (hm : 0 < m)
    (hk : ∀ v' H', Bld B e s nl (len + m) (xs ++ ys) v' H' → H' i3 = none → K v' (H'.set i3 (some ob))) : OpW P o ev (Hw.set i3 (some ob)) K := by
  obtain ⟨hl, ⟨rfl, rfl, rfl, rfl⟩ | ⟨hp, id, ver, hid, rfl, rfl⟩⟩ := hb
  · refine OpW.append ho ha hy hv hE hu2 (by simp) hl2 h1 hm fun id hid => ?_
    obtain ⟨hne, hid'⟩ := fresh_ne hid
    rw [Hp.set_comm _ _ _ hne.symm]
    refine hk _ _ ⟨by simp [hl2], .inr ⟨by omega, id, 0, hid', by simp, by simp⟩⟩ (by rw [Hp.set_ne _ _ hne.symm]; exact hi)
  · have hne : i3 ≠ id := fun e' => by rw [e', Hp.set_eq] at hi; cases hi
    have hb3 : B i3 = none := by rwa [Hp.set_ne _ _ hne] at hi
    refine OpW.appendO ho ha (by rw [Hp.set_ne _ _ hne.symm]; exact Hp.set_eq _ _ _) hy hv hE hu2 (by omega) hl2 h1 ?_
    rw [Hp.set_comm _ _ _ hne, Hp.set_set, List.take_of_length_le (by omega)]
    exact hk _ _ ⟨by simp [hl, hl2, Nat.add_mul], .inr ⟨by omega, id, ver + 1, hid, rfl, rfl⟩⟩ (by rw [Hp.set_ne _ _ hne]; exact hb3)
theorem madeW_get {x : TyA} {k : Nat} (hk : k < x.wd.length) : ((madeW x).take k).map vint ++ [vint (1 + x.wd.getD k 0 % 25)] = ((madeW x).take (k + 1)).map vint := by
  have h1 : k < (madeW x).length := by simpa [madeW] using hk
  rw [List.take_add_one, List.getElem?_eq_getElem h1, List.map_append]
  simp [madeW, List.getD_eq_getElem?_getD, hk]
theorem Bld.cells {B Hw : Hp} {e : TypeId} {s m : Nat} {nl : Bool} {xs : List AV} {v : AV} (h : Bld B e s nl m xs v Hw) : v.cells = some [v] := by
  obtain ⟨-, ⟨-, -, rfl, -⟩ | ⟨-, id, ver, -, rfl, -⟩⟩ := h <;> rfl
theorem pr_at : ∀ (prs : List (Int × Int)) (k : Nat) (h : k < prs.length), (prs.flatMap prC)[k * 2]? = some (vbyte prs[k].1) ∧ (prs.flatMap prC)[k * 2 + 1]? = some (vbyte prs[k].2)
  | [], k, h => by simp at h
  | p :: ps, 0, _ => by simp [prC]
  | p :: ps, k + 1, h => by
    have e : (k + 1) * 2 = k * 2 + 2 := by omega
    rw [e]
    show (vbyte p.1 :: vbyte p.2 :: ps.flatMap prC)[k * 2 + 2]? = _ ∧ (vbyte p.1 :: vbyte p.2 :: ps.flatMap prC)[k * 2 + 2 + 1]? = _
    simp only [List.getElem?_cons_succ, List.getElem_cons_succ]
    exact pr_at ps k (by simpa using h)
theorem pairs_idx : ∀ (ps : List (Int × Int × Int)) (k : Nat) (h : k < ps.length), (ps.flatMap pairC)[k * 3]? = some (vint ps[k].1) ∧ (ps.flatMap pairC)[k * 3 + 1]? = some (vint ps[k].2.1)
  | [], k, h => by simp at h
  | p :: ps, 0, _ => by simp [pairC]
  | p :: ps, k + 1, h => by
    have e : (k + 1) * 3 = k * 3 + 3 := by omega
    rw [e]
    show (vint p.1 :: vint p.2.1 :: vint p.2.2 :: ps.flatMap pairC)[k * 3 + 3]? = _ ∧ (vint p.1 :: vint p.2.1 :: vint p.2.2 :: ps.flatMap pairC)[k * 3 + 3 + 1]? = _
    simp only [List.getElem?_cons_succ, List.getElem_cons_succ]
    exact pairs_idx ps k (by simpa using h)
theorem twiceB_succ (ps : List (Int × Int × Int)) (p : Int × Int × Int) (j : Nat) (h : j < ps.length) : twiceB (ps.take (j + 1)) p = (twiceB (ps.take j) p || (ps[j].1 == p.1 && ps[j].2.1 == p.2.1)) := by
  unfold twiceB
  rw [List.take_add_one, List.getElem?_eq_getElem h, List.any_append]
  simp
theorem madeP_succ {x : TyA} {k : Nat} (h : k < x.prs.length) : madeP x (k + 1) = addP (madeP x k) (pairOf x.prs[k]) := by
  unfold madeP
  rw [List.take_add_one, List.getElem?_eq_getElem h, List.map_append, List.foldl_append]
  rfl
theorem addP_len (ps : List (Int × Int × Int)) (p : Int × Int × Int) : (addP ps p).length ≤ ps.length + 1 := by
  unfold addP; split <;> simp
theorem madeP_len (x : TyA) : ∀ k, (madeP x k).length ≤ k
  | 0 => by simp [madeP]
  | k + 1 => by
    by_cases h : k < x.prs.length
    · rw [madeP_succ h]
      have := addP_len (madeP x k) (pairOf x.prs[k])
      have := madeP_len x k
      omega
    · have : madeP x (k + 1) = madeP x k := by unfold madeP; rw [List.take_of_length_le (by omega), List.take_of_length_le (by omega)]
      rw [this]; have := madeP_len x k; omega
theorem madeP_end {x : TyA} {k : Nat} (h : k = 10 ∨ (k ≤ 10 ∧ x.prs.length ≤ k)) : madeP x k = madeP x 10 := by
  rcases h with rfl | ⟨h1, h2⟩
  · rfl
  · unfold madeP; rw [List.take_of_length_le h2, List.take_of_length_le (by omega)]
theorem len_bld {B Hw : Hp} {i3 m : Nat} {nl : Bool} {xs : List AV} {v : AV} (h : Bld B 74 3 nl m xs v Hw) (hi : Hw i3 = none) (ob : Ob) : evLen Tryz.prog (Hw.set i3 (some ob)) 30 v = some (vint m) := by
  obtain ⟨-, ⟨rfl, -, rfl, -⟩ | ⟨-, id, ver, -, rfl, rfl⟩⟩ := h
  · unfold evLen
    rw [Tryz.underlying30]
  · have hne : id ≠ i3 := fun e' => by rw [← e', Hp.set_eq] at hi; cases hi
    unfold evLen
    rw [Tryz.underlying30]
    simp only [turnOf, Hp.set_ne _ _ hne, Hp.set_eq, if_true]
theorem OpW.lenW {P : Program} {H : Hp} {o : Oper} {ev : Operand → Option AV} {t : TypeId} {y : Operand} {x z : AV} {K : AV → Hp → Prop} (ho : o.op = .call { callee := .builtin .len, args := #[y], argTypes := #[t] }) (hy : ev y = some x) (hl : evLen P H t x = some z) (hk : K z H) : OpW P o ev H K := by
  refine OpW.ev ?_ hk
  rw [ho]
  simp only [evP, mapEv, hy, Option.bind_some, evCall]
  exact hl
theorem sub_self (fr : Fr) : Sub fr fr := fun _ _ h => h

set_option maxHeartbeats 4000000 in
theorem made_any (H : Hp) (x : TyA) (hx : x.Ok) : CallV Tryz.prog 8 [.agg x.cells] H (fun r H' => r = .agg x.made.cells ∧ H' = H) := by
  have hc7 := (TyA.at_f hx).1
  have hc8 := (TyA.at_f hx).2.1
  have hc9 := (TyA.at_f hx).2.2
  have hcw := fun (k : Nat) (hk : k < 6) => TyA.at_w hx hk
  have hc6 := TyA.at_p hx
  have hone : (x.cells.all AV.one) = true := by
    unfold TyA.cells
    rw [List.all_append]
    simp [AV.one]
  have hlen : x.cells.length = 10 := by unfold TyA.cells; simp [hx.wd]
  generalize x.cells = xc at *
  have a0 : (0 : Int) ≤ 0 ∧ (0 : Int) < ((3 : Nat) : Int) := by decide
  have a1 : (0 : Int) ≤ 1 ∧ (1 : Int) < ((3 : Nat) : Int) := by decide
  have a2 : (0 : Int) ≤ 2 ∧ (2 : Int) < ((3 : Nat) : Int) := by decide
  have t0 : Int.toNat 0 = 0 := rfl
  have t1 : Int.toNat 1 = 1 := rfl
  have t2 : Int.toNat 2 = 2 := rfl
  have w0 := byte_wrap hx.f0
  have w1 := byte_wrap hx.f1
  have w2 := byte_wrap hx.f2
  have m0 := byte_mod hx.f0 12
  have m1 := byte_mod hx.f1 6
  have m2 := byte_mod hx.f2 15
  refine CallV.body Tryz.func8 rfl Tryz.ntmps8 (by rfl) ?_
  refine WpV.seq (WpV.region ?_)
  refine WpOps.take 1 (by simp only [go_sem, reduceCtorEq, Nat.reduceAdd, Nat.reduceMul, Nat.reduceSub, Nat.reduceLT, Nat.reduceLeDiff, Nat.reduceEqDiff, Nat.reduceBEq, Nat.reducePow, hone]; rfl) ?_
  refine WpOps.step (by rfl) (by rfl) (OpW.alloc rfl (Tryz.ze32) (fun i2 f2 => ?_))
  refine WpOps.nil ⟨Marks.nil _, ?_⟩
  simp only [Vthen, VinBlock, if_true, if_false, Nat.reduceEqDiff, reduceCtorEq]
  refine WpV.seq (WpV.region ?_)
  refine WpOps.take 5 (by simp only [go_sem, reduceCtorEq, Nat.reduceAdd, Nat.reduceMul, Nat.reduceSub, Nat.reduceLT, Nat.reduceLeDiff, Nat.reduceEqDiff, Nat.reduceBEq, Nat.reducePow, hc7, w0, m0, Int.reduceEq, a0, t0]; rfl) ?_
  refine WpOps.take 5 (by simp only [go_sem, reduceCtorEq, Nat.reduceAdd, Nat.reduceMul, Nat.reduceSub, Nat.reduceLT, Nat.reduceLeDiff, Nat.reduceEqDiff, Nat.reduceBEq, Nat.reducePow, hc8, w1, m1, Int.reduceEq, a1, t1]; rfl) ?_
  refine WpOps.take 5 (by simp only [go_sem, reduceCtorEq, Nat.reduceAdd, Nat.reduceMul, Nat.reduceSub, Nat.reduceLT, Nat.reduceLeDiff, Nat.reduceEqDiff, Nat.reduceBEq, Nat.reducePow, hc9, w2, m2, Int.reduceEq, a2, t2]; rfl) ?_
  refine WpOps.take 1 (by simp only [go_sem, reduceCtorEq, Nat.reduceAdd, Nat.reduceMul, Nat.reduceSub, Nat.reduceLT, Nat.reduceLeDiff, Nat.reduceEqDiff, Nat.reduceBEq, Nat.reducePow]; rfl) ?_
  refine WpOps.step (by rfl) (by rfl) (OpW.alloc rfl (Tryz.ze32) (fun i3 f3 => ?_))
  obtain ⟨n32, f3'⟩ := fresh_ne f3
  refine WpOps.step (by rfl) (by rfl) (OpW.store (ty := 32) (id := i3) (ver := 0) (off := 0) rfl (by simp only [go_sem, reduceCtorEq, Nat.reduceAdd, Nat.reduceMul, Nat.reduceSub, Nat.reduceLT, Nat.reduceLeDiff, Nat.reduceEqDiff, Nat.reduceBEq, Nat.reducePow]; try rfl) (by simp only [go_sem, reduceCtorEq, Nat.reduceAdd, Nat.reduceMul, Nat.reduceSub, Nat.reduceLT, Nat.reduceLeDiff, Nat.reduceEqDiff, Nat.reduceBEq, Nat.reducePow]; try rfl) (Hp.set_eq _ _ _) (by simp only [go_sem, reduceCtorEq, Nat.reduceAdd, Nat.reduceMul, Nat.reduceSub, Nat.reduceLT, Nat.reduceLeDiff, Nat.reduceEqDiff, Nat.reduceBEq, Nat.reducePow]; try rfl) (by exact Tryz.sz32) (by simp) ?_)
  refine WpOps.nil ⟨Marks.nil _, ?_⟩
  rw [Hp.set_set]
  simp only [Vthen, VinBlock, if_true, if_false, Nat.reduceEqDiff, reduceCtorEq]
  refine WpV.seq ?_
  refine WpV.seq (WpV.regionE (by simp only [go_sem, reduceCtorEq, Nat.reduceAdd, Nat.reduceMul, Nat.reduceSub, Nat.reduceLT, Nat.reduceLeDiff, Nat.reduceEqDiff, Nat.reduceBEq, Nat.reducePow]; rfl) (Marks.nil _) ?_)
  simp only [Vthen, VinBlock, if_true, if_false, Nat.reduceEqDiff, reduceCtorEq]
  have b3 : (H.set i2 (some (.cells 32 0 [.sl true true 0 [], .sl true true 0 [], vint 0, vint 0, vint 0]))) i3 = none := f3
  generalize hB : H.set i2 _ = B at b3 ⊢
  refine WpV.block (WpV.loop (ι := { p : Nat × AV × Hp // p.1 ≤ 6 ∧ Bld B 3 1 true p.1 (((madeW x).take p.1).map vint) p.2.1 p.2.2 ∧ p.2.2 i3 = none }) (fun p => [(1, .cp xc 0), (2, .rp i2 0 0), (3, .rp i3 0 0), (4, vint p.1.1)]) (fun p => p.1.2.2.set i3 (some (.cells 32 0 [p.1.2.1, .sl true true 0 [], vint (x.f0 % 12), vint (x.f1 % 6), vint (x.f2 % 15)]))) (fun p => 6 - p.1.1) ⟨(0, .sl true true 0 [], B), by omega, Bld.nil _ _ _ _, b3⟩ ?_ rfl ?_)
  · exact Sub.cons rfl rfl (Sub.cons rfl rfl (Sub.cons rfl rfl (Sub.cons rfl rfl (Sub.nil _))))
  rintro ⟨⟨k, v, Hw⟩, hk, hBl, hi3⟩
  simp only at hk hBl hi3 ⊢
  refine WpV.seq ?_
  refine WpV.seq (WpV.regionE (by simp only [go_sem, reduceCtorEq, Nat.reduceAdd, Nat.reduceMul, Nat.reduceSub, Nat.reduceLT, Nat.reduceLeDiff, Nat.reduceEqDiff, Nat.reduceBEq, Nat.reducePow]; rfl) (Marks.nil _) ?_)
  simp only [Vthen, VinBlock, if_true, if_false, Nat.reduceEqDiff, reduceCtorEq]
  refine WpV.cond rfl (fun hb => WpV.skip ?_) (fun hb => WpV.exit ?_)
  · have hlt : (k : Int) < 6 := of_decide_eq_true ‹_›
    have hlt' : k < 6 := by omega
    have hwk := hcw k hlt'
    have hbk : Byte (x.wd.getD k 0) := hx.wb _ (getD_mem (by rw [hx.wd]; exact hlt'))
    have wk := byte_wrap hbk
    have mk := byte_mod hbk 25
    have hmb : 0 ≤ x.wd.getD k 0 % 25 ∧ x.wd.getD k 0 % 25 < 25 := by omega
    have ak : IntKind.i64.wrap (1 + x.wd.getD k 0 % 25) = 1 + x.wd.getD k 0 % 25 := wrap64 (by omega)
    have ik : (0 : Int) ≤ (k : Int) ∧ (k : Int) < ((6 : Nat) : Int) := by omega
    have hnext : IntKind.i64.wrap ((k : Int) + 1) = ((k + 1 : Nat) : Int) := by rw [wrap64 (by omega)]; rfl
    simp only [Vthen, VinBlock, if_true, if_false, Nat.reduceEqDiff, reduceCtorEq]
    refine WpV.seq (WpV.block ?_)
    refine WpV.regionTN 10 Tryz.mixed (by kernel_rfl) (by kernel_rfl) (by kernel_rfl) ?_
    refine LexD.take 6 (by rfl) (by simp only [go_sem, reduceCtorEq, Nat.reduceAdd, Nat.reduceMul, Nat.reduceSub, Nat.reduceLT, Nat.reduceLeDiff, Nat.reduceEqDiff, Nat.reduceBEq, Nat.reducePow, hwk, ik, Int.toNat_natCast]; rfl) ?_
    refine LexD.take 4 (by rfl) (by simp only [go_sem, reduceCtorEq, Nat.reduceAdd, Nat.reduceMul, Nat.reduceSub, Nat.reduceLT, Nat.reduceLeDiff, Nat.reduceEqDiff, Nat.reduceBEq, Nat.reducePow, wk, mk, ak, Int.reduceEq]; rfl) ?_
    refine LexD.nilE ?_
    refine LexT.step (by rfl) (by rfl) (OpW.appendBx (m := 1) (ys := [vint (1 + x.wd.getD k 0 % 25)]) rfl hBl hi3 rfl rfl rfl (Tryz.el29 (by omega)) Tryz.underlying29 rfl rfl (by decide) (fun v' H' hB' hi' => ?_))
    refine LexT.take 1 (by simp only [go_sem, reduceCtorEq, Nat.reduceAdd, Nat.reduceMul, Nat.reduceSub, Nat.reduceLT, Nat.reduceLeDiff, Nat.reduceEqDiff, Nat.reduceBEq, Nat.reducePow]; rfl) ?_
    refine LexT.step (by rfl) (by rfl) (OpW.store (ty := 32) (id := i3) (ver := 0) (off := 0) (x := v') (xs := [v']) rfl (by simp only [go_sem, reduceCtorEq, Nat.reduceAdd, Nat.reduceMul, Nat.reduceSub, Nat.reduceLT, Nat.reduceLeDiff, Nat.reduceEqDiff, Nat.reduceBEq, Nat.reducePow]; try rfl) (by simp only [go_sem, reduceCtorEq, Nat.reduceAdd, Nat.reduceMul, Nat.reduceSub, Nat.reduceLT, Nat.reduceLeDiff, Nat.reduceEqDiff, Nat.reduceBEq, Nat.reducePow]; try rfl) (Hp.set_eq _ _ _) hB'.cells (by exact Tryz.sz29) (by simp) ?_)
    refine LexT.nilE ⟨Marks.nil _, ?_⟩
    rw [Hp.set_set]
    simp only [Vthen, VinBlock, if_true, if_false, Nat.reduceEqDiff, reduceCtorEq]
    refine WpV.regionE (by simp only [go_sem, reduceCtorEq, Nat.reduceAdd, Nat.reduceMul, Nat.reduceSub, Nat.reduceLT, Nat.reduceLeDiff, Nat.reduceEqDiff, Nat.reduceBEq, Nat.reducePow, hnext]; rfl) (Marks.nil _) ?_
    simp only [Vthen, VinBlock, if_true, if_false, Nat.reduceEqDiff, reduceCtorEq]
    rw [madeW_get (by rw [hx.wd]; exact hlt')] at hB'
    exact ⟨trivial, ⟨(k + 1, v', H'), hlt', hB', hi'⟩, by simp only; omega, Sub.cons rfl rfl (Sub.cons rfl rfl (Sub.cons rfl rfl (Sub.cons rfl rfl (Sub.nil _)))), rfl⟩
  · have hge : k = 6 := by have := of_decide_eq_false ‹_›; omega
    subst hge
    obtain ⟨-, ⟨h0, -⟩ | ⟨-, idw, verw, hidw, rfl, rfl⟩⟩ := hBl
    · cases h0
    have hw3 : idw ≠ i3 := fun e' => by rw [← e', Hp.set_eq] at hi3; cases hi3
    have hW6 : ((List.map vint (List.take 6 (madeW x))).drop 0).take (6 * 1) = (madeW x).map vint := by
      have : (madeW x).length = 6 := by simp [madeW, hx.wd]
      rw [List.drop_zero, List.take_of_length_le (l := madeW x) (by omega), List.take_of_length_le (by simp; omega)]
    have hWs : AV.sl false false 6 (((List.map vint (List.take 6 (madeW x))).drop 0).take (6 * 1)) = vints false false (madeW x) := by
      have : (madeW x).length = 6 := by simp [madeW, hx.wd]
      rw [hW6]; simp only [vints, this]
    have hB2' : (B.set i3 (some (.cells 32 0 x.made.cells))) i2 = some (.cells 32 0 [.sl true true 0 [], .sl true true 0 [], vint 0, vint 0, vint 0]) := by rw [Hp.set_ne _ _ n32.symm, ← hB]; exact Hp.set_eq _ _ _
    generalize hB2 : B.set idw _ = B2 at hi3 ⊢
    simp only [Vthen, VinBlock, if_true, if_false, Nat.reduceEqDiff, reduceCtorEq]
    refine WpV.seq ?_
    refine WpV.seq (WpV.regionE (by simp only [go_sem, reduceCtorEq, Nat.reduceAdd, Nat.reduceMul, Nat.reduceSub, Nat.reduceLT, Nat.reduceLeDiff, Nat.reduceEqDiff, Nat.reduceBEq, Nat.reducePow]; rfl) (Marks.nil _) ?_)
    simp only [Vthen, VinBlock, if_true, if_false, Nat.reduceEqDiff, reduceCtorEq]
    refine WpV.block (WpV.loop (ι := { p : Nat × AV × Hp // (p.1 ≤ 10 ∧ p.1 ≤ x.prs.length) ∧ Bld B2 74 3 true (madeP x p.1).length ((madeP x p.1).flatMap pairC) p.2.1 p.2.2 ∧ p.2.2 i3 = none }) (fun p => [(1, .cp xc 0), (2, .rp i2 0 0), (3, .rp i3 0 0), (5, vint p.1.1)]) (fun p => p.1.2.2.set i3 (some (.cells 32 0 [.rs idw verw 1 0 6 false, p.1.2.1, vint (x.f0 % 12), vint (x.f1 % 6), vint (x.f2 % 15)]))) (fun p => 10 - p.1.1) ⟨(0, .sl true true 0 [], B2), by omega, Bld.nil _ _ _ _, hi3⟩ ?_ rfl ?_)
    · exact Sub.cons rfl rfl (Sub.cons rfl rfl (Sub.cons rfl rfl (Sub.cons rfl rfl (Sub.nil _))))
    rintro ⟨⟨k, v, Hq⟩, ⟨hk1, hk2⟩, hBl, hi3⟩
    simp only at hk1 hk2 hBl hi3 ⊢
    have hprl := hx.prs
    have hml := madeP_len x k
    refine WpV.seq ?_
    by_cases hkl : (k : Int) < (x.prs.length : Int)
    · by_cases hk10 : (k : Int) < 10
      · have hkl' : k < x.prs.length := by omega
        obtain ⟨hp0, hp1⟩ := pr_at x.prs k hkl'
        obtain ⟨hb0, hb1⟩ := hx.pb x.prs[k] (List.getElem_mem _)
        have hsu := madeP_succ hkl'
        generalize x.prs[k] = pr at hp0 hp1 hb0 hb1 hsu
        have e0 : (0 : Int) ≤ 0 ∧ (0 : Int) < ((2 : Nat) : Int) := by decide
        have e1 : (0 : Int) ≤ 1 ∧ (1 : Int) < ((2 : Nat) : Int) := by decide
        have wa := byte_wrap hb0
        have wb := byte_wrap hb1
        have ma := byte_mod hb0 6
        have mb := byte_mod hb1 11
        have hq : pr.1.tdiv 6 = pr.1 / 6 := Int.tdiv_eq_ediv_of_nonneg hb0.1
        have hqw : IntKind.i64.wrap (pr.1 / 6) = pr.1 / 6 := wrap64 (by unfold Byte at hb0; omega)
        have hqm : (pr.1 / 6).tmod 6 = pr.1 / 6 % 6 := Int.tmod_eq_emod_of_nonneg (by unfold Byte at hb0; omega)
        have hsw : IntKind.i64.wrap (pr.2 % 11 - 5) = pr.2 % 11 - 5 := wrap64 (by omega)
        have hnext : IntKind.i64.wrap ((k : Int) + 1) = ((k + 1 : Nat) : Int) := by rw [wrap64 (by omega)]; rfl
        refine WpV.seq (WpV.regionE (by simp only [go_sem, reduceCtorEq, Nat.reduceAdd, Nat.reduceMul, Nat.reduceSub, Nat.reduceLT, Nat.reduceLeDiff, Nat.reduceEqDiff, Nat.reduceBEq, Nat.reducePow, hc6, hkl, hk10]; rfl) (Marks.nil _) ?_)
        simp only [Vthen, VinBlock, if_true, if_false, Nat.reduceEqDiff, reduceCtorEq]
        refine WpV.cond rfl (fun hb => WpV.skip ?_) (fun hb => by cases hb)
        simp only [Vthen, VinBlock, if_true, if_false, Nat.reduceEqDiff, reduceCtorEq]
        refine WpV.seq (WpV.block ?_)
        refine WpV.seq (WpV.regionAN 27 (oa := _) (os := _) (d := 6) (y := .tmp 78) (t := 74) (zs := _) Tryz.mixed (by kernel_rfl) (by kernel_rfl) rfl rfl rfl rfl rfl (by decide) rfl rfl rfl (by decide) Tryz.ze74 (Marks.nil _) ?_)
        refine LexU.take 8 (by rfl) (by rfl) (fun H => by simp only [go_sem, reduceCtorEq, Nat.reduceAdd, Nat.reduceMul, Nat.reduceSub, Nat.reduceLT, Nat.reduceLeDiff, Nat.reduceEqDiff, Nat.reduceBEq, Nat.reducePow, hc6, hkl, e0, t0, hp0, wa, ma, Int.reduceEq]; rfl) ?_
        refine LexU.take 6 (by rfl) (by rfl) (fun H => by simp only [go_sem, reduceCtorEq, Nat.reduceAdd, Nat.reduceMul, Nat.reduceSub, Nat.reduceLT, Nat.reduceLeDiff, Nat.reduceEqDiff, Nat.reduceBEq, Nat.reducePow, hc6, hkl, e0, t0, hp0, wa, ma, Int.reduceEq]; rfl) ?_
        refine LexU.take 3 (by rfl) (by rfl) (fun H => by simp only [go_sem, reduceCtorEq, Nat.reduceAdd, Nat.reduceMul, Nat.reduceSub, Nat.reduceLT, Nat.reduceLeDiff, Nat.reduceEqDiff, Nat.reduceBEq, Nat.reducePow, wa, hq, hqw, hqm, Int.reduceEq]; rfl) ?_
        refine LexU.take 6 (by rfl) (by rfl) (fun H => by simp only [go_sem, reduceCtorEq, Nat.reduceAdd, Nat.reduceMul, Nat.reduceSub, Nat.reduceLT, Nat.reduceLeDiff, Nat.reduceEqDiff, Nat.reduceBEq, Nat.reducePow, hc6, hkl, e1, t1, hp1]; rfl) ?_
        refine LexU.take 4 (by rfl) (by rfl) (fun H => by simp only [go_sem, reduceCtorEq, Nat.reduceAdd, Nat.reduceMul, Nat.reduceSub, Nat.reduceLT, Nat.reduceLeDiff, Nat.reduceEqDiff, Nat.reduceBEq, Nat.reducePow, wb, mb, hsw, Int.reduceEq]; rfl) ?_
        refine LexU.nilE ⟨_, _, rfl, fun _ => rfl, by simp only [go_sem, reduceCtorEq, Nat.reduceAdd, Nat.reduceMul, Nat.reduceSub, Nat.reduceLT, Nat.reduceLeDiff, Nat.reduceEqDiff, Nat.reduceBEq, Nat.reducePow]; rfl, by exact Tryz.sz74, by simp, fun id hid => ?_⟩
        simp only [Vthen, VinBlock, if_true, if_false, Nat.reduceEqDiff, reduceCtorEq]
        refine WpV.pre (Frz.ptr (t := 6) rfl (Hp.set_eq _ _ _)) (Marks.nil _) ?_
        rw [Hp.set_set, Hp.set_same _ _ _ hid]
        have lv := fun (ob : Ob) => len_bld hBl hi3 ob
        have hM10 : (madeP x k).length ≤ 10 := by omega
        generalize hP : madeP x k = Ps at *
        generalize hM : Ps.length = M at *
        refine WpV.seq (WpV.regionE (by simp only [go_sem, reduceCtorEq, Nat.reduceAdd, Nat.reduceMul, Nat.reduceSub, Nat.reduceLT, Nat.reduceLeDiff, Nat.reduceEqDiff, Nat.reduceBEq, Nat.reducePow]; rfl) (Marks.nil _) ?_)
        simp only [Vthen, VinBlock, if_true, if_false, Nat.reduceEqDiff, reduceCtorEq]
        refine WpV.seq ?_
        refine WpV.seq (WpV.regionE (by simp only [go_sem, reduceCtorEq, Nat.reduceAdd, Nat.reduceMul, Nat.reduceSub, Nat.reduceLT, Nat.reduceLeDiff, Nat.reduceEqDiff, Nat.reduceBEq, Nat.reducePow]; rfl) (Marks.nil _) ?_)
        simp only [Vthen, VinBlock, if_true, if_false, Nat.reduceEqDiff, reduceCtorEq]
        refine WpV.block (WpV.loopN M (fun j => [(1, .cp xc 0), (2, .rp i2 0 0), (3, .rp i3 0 0), (5, vint k), (6, .cp (pairC (pairOf pr)) 0), (7, .bool (twiceB (Ps.take j) (pairOf pr))), (8, vint j)]) (fun _ => Hq.set i3 (some (.cells 32 0 [.rs idw verw 1 0 6 false, v, vint (x.f0 % 12), vint (x.f1 % 6), vint (x.f2 % 15)]))) ?_ rfl ?_)
        · exact .cons rfl rfl (.cons rfl rfl (.cons rfl rfl (.cons rfl rfl (.cons rfl rfl (.cons rfl rfl (.cons rfl rfl (.nil _)))))))
        · intro j hj
          refine WpV.seq ?_
          refine WpV.seq (WpV.region ?_)
          refine WpOps.take 3 (by simp only [go_sem, reduceCtorEq, Nat.reduceAdd, Nat.reduceMul, Nat.reduceSub, Nat.reduceLT, Nat.reduceLeDiff, Nat.reduceEqDiff, Nat.reduceBEq, Nat.reducePow]; rfl) ?_
          refine WpOps.step (by rfl) (by rfl) (OpW.lenW rfl (by simp only [go_sem, reduceCtorEq, Nat.reduceAdd, Nat.reduceMul, Nat.reduceSub, Nat.reduceLT, Nat.reduceLeDiff, Nat.reduceEqDiff, Nat.reduceBEq, Nat.reducePow]; try rfl) (lv _) ?_)
          refine WpOps.take 1 (by simp only [go_sem, reduceCtorEq, Nat.reduceAdd, Nat.reduceMul, Nat.reduceSub, Nat.reduceLT, Nat.reduceLeDiff, Nat.reduceEqDiff, Nat.reduceBEq, Nat.reducePow]; rfl) (WpOps.nil ⟨Marks.nil _, ?_⟩)
          simp only [Vthen, VinBlock, if_true, if_false, Nat.reduceEqDiff, reduceCtorEq]
          refine WpV.cond rfl (fun hb => WpV.skip ?_) (fun hb => WpV.exit ?_)
          · have hlt : (j : Int) < (M : Int) := of_decide_eq_true ‹_›
            have hlt' : j < M := by omega
            have hjP : j < Ps.length := by omega
            obtain ⟨hq0, hq1⟩ := pairs_idx Ps j hjP
            have hts := twiceB_succ Ps (pairOf pr) j hjP
            generalize Ps[j] = q at hq0 hq1 hts
            have hnj : IntKind.i64.wrap ((j : Int) + 1) = ((j + 1 : Nat) : Int) := by rw [wrap64 (by omega)]; rfl
            obtain ⟨-, ⟨h0, -⟩ | ⟨-, idp, verp, hidp, rfl, rfl⟩⟩ := hBl
            · omega
            have hne : idp ≠ i3 := fun e' => by rw [← e', Hp.set_eq] at hi3; cases hi3
            have yp : ((B2.set idp (some (.cells 74 verp (Ps.flatMap pairC)))).set i3 (some (.cells 32 0 [.rs idw verw 1 0 6 false, .rs idp verp 3 0 M false, vint (x.f0 % 12), vint (x.f1 % 6), vint (x.f2 % 15)]))) idp = some (.cells 74 verp (Ps.flatMap pairC)) := by rw [Hp.set_ne _ _ hne]; exact Hp.set_eq _ _ _
            simp only [Vthen, VinBlock, if_true, if_false, Nat.reduceEqDiff, reduceCtorEq]
            refine WpV.seq (WpV.block ?_)
            cases htw : twiceB (Ps.take j) (pairOf pr)
            · rw [htw, Bool.false_or] at hts
              cases hA : (q.1 == (pairOf pr).1)
              · rw [hA, Bool.false_and] at hts
                refine WpV.regionTN 23 Tryz.mixed (by kernel_rfl) (by kernel_rfl) (by kernel_rfl) ?_
                refine LexD.take 8 (by rfl) (by simp only [go_sem, reduceCtorEq, Nat.reduceAdd, Nat.reduceMul, Nat.reduceSub, Nat.reduceLT, Nat.reduceLeDiff, Nat.reduceEqDiff, Nat.reduceBEq, Nat.reducePow, yp, hlt, hq0, pairC, hA]; rfl) ?_
                refine LexD.take 8 (by rfl) (by simp only [go_sem, reduceCtorEq, Nat.reduceAdd, Nat.reduceMul, Nat.reduceSub, Nat.reduceLT, Nat.reduceLeDiff, Nat.reduceEqDiff, Nat.reduceBEq, Nat.reducePow, yp, hlt, hq0, pairC, hA]; rfl) ?_
                refine LexD.take 7 (by rfl) (by simp only [go_sem, reduceCtorEq, Nat.reduceAdd, Nat.reduceMul, Nat.reduceSub, Nat.reduceLT, Nat.reduceLeDiff, Nat.reduceEqDiff, Nat.reduceBEq, Nat.reducePow, yp, hlt, hq0, pairC, hA]; rfl) ?_
                refine LexD.nilE ?_
                refine LexT.take 1 (by simp only [go_sem, reduceCtorEq, Nat.reduceAdd, Nat.reduceMul, Nat.reduceSub, Nat.reduceLT, Nat.reduceLeDiff, Nat.reduceEqDiff, Nat.reduceBEq, Nat.reducePow, yp, hlt, hq0, pairC, hA]; rfl) (LexT.nilE ⟨Marks.nil _, ?_⟩)
                simp only [Vthen, VinBlock, if_true, if_false, Nat.reduceEqDiff, reduceCtorEq]
                refine WpV.regionE (by simp only [go_sem, reduceCtorEq, Nat.reduceAdd, Nat.reduceMul, Nat.reduceSub, Nat.reduceLT, Nat.reduceLeDiff, Nat.reduceEqDiff, Nat.reduceBEq, Nat.reducePow, hnj]; rfl) (Marks.nil _) ?_
                simp only [Vthen, VinBlock, if_true, if_false, Nat.reduceEqDiff, reduceCtorEq]
                exact ⟨trivial, hlt', .cons rfl rfl (.cons rfl rfl (.cons rfl rfl (.cons rfl rfl (.cons rfl rfl (.cons rfl (by rw [hts]) (.cons rfl rfl (.nil _))))))), by first | rfl | trivial⟩
              · rw [hA, Bool.true_and] at hts
                refine WpV.regionTN 23 Tryz.mixed (by kernel_rfl) (by kernel_rfl) (by kernel_rfl) ?_
                refine LexD.take 8 (by rfl) (by simp only [go_sem, reduceCtorEq, Nat.reduceAdd, Nat.reduceMul, Nat.reduceSub, Nat.reduceLT, Nat.reduceLeDiff, Nat.reduceEqDiff, Nat.reduceBEq, Nat.reducePow, yp, hlt, hq0, hq1, pairC, hA]; rfl) ?_
                refine LexD.take 8 (by rfl) (by simp only [go_sem, reduceCtorEq, Nat.reduceAdd, Nat.reduceMul, Nat.reduceSub, Nat.reduceLT, Nat.reduceLeDiff, Nat.reduceEqDiff, Nat.reduceBEq, Nat.reducePow, yp, hlt, hq0, hq1, pairC, hA]; rfl) ?_
                refine LexD.take 7 (by rfl) (by simp only [go_sem, reduceCtorEq, Nat.reduceAdd, Nat.reduceMul, Nat.reduceSub, Nat.reduceLT, Nat.reduceLeDiff, Nat.reduceEqDiff, Nat.reduceBEq, Nat.reducePow, yp, hlt, hq0, hq1, pairC, hA]; rfl) ?_
                refine LexD.nilE ?_
                refine LexT.take 1 (by simp only [go_sem, reduceCtorEq, Nat.reduceAdd, Nat.reduceMul, Nat.reduceSub, Nat.reduceLT, Nat.reduceLeDiff, Nat.reduceEqDiff, Nat.reduceBEq, Nat.reducePow, yp, hlt, hq0, hq1, pairC, hA]; rfl) (LexT.nilE ⟨Marks.nil _, ?_⟩)
                simp only [Vthen, VinBlock, if_true, if_false, Nat.reduceEqDiff, reduceCtorEq]
                refine WpV.regionE (by simp only [go_sem, reduceCtorEq, Nat.reduceAdd, Nat.reduceMul, Nat.reduceSub, Nat.reduceLT, Nat.reduceLeDiff, Nat.reduceEqDiff, Nat.reduceBEq, Nat.reducePow, hnj]; rfl) (Marks.nil _) ?_
                simp only [Vthen, VinBlock, if_true, if_false, Nat.reduceEqDiff, reduceCtorEq]
                exact ⟨trivial, hlt', .cons rfl rfl (.cons rfl rfl (.cons rfl rfl (.cons rfl rfl (.cons rfl rfl (.cons rfl (by rw [hts]) (.cons rfl rfl (.nil _))))))), by first | rfl | trivial⟩
            · rw [htw, Bool.true_or] at hts
              refine WpV.regionTN 23 Tryz.mixed (by kernel_rfl) (by kernel_rfl) (by kernel_rfl) ?_
              refine LexD.take 8 (by rfl) (by simp only [go_sem, reduceCtorEq, Nat.reduceAdd, Nat.reduceMul, Nat.reduceSub, Nat.reduceLT, Nat.reduceLeDiff, Nat.reduceEqDiff, Nat.reduceBEq, Nat.reducePow]; rfl) ?_
              refine LexD.take 8 (by rfl) (by simp only [go_sem, reduceCtorEq, Nat.reduceAdd, Nat.reduceMul, Nat.reduceSub, Nat.reduceLT, Nat.reduceLeDiff, Nat.reduceEqDiff, Nat.reduceBEq, Nat.reducePow]; rfl) ?_
              refine LexD.take 7 (by rfl) (by simp only [go_sem, reduceCtorEq, Nat.reduceAdd, Nat.reduceMul, Nat.reduceSub, Nat.reduceLT, Nat.reduceLeDiff, Nat.reduceEqDiff, Nat.reduceBEq, Nat.reducePow]; rfl) ?_
              refine LexD.nilE ?_
              refine LexT.take 1 (by simp only [go_sem, reduceCtorEq, Nat.reduceAdd, Nat.reduceMul, Nat.reduceSub, Nat.reduceLT, Nat.reduceLeDiff, Nat.reduceEqDiff, Nat.reduceBEq, Nat.reducePow]; rfl) (LexT.nilE ⟨Marks.nil _, ?_⟩)
              simp only [Vthen, VinBlock, if_true, if_false, Nat.reduceEqDiff, reduceCtorEq]
              refine WpV.regionE (by simp only [go_sem, reduceCtorEq, Nat.reduceAdd, Nat.reduceMul, Nat.reduceSub, Nat.reduceLT, Nat.reduceLeDiff, Nat.reduceEqDiff, Nat.reduceBEq, Nat.reducePow, hnj]; rfl) (Marks.nil _) ?_
              simp only [Vthen, VinBlock, if_true, if_false, Nat.reduceEqDiff, reduceCtorEq]
              exact ⟨trivial, hlt', .cons rfl rfl (.cons rfl rfl (.cons rfl rfl (.cons rfl rfl (.cons rfl rfl (.cons rfl (by rw [hts]) (.cons rfl rfl (.nil _))))))), by first | rfl | trivial⟩
          · have hge : j = M := by have := of_decide_eq_false ‹_›; omega
            subst hge
            rw [show List.take j Ps = Ps from List.take_of_length_le (by omega)]
            simp only [Vthen, VinBlock, if_true, if_false, Nat.reduceEqDiff, reduceCtorEq]
            cases htw : twiceB Ps (pairOf pr)
            · rw [addP, if_neg (by rw [htw]; decide)] at hsu
              refine WpV.seq (WpV.regionE (by simp only [go_sem, reduceCtorEq, Nat.reduceAdd, Nat.reduceMul, Nat.reduceSub, Nat.reduceLT, Nat.reduceLeDiff, Nat.reduceEqDiff, Nat.reduceBEq, Nat.reducePow]; rfl) (Marks.nil _) ?_)
              simp only [Vthen, VinBlock, if_true, if_false, Nat.reduceEqDiff, reduceCtorEq]
              refine WpV.cond rfl (fun hb => ?_) (fun hb => by cases hb)
              refine WpV.region ?_
              refine WpOps.take 4 (by simp only [go_sem, reduceCtorEq, Nat.reduceAdd, Nat.reduceMul, Nat.reduceSub, Nat.reduceLT, Nat.reduceLeDiff, Nat.reduceEqDiff, Nat.reduceBEq, Nat.reducePow]; rfl) ?_
              refine WpOps.step (by rfl) (by rfl) (OpW.appendBx (m := 1) (ys := pairC (pairOf pr)) rfl hBl hi3 (by simp only [go_sem, reduceCtorEq, Nat.reduceAdd, Nat.reduceMul, Nat.reduceSub, Nat.reduceLT, Nat.reduceLeDiff, Nat.reduceEqDiff, Nat.reduceBEq, Nat.reducePow]; try rfl) (by simp only [go_sem, reduceCtorEq, Nat.reduceAdd, Nat.reduceMul, Nat.reduceSub, Nat.reduceLT, Nat.reduceLeDiff, Nat.reduceEqDiff, Nat.reduceBEq, Nat.reducePow]; try rfl) rfl (Tryz.el30 (by omega)) Tryz.underlying30 rfl rfl (by decide) (fun v' H' hB' hi' => ?_))
              refine WpOps.take 1 (by simp only [go_sem, reduceCtorEq, Nat.reduceAdd, Nat.reduceMul, Nat.reduceSub, Nat.reduceLT, Nat.reduceLeDiff, Nat.reduceEqDiff, Nat.reduceBEq, Nat.reducePow]; rfl) ?_
              refine WpOps.step (by rfl) (by rfl) (OpW.store (ty := 32) (id := i3) (ver := 0) (off := 1) (x := v') (xs := [v']) rfl (by simp only [go_sem, reduceCtorEq, Nat.reduceAdd, Nat.reduceMul, Nat.reduceSub, Nat.reduceLT, Nat.reduceLeDiff, Nat.reduceEqDiff, Nat.reduceBEq, Nat.reducePow]; try rfl) (by simp only [go_sem, reduceCtorEq, Nat.reduceAdd, Nat.reduceMul, Nat.reduceSub, Nat.reduceLT, Nat.reduceLeDiff, Nat.reduceEqDiff, Nat.reduceBEq, Nat.reducePow]; try rfl) (Hp.set_eq _ _ _) hB'.cells (by exact Tryz.sz30) (by simp) ?_)
              refine WpOps.nil ⟨Marks.nil _, ?_⟩
              rw [Hp.set_set]
              simp only [Vthen, VinBlock, if_true, if_false, Nat.reduceEqDiff, reduceCtorEq]
              refine WpV.regionE (by simp only [go_sem, reduceCtorEq, Nat.reduceAdd, Nat.reduceMul, Nat.reduceSub, Nat.reduceLT, Nat.reduceLeDiff, Nat.reduceEqDiff, Nat.reduceBEq, Nat.reducePow, hnext]; rfl) (Marks.nil _) ?_
              simp only [Vthen, VinBlock, if_true, if_false, Nat.reduceEqDiff, reduceCtorEq]
              refine ⟨trivial, ⟨(k + 1, v', H'), by simp only; omega, ?_, hi'⟩, by simp only; omega, Sub.cons rfl rfl (Sub.cons rfl rfl (Sub.cons rfl rfl (Sub.cons rfl rfl (Sub.nil _)))), rfl⟩
              rw [hsu, List.length_append, List.flatMap_append, hM]
              simpa using hB'
            · rw [addP, if_pos htw] at hsu
              refine WpV.seq (WpV.regionE (by simp only [go_sem, reduceCtorEq, Nat.reduceAdd, Nat.reduceMul, Nat.reduceSub, Nat.reduceLT, Nat.reduceLeDiff, Nat.reduceEqDiff, Nat.reduceBEq, Nat.reducePow]; rfl) (Marks.nil _) ?_)
              simp only [Vthen, VinBlock, if_true, if_false, Nat.reduceEqDiff, reduceCtorEq]
              refine WpV.cond rfl (fun hb => by cases hb) (fun hb => WpV.skip ?_)
              simp only [Vthen, VinBlock, if_true, if_false, Nat.reduceEqDiff, reduceCtorEq]
              refine WpV.regionE (by simp only [go_sem, reduceCtorEq, Nat.reduceAdd, Nat.reduceMul, Nat.reduceSub, Nat.reduceLT, Nat.reduceLeDiff, Nat.reduceEqDiff, Nat.reduceBEq, Nat.reducePow, hnext]; rfl) (Marks.nil _) ?_
              simp only [Vthen, VinBlock, if_true, if_false, Nat.reduceEqDiff, reduceCtorEq]
              refine ⟨trivial, ⟨(k + 1, v, Hq), by simp only; omega, ?_, hi3⟩, by simp only; omega, Sub.cons rfl rfl (Sub.cons rfl rfl (Sub.cons rfl rfl (Sub.cons rfl rfl (Sub.nil _)))), rfl⟩
              rw [hsu, hM]
              exact hBl
      · refine WpV.seq (WpV.regionE (by simp only [go_sem, reduceCtorEq, Nat.reduceAdd, Nat.reduceMul, Nat.reduceSub, Nat.reduceLT, Nat.reduceLeDiff, Nat.reduceEqDiff, Nat.reduceBEq, Nat.reducePow, hc6, hkl, hk10]; rfl) (Marks.nil _) ?_)
        simp only [Vthen, VinBlock, if_true, if_false, Nat.reduceEqDiff, reduceCtorEq]
        refine WpV.cond rfl (fun hb => by cases hb) (fun hb => WpV.exit ?_)
        have hend : madeP x k = madeP x 10 := madeP_end (.inl (by omega))
        simp only [Vthen, VinBlock, if_true, if_false, Nat.reduceEqDiff, reduceCtorEq]
        subst hB2
        obtain ⟨hPl, ⟨hP0, hPn, rfl, rfl⟩ | ⟨hPp, idp, verp, hidp, rfl, rfl⟩⟩ := hBl
        · have hfz : ∀ fr, Frz fr ((B.set idw (some (.cells 3 verw (List.map vint (List.take 6 (madeW x)))))).set i3 (some (.cells 32 0 [.rs idw verw 1 0 6 false, .sl true true 0 [], vint (x.f0 % 12), vint (x.f1 % 6), vint (x.f2 % 15)]))) fr (B.set i3 (some (.cells 32 0 x.made.cells))) := fun fr => by
            have := Frz.cell (fr := fr) (k := i3) (id := idw) (i := 0) (Hp.set_eq (B.set idw (some (.cells 3 verw (List.map vint (List.take 6 (madeW x)))))) i3 (some (.cells 32 0 [.rs idw verw 1 0 6 false, .sl true true 0 [], vint (x.f0 % 12), vint (x.f1 % 6), vint (x.f2 % 15)]))) hw3.symm rfl (by rw [Hp.set_ne _ _ hw3]; exact Hp.set_eq _ _ _)
            rw [Hp.set_set, Hp.set_comm _ _ _ hw3.symm, Hp.set_set, Hp.set_same _ _ _ hidw] at this
            rwa [show ([AV.rs idw verw 1 0 6 false, .sl true true 0 [], vint (x.f0 % 12), vint (x.f1 % 6), vint (x.f2 % 15)].set 0 (.sl false false 6 (((List.map vint (List.take 6 (madeW x))).drop 0).take (6 * 1)))) = x.made.cells by
              unfold Cs.cells TyA.made
              rw [← hend]
              simp only [hP0, hPn, decide_true, List.set_cons_zero, hWs]] at this
          refine WpV.pre (hfz _) (Marks.nil _) ?_
          refine WpV.seq (WpV.region ?_)
          refine WpOps.take 1 (by simp only [go_sem, reduceCtorEq, Nat.reduceAdd, Nat.reduceMul, Nat.reduceSub, Nat.reduceLT, Nat.reduceLeDiff, Nat.reduceEqDiff, Nat.reduceBEq, Nat.reducePow]; rfl) ?_
          refine WpOps.step (by rfl) (by rfl) (OpW.store (ty := 32) (id := i2) (ver := 0) (off := 0) rfl (by simp only [go_sem, reduceCtorEq, Nat.reduceAdd, Nat.reduceMul, Nat.reduceSub, Nat.reduceLT, Nat.reduceLeDiff, Nat.reduceEqDiff, Nat.reduceBEq, Nat.reducePow]; try rfl) (by simp only [go_sem, reduceCtorEq, Nat.reduceAdd, Nat.reduceMul, Nat.reduceSub, Nat.reduceLT, Nat.reduceLeDiff, Nat.reduceEqDiff, Nat.reduceBEq, Nat.reducePow]; try rfl) hB2' (by simp only [go_sem, reduceCtorEq, Nat.reduceAdd, Nat.reduceMul, Nat.reduceSub, Nat.reduceLT, Nat.reduceLeDiff, Nat.reduceEqDiff, Nat.reduceBEq, Nat.reducePow]; try rfl) (by exact Tryz.sz32) (by simp) ?_)
          refine WpOps.nil ⟨Marks.nil _, ?_⟩
          simp only [Vthen, VinBlock, if_true, if_false, Nat.reduceEqDiff, reduceCtorEq]
          refine WpV.pre (Frz.ptr (t := 2) (id := i2) (ver := 0) (off := 0) rfl (Hp.set_eq _ _ _)) (Marks.nil _) ?_
          refine WpV.pre (Frz.drop _ _ i3) (Marks.nil _) ?_
          refine WpV.ret ⟨Marks.nil _, List.nodup_nil, _, by simp only [Tryz.results8]; simp only [go_sem, reduceCtorEq, Nat.reduceAdd, Nat.reduceMul, Nat.reduceSub, Nat.reduceLT, Nat.reduceLeDiff, Nat.reduceEqDiff, Nat.reduceBEq, Nat.reducePow]; rfl, ?_⟩
          refine ⟨rfl, ?_⟩
          rw [Hp.set_set, ← hB]
          funext j
          simp only [killA, Hp.set]
          by_cases e1 : j = i3
          · subst e1; simp [f3']
          · by_cases e2 : j = i2
            · subst e2; simp [e1, f2]
            · simp [e1, e2]
        · have hpw : idp ≠ idw := fun e' => by rw [e', Hp.set_eq] at hidp; cases hidp
          have hp3 : idp ≠ i3 := fun e' => by rw [← e', Hp.set_eq] at hi3; cases hi3
          have hBp : B idp = none := by rwa [Hp.set_ne _ _ hpw] at hidp
          have hfz : ∀ fr, Frz fr (((B.set idw (some (.cells 3 verw (List.map vint (List.take 6 (madeW x)))))).set idp (some (.cells 74 verp (List.flatMap pairC (madeP x k))))).set i3 (some (.cells 32 0 [.rs idw verw 1 0 6 false, .rs idp verp 3 0 (madeP x k).length false, vint (x.f0 % 12), vint (x.f1 % 6), vint (x.f2 % 15)]))) fr (B.set i3 (some (.cells 32 0 x.made.cells))) := fun fr => by
            have h1 := Frz.cell (fr := fr) (k := i3) (id := idw) (i := 0) (Hp.set_eq ((B.set idw (some (.cells 3 verw (List.map vint (List.take 6 (madeW x)))))).set idp (some (.cells 74 verp (List.flatMap pairC (madeP x k))))) i3 (some (.cells 32 0 [.rs idw verw 1 0 6 false, .rs idp verp 3 0 (madeP x k).length false, vint (x.f0 % 12), vint (x.f1 % 6), vint (x.f2 % 15)]))) hw3.symm rfl (by rw [Hp.set_ne _ _ hw3, Hp.set_ne _ _ hpw.symm]; exact Hp.set_eq _ _ _)
            rw [Hp.set_set, Hp.set_comm _ _ _ hw3.symm, Hp.set_comm _ _ _ hpw, Hp.set_set, Hp.set_same _ _ _ hidw] at h1
            rw [show ([AV.rs idw verw 1 0 6 false, .rs idp verp 3 0 (madeP x k).length false, vint (x.f0 % 12), vint (x.f1 % 6), vint (x.f2 % 15)].set 0 (.sl false false 6 (((List.map vint (List.take 6 (madeW x))).drop 0).take (6 * 1)))) = [vints false false (madeW x), .rs idp verp 3 0 (madeP x k).length false, vint (x.f0 % 12), vint (x.f1 % 6), vint (x.f2 % 15)] by simp only [List.set_cons_zero, hWs]] at h1
            have h2 := Frz.cell (fr := fr) (k := i3) (id := idp) (i := 1) (Hp.set_eq (B.set idp (some (.cells 74 verp (List.flatMap pairC (madeP x k))))) i3 (some (.cells 32 0 [vints false false (madeW x), .rs idp verp 3 0 (madeP x k).length false, vint (x.f0 % 12), vint (x.f1 % 6), vint (x.f2 % 15)]))) hp3.symm rfl (by rw [Hp.set_ne _ _ hp3]; exact Hp.set_eq _ _ _)
            rw [Hp.set_set, Hp.set_comm _ _ _ hp3.symm, Hp.set_set, Hp.set_same _ _ _ hBp] at h2
            rw [show ([vints false false (madeW x), .rs idp verp 3 0 (madeP x k).length false, vint (x.f0 % 12), vint (x.f1 % 6), vint (x.f2 % 15)].set 1 (.sl false false (madeP x k).length (((List.flatMap pairC (madeP x k)).drop 0).take ((madeP x k).length * 3)))) = x.made.cells by
              unfold Cs.cells TyA.made
              rw [← hend, List.drop_zero, List.take_of_length_le (by rw [pairs_len]; omega), decide_eq_false (by omega)]
              rfl] at h2
            exact h1.trans h2
          refine WpV.pre (hfz _) (Marks.nil _) ?_
          refine WpV.seq (WpV.region ?_)
          refine WpOps.take 1 (by simp only [go_sem, reduceCtorEq, Nat.reduceAdd, Nat.reduceMul, Nat.reduceSub, Nat.reduceLT, Nat.reduceLeDiff, Nat.reduceEqDiff, Nat.reduceBEq, Nat.reducePow]; rfl) ?_
          refine WpOps.step (by rfl) (by rfl) (OpW.store (ty := 32) (id := i2) (ver := 0) (off := 0) rfl (by simp only [go_sem, reduceCtorEq, Nat.reduceAdd, Nat.reduceMul, Nat.reduceSub, Nat.reduceLT, Nat.reduceLeDiff, Nat.reduceEqDiff, Nat.reduceBEq, Nat.reducePow]; try rfl) (by simp only [go_sem, reduceCtorEq, Nat.reduceAdd, Nat.reduceMul, Nat.reduceSub, Nat.reduceLT, Nat.reduceLeDiff, Nat.reduceEqDiff, Nat.reduceBEq, Nat.reducePow]; try rfl) hB2' (by simp only [go_sem, reduceCtorEq, Nat.reduceAdd, Nat.reduceMul, Nat.reduceSub, Nat.reduceLT, Nat.reduceLeDiff, Nat.reduceEqDiff, Nat.reduceBEq, Nat.reducePow]; try rfl) (by exact Tryz.sz32) (by simp) ?_)
          refine WpOps.nil ⟨Marks.nil _, ?_⟩
          simp only [Vthen, VinBlock, if_true, if_false, Nat.reduceEqDiff, reduceCtorEq]
          refine WpV.pre (Frz.ptr (t := 2) (id := i2) (ver := 0) (off := 0) rfl (Hp.set_eq _ _ _)) (Marks.nil _) ?_
          refine WpV.pre (Frz.drop _ _ i3) (Marks.nil _) ?_
          refine WpV.ret ⟨Marks.nil _, List.nodup_nil, _, by simp only [Tryz.results8]; simp only [go_sem, reduceCtorEq, Nat.reduceAdd, Nat.reduceMul, Nat.reduceSub, Nat.reduceLT, Nat.reduceLeDiff, Nat.reduceEqDiff, Nat.reduceBEq, Nat.reducePow]; rfl, ?_⟩
          refine ⟨rfl, ?_⟩
          rw [Hp.set_set, ← hB]
          funext j
          simp only [killA, Hp.set]
          by_cases e1 : j = i3
          · subst e1; simp [f3']
          · by_cases e2 : j = i2
            · subst e2; simp [e1, f2]
            · simp [e1, e2]
    · refine WpV.seq (WpV.regionE (by simp only [go_sem, reduceCtorEq, Nat.reduceAdd, Nat.reduceMul, Nat.reduceSub, Nat.reduceLT, Nat.reduceLeDiff, Nat.reduceEqDiff, Nat.reduceBEq, Nat.reducePow, hc6, hkl]; rfl) (Marks.nil _) ?_)
      simp only [Vthen, VinBlock, if_true, if_false, Nat.reduceEqDiff, reduceCtorEq]
      refine WpV.cond rfl (fun hb => by cases hb) (fun hb => WpV.exit ?_)
      have hend : madeP x k = madeP x 10 := madeP_end (.inr (by omega))
      simp only [Vthen, VinBlock, if_true, if_false, Nat.reduceEqDiff, reduceCtorEq]
      subst hB2
      obtain ⟨hPl, ⟨hP0, hPn, rfl, rfl⟩ | ⟨hPp, idp, verp, hidp, rfl, rfl⟩⟩ := hBl
      · have hfz : ∀ fr, Frz fr ((B.set idw (some (.cells 3 verw (List.map vint (List.take 6 (madeW x)))))).set i3 (some (.cells 32 0 [.rs idw verw 1 0 6 false, .sl true true 0 [], vint (x.f0 % 12), vint (x.f1 % 6), vint (x.f2 % 15)]))) fr (B.set i3 (some (.cells 32 0 x.made.cells))) := fun fr => by
          have := Frz.cell (fr := fr) (k := i3) (id := idw) (i := 0) (Hp.set_eq (B.set idw (some (.cells 3 verw (List.map vint (List.take 6 (madeW x)))))) i3 (some (.cells 32 0 [.rs idw verw 1 0 6 false, .sl true true 0 [], vint (x.f0 % 12), vint (x.f1 % 6), vint (x.f2 % 15)]))) hw3.symm rfl (by rw [Hp.set_ne _ _ hw3]; exact Hp.set_eq _ _ _)
          rw [Hp.set_set, Hp.set_comm _ _ _ hw3.symm, Hp.set_set, Hp.set_same _ _ _ hidw] at this
          rwa [show ([AV.rs idw verw 1 0 6 false, .sl true true 0 [], vint (x.f0 % 12), vint (x.f1 % 6), vint (x.f2 % 15)].set 0 (.sl false false 6 (((List.map vint (List.take 6 (madeW x))).drop 0).take (6 * 1)))) = x.made.cells by
            unfold Cs.cells TyA.made
            rw [← hend]
            simp only [hP0, hPn, decide_true, List.set_cons_zero, hWs]] at this
        refine WpV.pre (hfz _) (Marks.nil _) ?_
        refine WpV.seq (WpV.region ?_)
        refine WpOps.take 1 (by simp only [go_sem, reduceCtorEq, Nat.reduceAdd, Nat.reduceMul, Nat.reduceSub, Nat.reduceLT, Nat.reduceLeDiff, Nat.reduceEqDiff, Nat.reduceBEq, Nat.reducePow]; rfl) ?_
        refine WpOps.step (by rfl) (by rfl) (OpW.store (ty := 32) (id := i2) (ver := 0) (off := 0) rfl (by simp only [go_sem, reduceCtorEq, Nat.reduceAdd, Nat.reduceMul, Nat.reduceSub, Nat.reduceLT, Nat.reduceLeDiff, Nat.reduceEqDiff, Nat.reduceBEq, Nat.reducePow]; try rfl) (by simp only [go_sem, reduceCtorEq, Nat.reduceAdd, Nat.reduceMul, Nat.reduceSub, Nat.reduceLT, Nat.reduceLeDiff, Nat.reduceEqDiff, Nat.reduceBEq, Nat.reducePow]; try rfl) hB2' (by simp only [go_sem, reduceCtorEq, Nat.reduceAdd, Nat.reduceMul, Nat.reduceSub, Nat.reduceLT, Nat.reduceLeDiff, Nat.reduceEqDiff, Nat.reduceBEq, Nat.reducePow]; try rfl) (by exact Tryz.sz32) (by simp) ?_)
        refine WpOps.nil ⟨Marks.nil _, ?_⟩
        simp only [Vthen, VinBlock, if_true, if_false, Nat.reduceEqDiff, reduceCtorEq]
        refine WpV.pre (Frz.ptr (t := 2) (id := i2) (ver := 0) (off := 0) rfl (Hp.set_eq _ _ _)) (Marks.nil _) ?_
        refine WpV.pre (Frz.drop _ _ i3) (Marks.nil _) ?_
        refine WpV.ret ⟨Marks.nil _, List.nodup_nil, _, by simp only [Tryz.results8]; simp only [go_sem, reduceCtorEq, Nat.reduceAdd, Nat.reduceMul, Nat.reduceSub, Nat.reduceLT, Nat.reduceLeDiff, Nat.reduceEqDiff, Nat.reduceBEq, Nat.reducePow]; rfl, ?_⟩
        refine ⟨rfl, ?_⟩
        rw [Hp.set_set, ← hB]
        funext j
        simp only [killA, Hp.set]
        by_cases e1 : j = i3
        · subst e1; simp [f3']
        · by_cases e2 : j = i2
          · subst e2; simp [e1, f2]
          · simp [e1, e2]
      · have hpw : idp ≠ idw := fun e' => by rw [e', Hp.set_eq] at hidp; cases hidp
        have hp3 : idp ≠ i3 := fun e' => by rw [← e', Hp.set_eq] at hi3; cases hi3
        have hBp : B idp = none := by rwa [Hp.set_ne _ _ hpw] at hidp
        have hfz : ∀ fr, Frz fr (((B.set idw (some (.cells 3 verw (List.map vint (List.take 6 (madeW x)))))).set idp (some (.cells 74 verp (List.flatMap pairC (madeP x k))))).set i3 (some (.cells 32 0 [.rs idw verw 1 0 6 false, .rs idp verp 3 0 (madeP x k).length false, vint (x.f0 % 12), vint (x.f1 % 6), vint (x.f2 % 15)]))) fr (B.set i3 (some (.cells 32 0 x.made.cells))) := fun fr => by
          have h1 := Frz.cell (fr := fr) (k := i3) (id := idw) (i := 0) (Hp.set_eq ((B.set idw (some (.cells 3 verw (List.map vint (List.take 6 (madeW x)))))).set idp (some (.cells 74 verp (List.flatMap pairC (madeP x k))))) i3 (some (.cells 32 0 [.rs idw verw 1 0 6 false, .rs idp verp 3 0 (madeP x k).length false, vint (x.f0 % 12), vint (x.f1 % 6), vint (x.f2 % 15)]))) hw3.symm rfl (by rw [Hp.set_ne _ _ hw3, Hp.set_ne _ _ hpw.symm]; exact Hp.set_eq _ _ _)
          rw [Hp.set_set, Hp.set_comm _ _ _ hw3.symm, Hp.set_comm _ _ _ hpw, Hp.set_set, Hp.set_same _ _ _ hidw] at h1
          rw [show ([AV.rs idw verw 1 0 6 false, .rs idp verp 3 0 (madeP x k).length false, vint (x.f0 % 12), vint (x.f1 % 6), vint (x.f2 % 15)].set 0 (.sl false false 6 (((List.map vint (List.take 6 (madeW x))).drop 0).take (6 * 1)))) = [vints false false (madeW x), .rs idp verp 3 0 (madeP x k).length false, vint (x.f0 % 12), vint (x.f1 % 6), vint (x.f2 % 15)] by simp only [List.set_cons_zero, hWs]] at h1
          have h2 := Frz.cell (fr := fr) (k := i3) (id := idp) (i := 1) (Hp.set_eq (B.set idp (some (.cells 74 verp (List.flatMap pairC (madeP x k))))) i3 (some (.cells 32 0 [vints false false (madeW x), .rs idp verp 3 0 (madeP x k).length false, vint (x.f0 % 12), vint (x.f1 % 6), vint (x.f2 % 15)]))) hp3.symm rfl (by rw [Hp.set_ne _ _ hp3]; exact Hp.set_eq _ _ _)
          rw [Hp.set_set, Hp.set_comm _ _ _ hp3.symm, Hp.set_set, Hp.set_same _ _ _ hBp] at h2
          rw [show ([vints false false (madeW x), .rs idp verp 3 0 (madeP x k).length false, vint (x.f0 % 12), vint (x.f1 % 6), vint (x.f2 % 15)].set 1 (.sl false false (madeP x k).length (((List.flatMap pairC (madeP x k)).drop 0).take ((madeP x k).length * 3)))) = x.made.cells by
            unfold Cs.cells TyA.made
            rw [← hend, List.drop_zero, List.take_of_length_le (by rw [pairs_len]; omega), decide_eq_false (by omega)]
            rfl] at h2
          exact h1.trans h2
        refine WpV.pre (hfz _) (Marks.nil _) ?_
        refine WpV.seq (WpV.region ?_)
        refine WpOps.take 1 (by simp only [go_sem, reduceCtorEq, Nat.reduceAdd, Nat.reduceMul, Nat.reduceSub, Nat.reduceLT, Nat.reduceLeDiff, Nat.reduceEqDiff, Nat.reduceBEq, Nat.reducePow]; rfl) ?_
        refine WpOps.step (by rfl) (by rfl) (OpW.store (ty := 32) (id := i2) (ver := 0) (off := 0) rfl (by simp only [go_sem, reduceCtorEq, Nat.reduceAdd, Nat.reduceMul, Nat.reduceSub, Nat.reduceLT, Nat.reduceLeDiff, Nat.reduceEqDiff, Nat.reduceBEq, Nat.reducePow]; try rfl) (by simp only [go_sem, reduceCtorEq, Nat.reduceAdd, Nat.reduceMul, Nat.reduceSub, Nat.reduceLT, Nat.reduceLeDiff, Nat.reduceEqDiff, Nat.reduceBEq, Nat.reducePow]; try rfl) hB2' (by simp only [go_sem, reduceCtorEq, Nat.reduceAdd, Nat.reduceMul, Nat.reduceSub, Nat.reduceLT, Nat.reduceLeDiff, Nat.reduceEqDiff, Nat.reduceBEq, Nat.reducePow]; try rfl) (by exact Tryz.sz32) (by simp) ?_)
        refine WpOps.nil ⟨Marks.nil _, ?_⟩
        simp only [Vthen, VinBlock, if_true, if_false, Nat.reduceEqDiff, reduceCtorEq]
        refine WpV.pre (Frz.ptr (t := 2) (id := i2) (ver := 0) (off := 0) rfl (Hp.set_eq _ _ _)) (Marks.nil _) ?_
        refine WpV.pre (Frz.drop _ _ i3) (Marks.nil _) ?_
        refine WpV.ret ⟨Marks.nil _, List.nodup_nil, _, by simp only [Tryz.results8]; simp only [go_sem, reduceCtorEq, Nat.reduceAdd, Nat.reduceMul, Nat.reduceSub, Nat.reduceLT, Nat.reduceLeDiff, Nat.reduceEqDiff, Nat.reduceBEq, Nat.reducePow]; rfl, ?_⟩
        refine ⟨rfl, ?_⟩
        rw [Hp.set_set, ← hB]
        funext j
        simp only [killA, Hp.set]
        by_cases e1 : j = i3
        · subst e1; simp [f3']
        · by_cases e2 : j = i2
          · subst e2; simp [e1, f2]
          · simp [e1, e2]
end Go.Proofs.YtaekibilldjnmaaGreat
namespace Go.Proofs.YtaekibilldjnmaaGreat
open Go.Proofs

abbrev vl (xs : List Int) : AV := vints false true xs
abbrev vr (xs : List Int) : AV := vints false false xs
def row (xs : List Int) : Row := (false, true, xs)

theorem k12 (H : Hp) : CallV Tryz.prog 10 [.agg boxC.cells, vl [0, 1, 2, 3]] H (fun r H' => r = .tup [vint 45, vint 0] ∧ H' = H) :=
  (Need_any H boxC boxC_valid false true [0, 1, 2, 3] (by decide)).mono (by rintro r H' ⟨rfl, h⟩; exact ⟨by kernel_rfl, h⟩)
theorem k14 (H : Hp) : CallV Tryz.prog 19 [.agg boxC.cells, vl [0, 1, 2, 3], vl [2, 5, 6]] H (fun r H' => r = .tup [vr [5, 5, 6], vint 1, vint 0] ∧ H' = H) :=
  (Looks_any H boxC boxC_valid false true false true [0, 1, 2, 3] [2, 5, 6] (by decide) (by decide)).mono (by rintro r H' ⟨rfl, h⟩; exact ⟨by kernel_rfl, h⟩)
theorem k15a (H : Hp) : CallV Tryz.prog 14 [.agg boxC.cells, vl [0, 1, 2, 3], vint 54] H (fun r H' => r = .tup [vr [2, 5, 6], vint 1, vint 0] ∧ H' = H) :=
  (Lay_any H boxC boxC_valid false true [0, 1, 2, 3] 54 (by decide) (by decide)).mono (by rintro r H' ⟨rfl, h⟩; exact ⟨by kernel_rfl, h⟩)
theorem k15b (H : Hp) : CallV Tryz.prog 14 [.agg boxC.cells, vl [0, 1, 2, 3], vint 44] H (fun r H' => r = .tup [.sl true true 0 [], vint 0, vint 8] ∧ H' = H) :=
  (Lay_any H boxC boxC_valid false true [0, 1, 2, 3] 44 (by decide) (by decide)).mono (by rintro r H' ⟨rfl, h⟩; exact ⟨by kernel_rfl, h⟩)
theorem k16 (H : Hp) : CallV Tryz.prog 21 [.agg boxC.cells, vl [0, 1, 2, 3], vint 36] H (fun r H' => r = .tup [vr [0], vint 0] ∧ H' = H) :=
  (Left_any H boxC boxC_valid false true [0, 1, 2, 3] 36 (by decide) (by decide)).mono (by rintro r H' ⟨rfl, h⟩; exact ⟨by kernel_rfl, h⟩)
theorem k17 (H : Hp) : CallV Tryz.prog 27 [.agg boxC.cells, vl [0, 1, 2, 3], vint 2, vint 60] H (fun r H' => r = .tup [vint 18, vint 0] ∧ H' = H) :=
  (Widest_any H boxC boxC_valid true [0, 1, 2, 3] 2 60 (by decide) (by decide) (by decide)).mono (by rintro r H' ⟨rfl, h⟩; exact ⟨by kernel_rfl, h⟩)
theorem k18 (H : Hp) : CallV Tryz.prog 29 [.agg boxC.cells, vrows false true [row [0, 1], row [2, 3], row [3, 2]], vint 50] H (fun r H' => r = .tup [vr [0, 1], vint 20, vint 0] ∧ H' = H) :=
  (Lines_any H boxC boxC_valid false true [row [0, 1], row [2, 3], row [3, 2]] 50 (by decide) (by decide) (by decide) (by decide)).mono (by rintro r H' ⟨rfl, h⟩; exact ⟨by kernel_rfl, h⟩)
theorem k19 (H : Hp) : CallV Tryz.prog 32 [.agg boxC.cells, vrows false true [row [0, 1], row [2, 3]], vl [40, 25, 30, 50]] H (fun r H' => r = .tup [vr [2, 1], vint 0] ∧ H' = H) :=
  (Pick_any H boxC boxC_valid false true false true [row [0, 1], row [2, 3]] [40, 25, 30, 50] (by decide) (by decide) (by decide) (by decide)).mono (by rintro r H' ⟨rfl, h⟩; exact ⟨by kernel_rfl, h⟩)
theorem k20 (H : Hp) : CallV Tryz.prog 33 [.agg boxC.cells, vl [0, 1, 2, 3], vl [2, 5, 9], vint 1] H (fun r H' => r = .tup [vr [2], vint 0] ∧ H' = H) :=
  (Wrong_any H boxC boxC_valid false true false true [0, 1, 2, 3] [2, 5, 9] 1 (by decide) (by decide) (by decide)).mono (by rintro r H' ⟨rfl, h⟩; exact ⟨by kernel_rfl, h⟩)
theorem k9 (H : Hp) : CallV Tryz.prog 41 [.agg boxC.cells, vl [0, -1, 3], vl [2, 5], .agg [vint 40, vint 45]] H (fun r H' => r = .tup [.sl false false 1 [vr [0, 1, 3]], vint 0] ∧ H' = H) :=
  (Can_any H boxC boxC_valid false true true [0, -1, 3] [2, 5] 40 45 (by decide) ⟨by decide, by decide⟩ ⟨by decide, by decide, by decide, by decide, by decide, by decide⟩ (by unfold Cs.Blotted; decide) 0 (by decide) (by decide)).mono (by rintro r H' ⟨rfl, h⟩; exact ⟨by kernel_rfl, h⟩)
theorem k21 (H : Hp) (a : List Int) (h : a.length < 1000000) : CallV Tryz.prog 43 [vr a, vl a] H (fun r H' => r = .bool true ∧ H' = H) :=
  (same_any H false false false true a a h).mono (by rintro r H' ⟨rfl, h⟩; exact ⟨by simp, h⟩)
theorem k22 (H : Hp) : CallV Tryz.prog 44 [.sl false false 1 [vr [0, 1, 3]], .sl false true 1 [vl [0, 1, 3]]] H (fun r H' => r = .bool true ∧ H' = H) :=
  (lists_any H false false false true [(false, false, [0, 1, 3])] [row [0, 1, 3]] ⟨by decide, by decide⟩ (by decide)).mono (by rintro r H' ⟨rfl, h⟩; exact ⟨by kernel_rfl, h⟩)

set_option maxRecDepth 100000 in
set_option maxHeartbeats 4000000 in
theorem known_any (H : Hp) : CallV Tryz.prog 17 [] H (fun r H' => r = .bool true ∧ H' = H) := by
  have n0 : ((0 : Int) != 0) = false := rfl
  have n8 : ((8 : Int) != 8) = false := rfl
  have hb := boxC_any H
  refine CallV.body Tryz.func17 rfl Tryz.ntmps17 (by rfl) ?_
  refine WpV.seq (WpV.regionE (by simp only [go_sem, reduceCtorEq, Nat.reduceAdd, Nat.reduceMul, Nat.reduceSub, Nat.reduceLT, Nat.reduceLeDiff, Nat.reduceEqDiff, Nat.reduceBEq, Nat.reducePow]; rfl) (Marks.nil _) ?_)
  simp only [Vthen, VinBlock, if_true, if_false, Nat.reduceEqDiff, reduceCtorEq]
  refine WpV.seq (WpV.regionE (by simp only [go_sem, reduceCtorEq, Nat.reduceAdd, Nat.reduceMul, Nat.reduceSub, Nat.reduceLT, Nat.reduceLeDiff, Nat.reduceEqDiff, Nat.reduceBEq, Nat.reducePow]; rfl) (Marks.nil _) ?_)
  simp only [Vthen, VinBlock, if_true, if_false, Nat.reduceEqDiff, reduceCtorEq]
  refine WpV.seq (WpV.region ?_)
  refine WpOps.step (by rfl) (by rfl) (OpW.callY rfl (by rfl) (by rfl) (by rfl) (enters_of Tryz.func40 (by kernel_rfl) rfl) ((hb).mono ?_))
  rintro _ _ ⟨rfl, hH⟩
  replace hH := hH.symm
  subst hH
  refine WpOps.take 1 (by simp only [go_sem, reduceCtorEq, Nat.reduceAdd, Nat.reduceMul, Nat.reduceSub, Nat.reduceLT, Nat.reduceLeDiff, Nat.reduceEqDiff, Nat.reduceBEq, Nat.reducePow]; rfl) ?_
  refine WpOps.step (by rfl) (by rfl) (OpW.callY rfl (by rfl) (by rfl) (by rfl) (enters_of Tryz.func10 (by kernel_rfl) rfl) ((k12 H).mono ?_))
  rintro _ _ ⟨rfl, hH⟩
  replace hH := hH.symm
  subst hH
  refine WpOps.take 5 (by simp only [go_sem, reduceCtorEq, Nat.reduceAdd, Nat.reduceMul, Nat.reduceSub, Nat.reduceLT, Nat.reduceLeDiff, Nat.reduceEqDiff, Nat.reduceBEq, Nat.reducePow]; rfl) (WpOps.nil ⟨Marks.nil _, ?_⟩)
  simp only [Vthen, VinBlock, if_true, if_false, Nat.reduceEqDiff, reduceCtorEq]
  refine WpV.seq (WpV.region ?_)
  refine WpOps.step (by rfl) (by rfl) (OpW.callY rfl (by rfl) (by rfl) (by rfl) (enters_of Tryz.func40 (by kernel_rfl) rfl) ((hb).mono ?_))
  rintro _ _ ⟨rfl, hH⟩
  replace hH := hH.symm
  subst hH
  refine WpOps.take 2 (by simp only [go_sem, reduceCtorEq, Nat.reduceAdd, Nat.reduceMul, Nat.reduceSub, Nat.reduceLT, Nat.reduceLeDiff, Nat.reduceEqDiff, Nat.reduceBEq, Nat.reducePow]; rfl) ?_
  refine WpOps.step (by rfl) (by rfl) (OpW.callY rfl (by rfl) (by rfl) (by rfl) (enters_of Tryz.func19 (by kernel_rfl) rfl) ((k14 H).mono ?_))
  rintro _ _ ⟨rfl, hH⟩
  replace hH := hH.symm
  subst hH
  refine WpOps.take 7 (by simp only [go_sem, reduceCtorEq, Nat.reduceAdd, Nat.reduceMul, Nat.reduceSub, Nat.reduceLT, Nat.reduceLeDiff, Nat.reduceEqDiff, Nat.reduceBEq, Nat.reducePow]; rfl) (WpOps.nil ⟨Marks.nil _, ?_⟩)
  simp only [Vthen, VinBlock, if_true, if_false, Nat.reduceEqDiff, reduceCtorEq]
  refine WpV.seq (WpV.region ?_)
  refine WpOps.step (by rfl) (by rfl) (OpW.callY rfl (by rfl) (by rfl) (by rfl) (enters_of Tryz.func40 (by kernel_rfl) rfl) ((hb).mono ?_))
  rintro _ _ ⟨rfl, hH⟩
  replace hH := hH.symm
  subst hH
  refine WpOps.take 1 (by simp only [go_sem, reduceCtorEq, Nat.reduceAdd, Nat.reduceMul, Nat.reduceSub, Nat.reduceLT, Nat.reduceLeDiff, Nat.reduceEqDiff, Nat.reduceBEq, Nat.reducePow]; rfl) ?_
  refine WpOps.step (by rfl) (by rfl) (OpW.callY rfl (by rfl) (by rfl) (by rfl) (enters_of Tryz.func14 (by kernel_rfl) rfl) ((k15a H).mono ?_))
  rintro _ _ ⟨rfl, hH⟩
  replace hH := hH.symm
  subst hH
  refine WpOps.take 7 (by simp only [go_sem, reduceCtorEq, Nat.reduceAdd, Nat.reduceMul, Nat.reduceSub, Nat.reduceLT, Nat.reduceLeDiff, Nat.reduceEqDiff, Nat.reduceBEq, Nat.reducePow]; rfl) (WpOps.nil ⟨Marks.nil _, ?_⟩)
  simp only [Vthen, VinBlock, if_true, if_false, Nat.reduceEqDiff, reduceCtorEq]
  refine WpV.seq (WpV.region ?_)
  refine WpOps.step (by rfl) (by rfl) (OpW.callY rfl (by rfl) (by rfl) (by rfl) (enters_of Tryz.func40 (by kernel_rfl) rfl) ((hb).mono ?_))
  rintro _ _ ⟨rfl, hH⟩
  replace hH := hH.symm
  subst hH
  refine WpOps.take 1 (by simp only [go_sem, reduceCtorEq, Nat.reduceAdd, Nat.reduceMul, Nat.reduceSub, Nat.reduceLT, Nat.reduceLeDiff, Nat.reduceEqDiff, Nat.reduceBEq, Nat.reducePow]; rfl) ?_
  refine WpOps.step (by rfl) (by rfl) (OpW.callY rfl (by rfl) (by rfl) (by rfl) (enters_of Tryz.func14 (by kernel_rfl) rfl) ((k15b H).mono ?_))
  rintro _ _ ⟨rfl, hH⟩
  replace hH := hH.symm
  subst hH
  refine WpOps.take 7 (by simp only [go_sem, reduceCtorEq, Nat.reduceAdd, Nat.reduceMul, Nat.reduceSub, Nat.reduceLT, Nat.reduceLeDiff, Nat.reduceEqDiff, Nat.reduceBEq, Nat.reducePow]; rfl) (WpOps.nil ⟨Marks.nil _, ?_⟩)
  simp only [Vthen, VinBlock, if_true, if_false, Nat.reduceEqDiff, reduceCtorEq]
  refine WpV.seq (WpV.region ?_)
  refine WpOps.step (by rfl) (by rfl) (OpW.callY rfl (by rfl) (by rfl) (by rfl) (enters_of Tryz.func40 (by kernel_rfl) rfl) ((hb).mono ?_))
  rintro _ _ ⟨rfl, hH⟩
  replace hH := hH.symm
  subst hH
  refine WpOps.take 1 (by simp only [go_sem, reduceCtorEq, Nat.reduceAdd, Nat.reduceMul, Nat.reduceSub, Nat.reduceLT, Nat.reduceLeDiff, Nat.reduceEqDiff, Nat.reduceBEq, Nat.reducePow]; rfl) ?_
  refine WpOps.step (by rfl) (by rfl) (OpW.callY rfl (by rfl) (by rfl) (by rfl) (enters_of Tryz.func21 (by kernel_rfl) rfl) ((k16 H).mono ?_))
  rintro _ _ ⟨rfl, hH⟩
  replace hH := hH.symm
  subst hH
  refine WpOps.take 5 (by simp only [go_sem, reduceCtorEq, Nat.reduceAdd, Nat.reduceMul, Nat.reduceSub, Nat.reduceLT, Nat.reduceLeDiff, Nat.reduceEqDiff, Nat.reduceBEq, Nat.reducePow]; rfl) (WpOps.nil ⟨Marks.nil _, ?_⟩)
  simp only [Vthen, VinBlock, if_true, if_false, Nat.reduceEqDiff, reduceCtorEq]
  refine WpV.seq (WpV.region ?_)
  refine WpOps.step (by rfl) (by rfl) (OpW.callY rfl (by rfl) (by rfl) (by rfl) (enters_of Tryz.func40 (by kernel_rfl) rfl) ((hb).mono ?_))
  rintro _ _ ⟨rfl, hH⟩
  replace hH := hH.symm
  subst hH
  refine WpOps.take 1 (by simp only [go_sem, reduceCtorEq, Nat.reduceAdd, Nat.reduceMul, Nat.reduceSub, Nat.reduceLT, Nat.reduceLeDiff, Nat.reduceEqDiff, Nat.reduceBEq, Nat.reducePow]; rfl) ?_
  refine WpOps.step (by rfl) (by rfl) (OpW.callY rfl (by rfl) (by rfl) (by rfl) (enters_of Tryz.func27 (by kernel_rfl) rfl) ((k17 H).mono ?_))
  rintro _ _ ⟨rfl, hH⟩
  replace hH := hH.symm
  subst hH
  refine WpOps.take 5 (by simp only [go_sem, reduceCtorEq, Nat.reduceAdd, Nat.reduceMul, Nat.reduceSub, Nat.reduceLT, Nat.reduceLeDiff, Nat.reduceEqDiff, Nat.reduceBEq, Nat.reducePow]; rfl) (WpOps.nil ⟨Marks.nil _, ?_⟩)
  simp only [Vthen, VinBlock, if_true, if_false, Nat.reduceEqDiff, reduceCtorEq]
  refine WpV.seq (WpV.region ?_)
  refine WpOps.step (by rfl) (by rfl) (OpW.callY rfl (by rfl) (by rfl) (by rfl) (enters_of Tryz.func40 (by kernel_rfl) rfl) ((hb).mono ?_))
  rintro _ _ ⟨rfl, hH⟩
  replace hH := hH.symm
  subst hH
  refine WpOps.take 4 (by simp only [go_sem, reduceCtorEq, Nat.reduceAdd, Nat.reduceMul, Nat.reduceSub, Nat.reduceLT, Nat.reduceLeDiff, Nat.reduceEqDiff, Nat.reduceBEq, Nat.reducePow]; rfl) ?_
  refine WpOps.step (by rfl) (by rfl) (OpW.callY rfl (by rfl) (by rfl) (by rfl) (enters_of Tryz.func29 (by kernel_rfl) rfl) ((k18 H).mono ?_))
  rintro _ _ ⟨rfl, hH⟩
  replace hH := hH.symm
  subst hH
  refine WpOps.take 7 (by simp only [go_sem, reduceCtorEq, Nat.reduceAdd, Nat.reduceMul, Nat.reduceSub, Nat.reduceLT, Nat.reduceLeDiff, Nat.reduceEqDiff, Nat.reduceBEq, Nat.reducePow]; rfl) (WpOps.nil ⟨Marks.nil _, ?_⟩)
  simp only [Vthen, VinBlock, if_true, if_false, Nat.reduceEqDiff, reduceCtorEq]
  refine WpV.seq (WpV.region ?_)
  refine WpOps.step (by rfl) (by rfl) (OpW.callY rfl (by rfl) (by rfl) (by rfl) (enters_of Tryz.func40 (by kernel_rfl) rfl) ((hb).mono ?_))
  rintro _ _ ⟨rfl, hH⟩
  replace hH := hH.symm
  subst hH
  refine WpOps.take 4 (by simp only [go_sem, reduceCtorEq, Nat.reduceAdd, Nat.reduceMul, Nat.reduceSub, Nat.reduceLT, Nat.reduceLeDiff, Nat.reduceEqDiff, Nat.reduceBEq, Nat.reducePow]; rfl) ?_
  refine WpOps.step (by rfl) (by rfl) (OpW.callY rfl (by rfl) (by rfl) (by rfl) (enters_of Tryz.func32 (by kernel_rfl) rfl) ((k19 H).mono ?_))
  rintro _ _ ⟨rfl, hH⟩
  replace hH := hH.symm
  subst hH
  refine WpOps.take 5 (by simp only [go_sem, reduceCtorEq, Nat.reduceAdd, Nat.reduceMul, Nat.reduceSub, Nat.reduceLT, Nat.reduceLeDiff, Nat.reduceEqDiff, Nat.reduceBEq, Nat.reducePow]; rfl) (WpOps.nil ⟨Marks.nil _, ?_⟩)
  simp only [Vthen, VinBlock, if_true, if_false, Nat.reduceEqDiff, reduceCtorEq]
  refine WpV.seq (WpV.region ?_)
  refine WpOps.step (by rfl) (by rfl) (OpW.callY rfl (by rfl) (by rfl) (by rfl) (enters_of Tryz.func40 (by kernel_rfl) rfl) ((hb).mono ?_))
  rintro _ _ ⟨rfl, hH⟩
  replace hH := hH.symm
  subst hH
  refine WpOps.take 2 (by simp only [go_sem, reduceCtorEq, Nat.reduceAdd, Nat.reduceMul, Nat.reduceSub, Nat.reduceLT, Nat.reduceLeDiff, Nat.reduceEqDiff, Nat.reduceBEq, Nat.reducePow]; rfl) ?_
  refine WpOps.step (by rfl) (by rfl) (OpW.callY rfl (by rfl) (by rfl) (by rfl) (enters_of Tryz.func33 (by kernel_rfl) rfl) ((k20 H).mono ?_))
  rintro _ _ ⟨rfl, hH⟩
  replace hH := hH.symm
  subst hH
  refine WpOps.take 5 (by simp only [go_sem, reduceCtorEq, Nat.reduceAdd, Nat.reduceMul, Nat.reduceSub, Nat.reduceLT, Nat.reduceLeDiff, Nat.reduceEqDiff, Nat.reduceBEq, Nat.reducePow]; rfl) (WpOps.nil ⟨Marks.nil _, ?_⟩)
  simp only [Vthen, VinBlock, if_true, if_false, Nat.reduceEqDiff, reduceCtorEq]
  refine WpV.seq (WpV.region ?_)
  refine WpOps.step (by rfl) (by rfl) (OpW.callY rfl (by rfl) (by rfl) (by rfl) (enters_of Tryz.func40 (by kernel_rfl) rfl) ((hb).mono ?_))
  rintro _ _ ⟨rfl, hH⟩
  replace hH := hH.symm
  subst hH
  refine WpOps.take 2 (by simp only [go_sem, reduceCtorEq, Nat.reduceAdd, Nat.reduceMul, Nat.reduceSub, Nat.reduceLT, Nat.reduceLeDiff, Nat.reduceEqDiff, Nat.reduceBEq, Nat.reducePow]; rfl) ?_
  refine WpOps.step (by rfl) (by rfl) (OpW.callY rfl (by rfl) (by rfl) (by rfl) (enters_of Tryz.func42 (by kernel_rfl) rfl) ((span_any H 40 45).mono ?_))
  rintro _ _ ⟨rfl, hH⟩
  replace hH := hH.symm
  subst hH
  refine WpOps.step (by rfl) (by rfl) (OpW.callY rfl (by rfl) (by rfl) (by rfl) (enters_of Tryz.func41 (by kernel_rfl) rfl) ((k9 H).mono ?_))
  rintro _ _ ⟨rfl, hH⟩
  replace hH := hH.symm
  subst hH
  refine WpOps.take 5 (by simp only [go_sem, reduceCtorEq, Nat.reduceAdd, Nat.reduceMul, Nat.reduceSub, Nat.reduceLT, Nat.reduceLeDiff, Nat.reduceEqDiff, Nat.reduceBEq, Nat.reducePow]; rfl) (WpOps.nil ⟨Marks.nil _, ?_⟩)
  simp only [Vthen, VinBlock, if_true, if_false, Nat.reduceEqDiff, reduceCtorEq]
  refine WpV.seq ?_
  refine WpV.seq (WpV.region ?_)
  refine WpOps.take 8 (by simp only [go_sem, reduceCtorEq, Nat.reduceAdd, Nat.reduceMul, Nat.reduceSub, Nat.reduceLT, Nat.reduceLeDiff, Nat.reduceEqDiff, Nat.reduceBEq, Nat.reducePow, n0, n8]; rfl) ?_
  refine WpOps.take 8 (by simp only [go_sem, reduceCtorEq, Nat.reduceAdd, Nat.reduceMul, Nat.reduceSub, Nat.reduceLT, Nat.reduceLeDiff, Nat.reduceEqDiff, Nat.reduceBEq, Nat.reducePow, n0, n8]; rfl) ?_
  refine WpOps.take 8 (by simp only [go_sem, reduceCtorEq, Nat.reduceAdd, Nat.reduceMul, Nat.reduceSub, Nat.reduceLT, Nat.reduceLeDiff, Nat.reduceEqDiff, Nat.reduceBEq, Nat.reducePow, n0, n8]; rfl) ?_
  refine WpOps.take 8 (by simp only [go_sem, reduceCtorEq, Nat.reduceAdd, Nat.reduceMul, Nat.reduceSub, Nat.reduceLT, Nat.reduceLeDiff, Nat.reduceEqDiff, Nat.reduceBEq, Nat.reducePow, n0, n8]; rfl) ?_
  refine WpOps.take 6 (by simp only [go_sem, reduceCtorEq, Nat.reduceAdd, Nat.reduceMul, Nat.reduceSub, Nat.reduceLT, Nat.reduceLeDiff, Nat.reduceEqDiff, Nat.reduceBEq, Nat.reducePow, n0, n8]; rfl) (WpOps.nil ⟨Marks.nil _, ?_⟩)
  simp only [Vthen, VinBlock, if_true, if_false, Nat.reduceEqDiff, reduceCtorEq]
  refine WpV.cond rfl (fun hb => by cases hb) (fun hb => WpV.skip ?_)
  simp only [Vthen, VinBlock, if_true, if_false, Nat.reduceEqDiff, reduceCtorEq]
  refine WpV.seq (WpV.region ?_)
  refine WpOps.take 5 (by simp only [go_sem, reduceCtorEq, Nat.reduceAdd, Nat.reduceMul, Nat.reduceSub, Nat.reduceLT, Nat.reduceLeDiff, Nat.reduceEqDiff, Nat.reduceBEq, Nat.reducePow]; rfl) ?_
  refine WpOps.step (by rfl) (by rfl) (OpW.callY rfl (by rfl) (by rfl) (by rfl) (enters_of Tryz.func43 (by kernel_rfl) rfl) ((k21 H _ (by decide)).mono ?_))
  rintro _ _ ⟨rfl, hH⟩
  replace hH := hH.symm
  subst hH
  refine WpOps.take 8 (by simp only [go_sem, reduceCtorEq, Nat.reduceAdd, Nat.reduceMul, Nat.reduceSub, Nat.reduceLT, Nat.reduceLeDiff, Nat.reduceEqDiff, Nat.reduceBEq, Nat.reducePow]; rfl) ?_
  refine WpOps.step (by rfl) (by rfl) (OpW.callY rfl (by rfl) (by rfl) (by rfl) (enters_of Tryz.func43 (by kernel_rfl) rfl) ((k21 H _ (by decide)).mono ?_))
  rintro _ _ ⟨rfl, hH⟩
  replace hH := hH.symm
  subst hH
  refine WpOps.take 8 (by simp only [go_sem, reduceCtorEq, Nat.reduceAdd, Nat.reduceMul, Nat.reduceSub, Nat.reduceLT, Nat.reduceLeDiff, Nat.reduceEqDiff, Nat.reduceBEq, Nat.reducePow]; rfl) ?_
  refine WpOps.step (by rfl) (by rfl) (OpW.callY rfl (by rfl) (by rfl) (by rfl) (enters_of Tryz.func43 (by kernel_rfl) rfl) ((k21 H _ (by decide)).mono ?_))
  rintro _ _ ⟨rfl, hH⟩
  replace hH := hH.symm
  subst hH
  refine WpOps.take 8 (by simp only [go_sem, reduceCtorEq, Nat.reduceAdd, Nat.reduceMul, Nat.reduceSub, Nat.reduceLT, Nat.reduceLeDiff, Nat.reduceEqDiff, Nat.reduceBEq, Nat.reducePow]; rfl) ?_
  refine WpOps.step (by rfl) (by rfl) (OpW.callY rfl (by rfl) (by rfl) (by rfl) (enters_of Tryz.func43 (by kernel_rfl) rfl) ((k21 H _ (by decide)).mono ?_))
  rintro _ _ ⟨rfl, hH⟩
  replace hH := hH.symm
  subst hH
  refine WpOps.take 8 (by simp only [go_sem, reduceCtorEq, Nat.reduceAdd, Nat.reduceMul, Nat.reduceSub, Nat.reduceLT, Nat.reduceLeDiff, Nat.reduceEqDiff, Nat.reduceBEq, Nat.reducePow]; rfl) ?_
  refine WpOps.step (by rfl) (by rfl) (OpW.callY rfl (by rfl) (by rfl) (by rfl) (enters_of Tryz.func43 (by kernel_rfl) rfl) ((k21 H _ (by decide)).mono ?_))
  rintro _ _ ⟨rfl, hH⟩
  replace hH := hH.symm
  subst hH
  refine WpOps.take 4 (by simp only [go_sem, reduceCtorEq, Nat.reduceAdd, Nat.reduceMul, Nat.reduceSub, Nat.reduceLT, Nat.reduceLeDiff, Nat.reduceEqDiff, Nat.reduceBEq, Nat.reducePow]; rfl) ?_
  refine WpOps.step (by rfl) (by rfl) (OpW.callY rfl (by rfl) (by rfl) (by rfl) (enters_of Tryz.func43 (by kernel_rfl) rfl) ((k21 H _ (by decide)).mono ?_))
  rintro _ _ ⟨rfl, hH⟩
  replace hH := hH.symm
  subst hH
  refine WpOps.take 5 (by simp only [go_sem, reduceCtorEq, Nat.reduceAdd, Nat.reduceMul, Nat.reduceSub, Nat.reduceLT, Nat.reduceLeDiff, Nat.reduceEqDiff, Nat.reduceBEq, Nat.reducePow]; rfl) ?_
  refine WpOps.step (by rfl) (by rfl) (OpW.callY rfl (by rfl) (by rfl) (by rfl) (enters_of Tryz.func44 (by kernel_rfl) rfl) ((k22 H).mono ?_))
  rintro _ _ ⟨rfl, hH⟩
  replace hH := hH.symm
  subst hH
  refine WpOps.take 2 (by simp only [go_sem, reduceCtorEq, Nat.reduceAdd, Nat.reduceMul, Nat.reduceSub, Nat.reduceLT, Nat.reduceLeDiff, Nat.reduceEqDiff, Nat.reduceBEq, Nat.reducePow]; rfl) (WpOps.nil ⟨Marks.nil _, ?_⟩)
  simp only [Vthen, VinBlock, if_true, if_false, Nat.reduceEqDiff, reduceCtorEq]
  refine WpV.ret ⟨Marks.nil _, List.nodup_nil, _, by simp only [Tryz.results17]; simp only [go_sem, reduceCtorEq, Nat.reduceAdd, Nat.reduceMul, Nat.reduceSub, Nat.reduceLT, Nat.reduceLeDiff, Nat.reduceEqDiff, Nat.reduceBEq, Nat.reducePow]; rfl, ?_⟩
  exact ⟨rfl, rfl⟩
end Go.Proofs.YtaekibilldjnmaaGreat
