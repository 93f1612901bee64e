/- Gaps are narrowed by each other. -/
import Derived.Test.YtpkadofgmhninaaAgg
namespace Go.Proofs.Ytpkadofgmhninaa
open Go.RowKit
attribute [local go_sem] Oper.semAt_some
theorem st_zero (g : List Int) : CSet.st g 0 0 0 = g := rfl
attribute [local irreducible] CSet.st CSet.settle CSet.settled CSet.gat

set_option maxRecDepth 100000 in
set_option maxHeartbeats 8000000 in
theorem settle_any (B : Nat) (g : List Int) (w : World) (hG : GapsW w B g) (hin : CSet.Within (-2000) 2000 g) :
    Calls Try.prog 62 #[.pointer (some ⟨B, 0, none⟩)] w fun e w' => e = .returned (.bool (CSet.settled (CSet.settle g))) ∧ GapsW w' B (CSet.settle g) ∧ But B w w' := by
  have hg := hG.1
  have hst := fun m a b (hm : m < 6) (ha : a < 6) (hb : b ≤ 6) => CSet.st_within (B := 2000) (by omega) hg hin hm ha hb
  have HST0 := Lib.hid hst
  have HG0 := Lib.hid hG
  have hdone := CSet.st_done g
  generalize CSet.settle g = S at *
  generalize hbb : CSet.settled S = bb at *
  have HDONE := Lib.hid hdone
  have HBB := Lib.hid hbb
  clear hst hG hin hg hdone hbb
  refine (callsIn_wide (n := 0)).1 (callsIn_of_wp Try.func62 rfl trivial ?_ rfl)
  simp only [Try.ntmps62, List.size_toArray, List.length_cons, List.length_nil, Nat.reduceAdd, Nat.reduceSub, Array.replicate_succ, Array.replicate_zero, List.push_toArray, List.append_toArray, List.nil_append, List.cons_append]
  gi_wp2_with fail
  gi_loopw [7] (fun i wr => ∃ m : Nat, m ≤ 6 ∧ i = .int .i64 m ∧ GapsW wr B (CSet.st g m 0 0) ∧ But B w wr) (fun i _ => 6 - (intOf i).toNat)
  case atStart => exact ⟨0, by omega, rfl, by rw [st_zero]; exact HG0.out, But.refl _ _⟩
  case round =>
    obtain ⟨m, hm, rfl, hg, hb⟩ := hrel
    have HG := Lib.hid hg
    have HB := Lib.hid hb
    clear hg hb
    by_cases hm6 : m < 6
    · gi_wp2_with fail
      gi_loopw [10] (fun i wr => ∃ a : Nat, a ≤ 6 ∧ i = .int .i64 a ∧ GapsW wr B (CSet.st g m a 0) ∧ But B w wr) (fun i _ => 6 - (intOf i).toNat)
      case atStart => exact ⟨0, by omega, rfl, HG.out, HB.out⟩
      case round =>
        obtain ⟨a, ha, rfl, hg, hb⟩ := hrel
        clear HG HB
        have HG := Lib.hid hg
        have HB := Lib.hid hb
        clear hg hb
        by_cases ha6 : a < 6
        · gi_wp2_with fail
          gi_loopw [13] (fun i wr => ∃ b : Nat, b ≤ 6 ∧ i = .int .i64 b ∧ GapsW wr B (CSet.st g m a b) ∧ But B w wr) (fun i _ => 6 - (intOf i).toNat)
          case atStart => exact ⟨0, by omega, rfl, HG.out, HB.out⟩
          case round =>
            obtain ⟨b, hb', rfl, hg, hb⟩ := hrel
            clear HG HB
            have HG := Lib.hid hg
            have HB := Lib.hid hb
            by_cases hb6 : b < 6
            · obtain ⟨e1, -⟩ := hg.cell ha6 hb6
              obtain ⟨e2, -⟩ := hg.cell ha6 hm6
              obtain ⟨e3, -⟩ := hg.cell hm6 hb6
              have hw := HST0.out m a b hm6 ha6 (by omega)
              have y1 := hw a b ha6 hb6
              have y2 := hw a m ha6 hm6
              have y3 := hw m b hm6 hb6
              have hss : CSet.st g m a (b + 1) = (CSet.st g m a b).set (6 * a + b) (min (CSet.gat (CSet.st g m a b) a b) (CSet.gat (CSet.st g m a b) a m + CSet.gat (CSet.st g m a b) m b)) := CSet.st_b g m a b
              have HST := Lib.hid hss
              clear hg hb hw hss
              generalize CSet.st g m a b = gg at *
              generalize CSet.gat gg a b = x1 at *
              generalize CSet.gat gg a m = x2 at *
              generalize CSet.gat gg m b = x3 at *
              gi_wp2_with fail
              refine region_tail 29 (fun i v W => match i with
                | 0 => v = .pointer (some ⟨B, 0, none⟩)
                | 1 => v = .int .i64 (a : Int)
                | 2 => v = .int .i64 (b : Int)
                | 3 => v = .pointer (some ⟨B, 0, none⟩)
                | 4 => v = .int .i64 (a : Int)
                | 5 => v = .int .i64 (b : Int)
                | 6 => v = .pointer (some ⟨B, 0, none⟩)
                | 7 => v = .pointer (some ⟨B, a * 6, none⟩)
                | 8 => v = .pointer (some ⟨B, a * 6 + b, none⟩)
                | 9 => v = .int .i64 x1
                | 10 => v = .pointer (some ⟨B, 0, none⟩)
                | 11 => v = .int .i64 (a : Int)
                | 12 => v = .int .i64 (m : Int)
                | 13 => v = .pointer (some ⟨B, 0, none⟩)
                | 14 => v = .pointer (some ⟨B, a * 6, none⟩)
                | 15 => v = .pointer (some ⟨B, a * 6 + m, none⟩)
                | 16 => v = .int .i64 x2
                | 17 => v = .pointer (some ⟨B, 0, none⟩)
                | 18 => v = .int .i64 (m : Int)
                | 19 => v = .int .i64 (b : Int)
                | 20 => v = .pointer (some ⟨B, 0, none⟩)
                | 21 => v = .pointer (some ⟨B, m * 6, none⟩)
                | 22 => v = .pointer (some ⟨B, m * 6 + b, none⟩)
                | 23 => v = .int .i64 x3
                | 24 => v = .int .i64 (x2 + x3)
                | 25 => v = .int .i64 (min x1 (x2 + x3))
                | 26 => v = .pointer (some ⟨B, 0, none⟩)
                | 27 => v = .pointer (some ⟨B, a * 6, none⟩)
                | 28 => v = .pointer (some ⟨B, a * 6 + b, none⟩)
                | _ => True) (by kernel_rfl) (by kernel_rfl) (by kernel_rfl) (by kernel_rfl) ?_ ?_ ?_
              · intro i v W W' h hb
                split at h <;> first | exact h | exact h.bel hb | exact fun e => (h e).bel hb | exact ⟨h.1.bel hb, h.2⟩
              · refine ⟨?_, ?_, ?_, ?_, ?_, ?_, ?_, ?_, ?_, ?_, ?_, ?_, ?_, ?_, ?_, ?_, ?_, ?_, ?_, ?_, ?_, ?_, ?_, ?_, ?_, ?_, ?_, ?_, ?_, trivial⟩
                · refine growOp_k ?_; intro vs W hW hd K HK
                  clear hd
                  simp only [putAll, Act.put, List.setIfInBounds_toArray, List.set_cons_succ, List.set_cons_zero, Nat.reduceAdd, Nat.zero_add]
                  gi_wp2_with fail
                  refine HK.out _ _ ?_ ?_ ?_
                  · simp only [putAll, Act.put, List.setIfInBounds_toArray, List.set_cons_succ, List.set_cons_zero, Nat.reduceAdd, Nat.zero_add] <;> kernel_rfl
                  · rfl
                  · exact Bel.refl _
                · refine growOp_k ?_; intro vs W hW hd K HK
                  clear hd
                  simp only [putAll, Act.put, List.setIfInBounds_toArray, List.set_cons_succ, List.set_cons_zero, Nat.reduceAdd, Nat.zero_add]
                  gi_wp2_with fail
                  refine HK.out _ _ ?_ ?_ ?_
                  · simp only [putAll, Act.put, List.setIfInBounds_toArray, List.set_cons_succ, List.set_cons_zero, Nat.reduceAdd, Nat.zero_add] <;> kernel_rfl
                  · rfl
                  · exact Bel.refl _
                · refine growOp_k ?_; intro vs W hW hd K HK
                  clear hd
                  simp only [putAll, Act.put, List.setIfInBounds_toArray, List.set_cons_succ, List.set_cons_zero, Nat.reduceAdd, Nat.zero_add]
                  gi_wp2_with fail
                  refine HK.out _ _ ?_ ?_ ?_
                  · simp only [putAll, Act.put, List.setIfInBounds_toArray, List.set_cons_succ, List.set_cons_zero, Nat.reduceAdd, Nat.zero_add] <;> kernel_rfl
                  · rfl
                  · exact Bel.refl _
                · refine growOp_k ?_; intro vs W hW hd K HK
                  clear hd
                  simp only [putAll, Act.put, List.setIfInBounds_toArray, List.set_cons_succ, List.set_cons_zero, Nat.reduceAdd, Nat.zero_add]
                  gi_wp2_with fail
                  refine HK.out _ _ ?_ ?_ ?_
                  · simp only [putAll, Act.put, List.setIfInBounds_toArray, List.set_cons_succ, List.set_cons_zero, Nat.reduceAdd, Nat.zero_add] <;> kernel_rfl
                  · rfl
                  · exact Bel.refl _
                · refine growOp_k ?_; intro vs W hW hd K HK
                  clear hd
                  simp only [putAll, Act.put, List.setIfInBounds_toArray, List.set_cons_succ, List.set_cons_zero, Nat.reduceAdd, Nat.zero_add]
                  gi_wp2_with fail
                  refine HK.out _ _ ?_ ?_ ?_
                  · simp only [putAll, Act.put, List.setIfInBounds_toArray, List.set_cons_succ, List.set_cons_zero, Nat.reduceAdd, Nat.zero_add] <;> kernel_rfl
                  · rfl
                  · exact Bel.refl _
                · refine growOp_k ?_; intro vs W hW hd K HK
                  clear hd
                  simp only [putAll, Act.put, List.setIfInBounds_toArray, List.set_cons_succ, List.set_cons_zero, Nat.reduceAdd, Nat.zero_add]
                  gi_wp2_with fail
                  refine HK.out _ _ ?_ ?_ ?_
                  · simp only [putAll, Act.put, List.setIfInBounds_toArray, List.set_cons_succ, List.set_cons_zero, Nat.reduceAdd, Nat.zero_add] <;> kernel_rfl
                  · rfl
                  · exact Bel.refl _
                · refine growOp_k ?_; intro vs W hW hd K HK
                  have h3 : (vs 3) = .pointer (some ⟨B, 0, none⟩) := hd 3 (by decide)
                  clear hd
                  simp only [putAll, Act.put, List.setIfInBounds_toArray, List.set_cons_succ, List.set_cons_zero, Nat.reduceAdd, Nat.zero_add, h3]
                  gi_wp2_with fail
                  refine HK.out _ _ ?_ ?_ ?_
                  · simp only [putAll, Act.put, List.setIfInBounds_toArray, List.set_cons_succ, List.set_cons_zero, Nat.reduceAdd, Nat.zero_add, h3] <;> kernel_rfl
                  · rfl
                  · exact Bel.refl _
                · refine growOp_k ?_; intro vs W hW hd K HK
                  have h6 : (vs 6) = .pointer (some ⟨B, 0, none⟩) := hd 6 (by decide)
                  have h4 : (vs 4) = .int .i64 (a : Int) := hd 4 (by decide)
                  clear hd
                  simp only [putAll, Act.put, List.setIfInBounds_toArray, List.set_cons_succ, List.set_cons_zero, Nat.reduceAdd, Nat.zero_add, h6, h4]
                  gi_wp2_with fail
                  refine HK.out _ _ ?_ ?_ ?_
                  · simp only [putAll, Act.put, List.setIfInBounds_toArray, List.set_cons_succ, List.set_cons_zero, Nat.reduceAdd, Nat.zero_add, h6, h4] <;> kernel_rfl
                  · rfl
                  · exact Bel.refl _
                · refine growOp_k ?_; intro vs W hW hd K HK
                  have h7 : (vs 7) = .pointer (some ⟨B, a * 6, none⟩) := hd 7 (by decide)
                  have h5 : (vs 5) = .int .i64 (b : Int) := hd 5 (by decide)
                  clear hd
                  simp only [putAll, Act.put, List.setIfInBounds_toArray, List.set_cons_succ, List.set_cons_zero, Nat.reduceAdd, Nat.zero_add, h7, h5]
                  gi_wp2_with fail
                  refine HK.out _ _ ?_ ?_ ?_
                  · simp only [putAll, Act.put, List.setIfInBounds_toArray, List.set_cons_succ, List.set_cons_zero, Nat.reduceAdd, Nat.zero_add, h7, h5] <;> kernel_rfl
                  · rfl
                  · exact Bel.refl _
                · refine growOp_k ?_; intro vs W hW hd K HK
                  have h8 : (vs 8) = .pointer (some ⟨B, a * 6 + b, none⟩) := hd 8 (by decide)
                  clear hd
                  have e1 := hW.cell e1
                  simp only [putAll, Act.put, List.setIfInBounds_toArray, List.set_cons_succ, List.set_cons_zero, Nat.reduceAdd, Nat.zero_add, h8]
                  gi_wp2_with fail
                  refine HK.out _ _ ?_ ?_ ?_
                  · simp only [putAll, Act.put, List.setIfInBounds_toArray, List.set_cons_succ, List.set_cons_zero, Nat.reduceAdd, Nat.zero_add, h8] <;> kernel_rfl
                  · rfl
                  · exact Bel.refl _
                · refine growOp_k ?_; intro vs W hW hd K HK
                  clear hd
                  simp only [putAll, Act.put, List.setIfInBounds_toArray, List.set_cons_succ, List.set_cons_zero, Nat.reduceAdd, Nat.zero_add]
                  gi_wp2_with fail
                  refine HK.out _ _ ?_ ?_ ?_
                  · simp only [putAll, Act.put, List.setIfInBounds_toArray, List.set_cons_succ, List.set_cons_zero, Nat.reduceAdd, Nat.zero_add] <;> kernel_rfl
                  · rfl
                  · exact Bel.refl _
                · refine growOp_k ?_; intro vs W hW hd K HK
                  clear hd
                  simp only [putAll, Act.put, List.setIfInBounds_toArray, List.set_cons_succ, List.set_cons_zero, Nat.reduceAdd, Nat.zero_add]
                  gi_wp2_with fail
                  refine HK.out _ _ ?_ ?_ ?_
                  · simp only [putAll, Act.put, List.setIfInBounds_toArray, List.set_cons_succ, List.set_cons_zero, Nat.reduceAdd, Nat.zero_add] <;> kernel_rfl
                  · rfl
                  · exact Bel.refl _
                · refine growOp_k ?_; intro vs W hW hd K HK
                  clear hd
                  simp only [putAll, Act.put, List.setIfInBounds_toArray, List.set_cons_succ, List.set_cons_zero, Nat.reduceAdd, Nat.zero_add]
                  gi_wp2_with fail
                  refine HK.out _ _ ?_ ?_ ?_
                  · simp only [putAll, Act.put, List.setIfInBounds_toArray, List.set_cons_succ, List.set_cons_zero, Nat.reduceAdd, Nat.zero_add] <;> kernel_rfl
                  · rfl
                  · exact Bel.refl _
                · refine growOp_k ?_; intro vs W hW hd K HK
                  have h10 : (vs 10) = .pointer (some ⟨B, 0, none⟩) := hd 10 (by decide)
                  clear hd
                  simp only [putAll, Act.put, List.setIfInBounds_toArray, List.set_cons_succ, List.set_cons_zero, Nat.reduceAdd, Nat.zero_add, h10]
                  gi_wp2_with fail
                  refine HK.out _ _ ?_ ?_ ?_
                  · simp only [putAll, Act.put, List.setIfInBounds_toArray, List.set_cons_succ, List.set_cons_zero, Nat.reduceAdd, Nat.zero_add, h10] <;> kernel_rfl
                  · rfl
                  · exact Bel.refl _
                · refine growOp_k ?_; intro vs W hW hd K HK
                  have h13 : (vs 13) = .pointer (some ⟨B, 0, none⟩) := hd 13 (by decide)
                  have h11 : (vs 11) = .int .i64 (a : Int) := hd 11 (by decide)
                  clear hd
                  simp only [putAll, Act.put, List.setIfInBounds_toArray, List.set_cons_succ, List.set_cons_zero, Nat.reduceAdd, Nat.zero_add, h13, h11]
                  gi_wp2_with fail
                  refine HK.out _ _ ?_ ?_ ?_
                  · simp only [putAll, Act.put, List.setIfInBounds_toArray, List.set_cons_succ, List.set_cons_zero, Nat.reduceAdd, Nat.zero_add, h13, h11] <;> kernel_rfl
                  · rfl
                  · exact Bel.refl _
                · refine growOp_k ?_; intro vs W hW hd K HK
                  have h14 : (vs 14) = .pointer (some ⟨B, a * 6, none⟩) := hd 14 (by decide)
                  have h12 : (vs 12) = .int .i64 (m : Int) := hd 12 (by decide)
                  clear hd
                  simp only [putAll, Act.put, List.setIfInBounds_toArray, List.set_cons_succ, List.set_cons_zero, Nat.reduceAdd, Nat.zero_add, h14, h12]
                  gi_wp2_with fail
                  refine HK.out _ _ ?_ ?_ ?_
                  · simp only [putAll, Act.put, List.setIfInBounds_toArray, List.set_cons_succ, List.set_cons_zero, Nat.reduceAdd, Nat.zero_add, h14, h12] <;> kernel_rfl
                  · rfl
                  · exact Bel.refl _
                · refine growOp_k ?_; intro vs W hW hd K HK
                  have h15 : (vs 15) = .pointer (some ⟨B, a * 6 + m, none⟩) := hd 15 (by decide)
                  clear hd
                  have e2 := hW.cell e2
                  simp only [putAll, Act.put, List.setIfInBounds_toArray, List.set_cons_succ, List.set_cons_zero, Nat.reduceAdd, Nat.zero_add, h15]
                  gi_wp2_with fail
                  refine HK.out _ _ ?_ ?_ ?_
                  · simp only [putAll, Act.put, List.setIfInBounds_toArray, List.set_cons_succ, List.set_cons_zero, Nat.reduceAdd, Nat.zero_add, h15] <;> kernel_rfl
                  · rfl
                  · exact Bel.refl _
                · refine growOp_k ?_; intro vs W hW hd K HK
                  clear hd
                  simp only [putAll, Act.put, List.setIfInBounds_toArray, List.set_cons_succ, List.set_cons_zero, Nat.reduceAdd, Nat.zero_add]
                  gi_wp2_with fail
                  refine HK.out _ _ ?_ ?_ ?_
                  · simp only [putAll, Act.put, List.setIfInBounds_toArray, List.set_cons_succ, List.set_cons_zero, Nat.reduceAdd, Nat.zero_add] <;> kernel_rfl
                  · rfl
                  · exact Bel.refl _
                · refine growOp_k ?_; intro vs W hW hd K HK
                  clear hd
                  simp only [putAll, Act.put, List.setIfInBounds_toArray, List.set_cons_succ, List.set_cons_zero, Nat.reduceAdd, Nat.zero_add]
                  gi_wp2_with fail
                  refine HK.out _ _ ?_ ?_ ?_
                  · simp only [putAll, Act.put, List.setIfInBounds_toArray, List.set_cons_succ, List.set_cons_zero, Nat.reduceAdd, Nat.zero_add] <;> kernel_rfl
                  · rfl
                  · exact Bel.refl _
                · refine growOp_k ?_; intro vs W hW hd K HK
                  clear hd
                  simp only [putAll, Act.put, List.setIfInBounds_toArray, List.set_cons_succ, List.set_cons_zero, Nat.reduceAdd, Nat.zero_add]
                  gi_wp2_with fail
                  refine HK.out _ _ ?_ ?_ ?_
                  · simp only [putAll, Act.put, List.setIfInBounds_toArray, List.set_cons_succ, List.set_cons_zero, Nat.reduceAdd, Nat.zero_add] <;> kernel_rfl
                  · rfl
                  · exact Bel.refl _
                · refine growOp_k ?_; intro vs W hW hd K HK
                  have h17 : (vs 17) = .pointer (some ⟨B, 0, none⟩) := hd 17 (by decide)
                  clear hd
                  simp only [putAll, Act.put, List.setIfInBounds_toArray, List.set_cons_succ, List.set_cons_zero, Nat.reduceAdd, Nat.zero_add, h17]
                  gi_wp2_with fail
                  refine HK.out _ _ ?_ ?_ ?_
                  · simp only [putAll, Act.put, List.setIfInBounds_toArray, List.set_cons_succ, List.set_cons_zero, Nat.reduceAdd, Nat.zero_add, h17] <;> kernel_rfl
                  · rfl
                  · exact Bel.refl _
                · refine growOp_k ?_; intro vs W hW hd K HK
                  have h20 : (vs 20) = .pointer (some ⟨B, 0, none⟩) := hd 20 (by decide)
                  have h18 : (vs 18) = .int .i64 (m : Int) := hd 18 (by decide)
                  clear hd
                  simp only [putAll, Act.put, List.setIfInBounds_toArray, List.set_cons_succ, List.set_cons_zero, Nat.reduceAdd, Nat.zero_add, h20, h18]
                  gi_wp2_with fail
                  refine HK.out _ _ ?_ ?_ ?_
                  · simp only [putAll, Act.put, List.setIfInBounds_toArray, List.set_cons_succ, List.set_cons_zero, Nat.reduceAdd, Nat.zero_add, h20, h18] <;> kernel_rfl
                  · rfl
                  · exact Bel.refl _
                · refine growOp_k ?_; intro vs W hW hd K HK
                  have h21 : (vs 21) = .pointer (some ⟨B, m * 6, none⟩) := hd 21 (by decide)
                  have h19 : (vs 19) = .int .i64 (b : Int) := hd 19 (by decide)
                  clear hd
                  simp only [putAll, Act.put, List.setIfInBounds_toArray, List.set_cons_succ, List.set_cons_zero, Nat.reduceAdd, Nat.zero_add, h21, h19]
                  gi_wp2_with fail
                  refine HK.out _ _ ?_ ?_ ?_
                  · simp only [putAll, Act.put, List.setIfInBounds_toArray, List.set_cons_succ, List.set_cons_zero, Nat.reduceAdd, Nat.zero_add, h21, h19] <;> kernel_rfl
                  · rfl
                  · exact Bel.refl _
                · refine growOp_k ?_; intro vs W hW hd K HK
                  have h22 : (vs 22) = .pointer (some ⟨B, m * 6 + b, none⟩) := hd 22 (by decide)
                  clear hd
                  have e3 := hW.cell e3
                  simp only [putAll, Act.put, List.setIfInBounds_toArray, List.set_cons_succ, List.set_cons_zero, Nat.reduceAdd, Nat.zero_add, h22]
                  gi_wp2_with fail
                  refine HK.out _ _ ?_ ?_ ?_
                  · simp only [putAll, Act.put, List.setIfInBounds_toArray, List.set_cons_succ, List.set_cons_zero, Nat.reduceAdd, Nat.zero_add, h22] <;> kernel_rfl
                  · rfl
                  · exact Bel.refl _
                · refine growOp_k ?_; intro vs W hW hd K HK
                  have h16 : (vs 16) = .int .i64 x2 := hd 16 (by decide)
                  have h23 : (vs 23) = .int .i64 x3 := hd 23 (by decide)
                  clear hd
                  simp only [putAll, Act.put, List.setIfInBounds_toArray, List.set_cons_succ, List.set_cons_zero, Nat.reduceAdd, Nat.zero_add, h16, h23]
                  gi_wp2_with fail
                  refine HK.out _ _ ?_ ?_ ?_
                  · simp only [putAll, Act.put, List.setIfInBounds_toArray, List.set_cons_succ, List.set_cons_zero, Nat.reduceAdd, Nat.zero_add, h16, h23] <;> kernel_rfl
                  · rfl
                  · exact Bel.refl _
                · refine growOp_k ?_; intro vs W hW hd K HK
                  have h9 : (vs 9) = .int .i64 x1 := hd 9 (by decide)
                  have h24 : (vs 24) = .int .i64 (x2 + x3) := hd 24 (by decide)
                  clear hd
                  simp only [putAll, Act.put, List.setIfInBounds_toArray, List.set_cons_succ, List.set_cons_zero, Nat.reduceAdd, Nat.zero_add, h9, h24]
                  gi_wp2_with fail
                  refine HK.out _ _ ?_ ?_ ?_
                  · simp only [putAll, Act.put, List.setIfInBounds_toArray, List.set_cons_succ, List.set_cons_zero, Nat.reduceAdd, Nat.zero_add, h9, h24] <;> kernel_rfl
                  · first | rfl | (show _ = _; simp [valOf]; omega) | simp [valOf]
                  · exact Bel.refl _
                · refine growOp_k ?_; intro vs W hW hd K HK
                  have h0 : (vs 0) = .pointer (some ⟨B, 0, none⟩) := hd 0 (by decide)
                  clear hd
                  simp only [putAll, Act.put, List.setIfInBounds_toArray, List.set_cons_succ, List.set_cons_zero, Nat.reduceAdd, Nat.zero_add, h0]
                  gi_wp2_with fail
                  refine HK.out _ _ ?_ ?_ ?_
                  · simp only [putAll, Act.put, List.setIfInBounds_toArray, List.set_cons_succ, List.set_cons_zero, Nat.reduceAdd, Nat.zero_add, h0] <;> kernel_rfl
                  · rfl
                  · exact Bel.refl _
                · refine growOp_k ?_; intro vs W hW hd K HK
                  have h26 : (vs 26) = .pointer (some ⟨B, 0, none⟩) := hd 26 (by decide)
                  have h1 : (vs 1) = .int .i64 (a : Int) := hd 1 (by decide)
                  clear hd
                  simp only [putAll, Act.put, List.setIfInBounds_toArray, List.set_cons_succ, List.set_cons_zero, Nat.reduceAdd, Nat.zero_add, h26, h1]
                  gi_wp2_with fail
                  refine HK.out _ _ ?_ ?_ ?_
                  · simp only [putAll, Act.put, List.setIfInBounds_toArray, List.set_cons_succ, List.set_cons_zero, Nat.reduceAdd, Nat.zero_add, h26, h1] <;> kernel_rfl
                  · rfl
                  · exact Bel.refl _
                · refine growOp_k ?_; intro vs W hW hd K HK
                  have h27 : (vs 27) = .pointer (some ⟨B, a * 6, none⟩) := hd 27 (by decide)
                  have h2 : (vs 2) = .int .i64 (b : Int) := hd 2 (by decide)
                  clear hd
                  simp only [putAll, Act.put, List.setIfInBounds_toArray, List.set_cons_succ, List.set_cons_zero, Nat.reduceAdd, Nat.zero_add, h27, h2]
                  gi_wp2_with fail
                  refine HK.out _ _ ?_ ?_ ?_
                  · simp only [putAll, Act.put, List.setIfInBounds_toArray, List.set_cons_succ, List.set_cons_zero, Nat.reduceAdd, Nat.zero_add, h27, h2] <;> kernel_rfl
                  · rfl
                  · exact Bel.refl _
              · intro vs W hW hall
                have g25 : vs 25 = .int .i64 (min x1 (x2 + x3)) := hall 25 (by decide)
                have g28 : vs 28 = .pointer (some ⟨B, a * 6 + b, none⟩) := hall 28 (by decide)
                clear hall
                simp only [putAll, Act.put, List.setIfInBounds_toArray, List.set_cons_succ, List.set_cons_zero, Nat.reduceAdd, Nat.zero_add, List.take_succ_cons, List.take_zero, List.drop_succ_cons, List.drop_zero, g25, g28]
                have HGW := Lib.hid (HG.out.bel hW)
                have HBW := Lib.hid (HB.out.trans (hW.but B))
                obtain ⟨u1, u2⟩ := HGW.out.cell ha6 hb6
                clear hW g25 g28 e1 e2 e3
                generalize min x1 (x2 + x3) = mn at *
                gi_wp2_with fail
                have e1 := But.set B (a * 6 + b) W (.int .i64 mn)
                go_roundw
                case rel => exact ⟨b + 1, by omega, by go_num, by rw [HST.out]; exact HGW.out.set a b _, HBW.out.trans e1⟩
                case measure => simp [intOf]; omega
            · obtain rfl : b = 6 := by omega
              clear hg hb hb6
              gi_wp2_with fail
              go_roundw
              case rel => exact ⟨a + 1, by omega, by go_num, by rw [← CSet.st_a]; exact HG.out, HB.out⟩
              case measure => simp [intOf]; omega
        · obtain rfl : a = 6 := by omega
          clear ha6
          gi_wp2_with fail
          go_roundw
          case rel => exact ⟨m + 1, by omega, by go_num, by rw [← CSet.st_m]; exact HG.out, HB.out⟩
          case measure => simp [intOf]; omega
    · obtain rfl : m = 6 := by omega
      clear hm6
      have HG1 : Hid (GapsW wr B S) := Lib.hid (by rw [← HDONE.out]; exact HG.out)
      clear HG
      gi_wp2_with fail
      gi_loopw [48] (fun i w2 => ∃ c : Nat, c ≤ 6 ∧ i = .int .i64 c ∧ (∀ k, k < c → 0 ≤ CSet.gat S k k) ∧ w2 = wr) (fun i _ => 6 - (intOf i).toNat)
      case atStart => exact ⟨0, by omega, rfl, nofun, rfl⟩
      case round =>
        obtain ⟨c, hc, rfl, hall, rfl⟩ := hrel
        have HALL := Lib.hid hall
        clear hall
        by_cases hc6 : c < 6
        · obtain ⟨e1, -⟩ := HG1.out.cell hc6 hc6
          by_cases hneg : CSet.gat S c c < 0
          · have HF : Hid (bb = false) := Lib.hid (by
              rw [← HBB.out]
              unfold CSet.settled
              rw [List.all_eq_false]
              exact ⟨c, by simpa using hc6, by simp; omega⟩)
            generalize CSet.gat S c c = y at *
            gi_wp2_with fail
            go_ret
            exact ⟨ret_bool HF.out.symm, HG1.out, HB.out⟩
          · have hneg2 : 0 ≤ CSet.gat S c c := by omega
            have HN := Lib.hid hneg2
            generalize hy : CSet.gat S c c = y at *
            have HY := Lib.hid hy
            clear hy
            gi_wp2_with fail
            go_roundw
            case rel =>
              refine ⟨c + 1, by omega, by go_num, fun k hk => ?_, trivial⟩
              by_cases e : k = c
              · rw [e, HY.out]; exact HN.out
              · exact HALL.out k (by omega)
            case measure => simp [intOf]; omega
        · have HT : Hid (bb = true) := Lib.hid (by
            rw [← HBB.out]
            unfold CSet.settled
            rw [List.all_eq_true]
            intro k hk
            exact decide_eq_true (HALL.out k (by have := List.mem_range.1 hk; omega)))
          gi_wp2_with fail
          go_ret
          exact ⟨ret_bool HT.out.symm, HG1.out, HB.out⟩

end Go.Proofs.Ytpkadofgmhninaa
