/- What is left of values. -/
import Derived.Test.YtpkadofgmhninaaAgg
import Derived.Test.YtpkadofgmhninaaTail
namespace Go.Proofs.Ytpkadofgmhninaa
open Go.RowKit
attribute [local go_sem] Oper.semAt_some
attribute [local irreducible] CSet.gat

set_option maxRecDepth 100000 in
set_option maxHeartbeats 8000000 in
theorem gspans_any (B n : Nat) (g : List Int) (w : World) (hG : GapsW w B g) (hn : n ≤ 5) (hin : CSet.Within (-1000000000) 1000000000 g) :
    Calls Try.prog 48 #[.pointer (some ⟨B, 0, none⟩), .int .i64 (n : Int)] w fun e w' => ∃ r, e = .returned r ∧ Spans w' r n (fun c => -CSet.gat g 5 c) (fun c => CSet.gat g c 5) ∧ Bel w w' := by
  obtain ⟨i0, hi0, hz0, hz1, hz2⟩ := info_parts Try.info54
  have HG00 := Lib.hid hG
  have HIN := Lib.hid hin
  have hsn := fun k => spanCells_succ (fun c => -CSet.gat g 5 c) (fun c => CSet.gat g c 5) k
  have HSN := Lib.hid hsn
  clear hG hin hsn
  refine (callsIn_wide (n := 0)).1 (callsIn_of_wp Try.func48 rfl trivial ?_ rfl)
  simp only [Try.ntmps48, List.size_toArray, List.length_cons, List.length_nil, Nat.reduceAdd, Nat.reduceSub, Array.replicate_succ, Array.replicate_zero, List.push_toArray, List.append_toArray, List.nil_append, List.cons_append]
  gi_wp2_with fail
  gi_loopw [5, 8] (fun r i wr => ∃ (k : Nat) (r0 : Value), r0 = r ∧ k ≤ n ∧ i = .int .i64 k ∧ wr.ownsRow w.heap.size 54 2 r0 k (spanCells (fun c => -CSet.gat g 5 c) (fun c => CSet.gat g c 5) k) ∧ GapsW wr B g ∧ Bel w wr) (fun _ i _ => n - (intOf i).toNat)
  case atStart => exact ⟨0, _, rfl, Nat.zero_le _, rfl, ⟨rfl, .inl ⟨rfl, rfl⟩⟩, HG00.out, Bel.refl _⟩
  case round =>
    obtain ⟨k, r, rfl, hk, rfl, ho, hg, hb⟩ := hrel
    by_cases hlt : k < n
    · have HO := Lib.hid ho
      have HB := Lib.hid hb
      have HG := Lib.hid hg
      obtain ⟨e1, -⟩ := hg.cell (a := 5) (b := k) (by omega) (by omega)
      obtain ⟨e2, -⟩ := hg.cell (a := k) (b := 5) (by omega) (by omega)
      have y1 := HIN.out 5 k (by omega) (by omega)
      have y2 := HIN.out k 5 (by omega) (by omega)
      have hs := HSN.out k
      have HS := Lib.hid hs
      have hk6 : k < 6 := by omega
      clear ho hb hg hs
      generalize CSet.gat g 5 k = x1 at *
      generalize CSet.gat g k 5 = x2 at *
      gi_wp2_with fail
      refine region_tail2 16 (fun i v W => match i with
        | 0 => v = r
        | 1 => v = .pointer (some ⟨B, 0, none⟩)
        | 2 => v = .int .i64 (k : Int)
        | 3 => v = .pointer (some ⟨B, 0, none⟩)
        | 4 => v = .pointer (some ⟨B, 30, none⟩)
        | 5 => v = .pointer (some ⟨B, 30 + k, none⟩)
        | 6 => v = .int .i64 x1
        | 7 => v = .int .i64 (-x1)
        | 8 => v = .pointer (some ⟨B, 0, none⟩)
        | 9 => v = .int .i64 (k : Int)
        | 10 => v = .pointer (some ⟨B, 0, none⟩)
        | 11 => v = .pointer (some ⟨B, k * 6, none⟩)
        | 12 => v = .pointer (some ⟨B, k * 6 + 5, none⟩)
        | 13 => v = .int .i64 x2
        | 14 => v = .agg #[.int .i64 (-x1), .int .i64 x2]
        | 15 => ∃ b, v = .slice (some ⟨b, 0, none⟩) 1 1 ∧ C2 W b (.int .i64 (-x1)) (.int .i64 x2)
        | _ => True) (by kernel_rfl) (by kernel_rfl) (by kernel_rfl) (by kernel_rfl) (by kernel_rfl) ?_ ?_ ?_
      · intro i v W W' h hb
        split at h <;> first | exact h | exact h.bel hb | exact fun e => (h e).bel hb | exact ⟨h.1.bel hb, h.2⟩ | (obtain ⟨b, h1, h2⟩ := h; exact ⟨b, h1, h2.bel hb⟩)
      · refine ⟨?_, ?_, ?_, ?_, ?_, ?_, ?_, ?_, ?_, ?_, ?_, ?_, ?_, ?_, ?_, ?_, trivial⟩
        · refine growOp2_k ?_; intro vs W hW hd K HK
          clear hd
          simp only [putAll, Act.put, List.setIfInBounds_toArray, List.set_cons_succ, List.set_cons_zero, Nat.reduceAdd, Nat.zero_add, List.take_succ_cons, List.take_zero]
          gi_wp2_with fail
          refine HK.out _ _ ?_ ?_ ?_
          · simp only [putAll, Act.put, List.setIfInBounds_toArray, List.set_cons_succ, List.set_cons_zero, Nat.reduceAdd, Nat.zero_add, List.take_succ_cons, List.take_zero] <;> kernel_rfl
          · rfl
          · exact Bel.refl _
        · refine growOp2_k ?_; intro vs W hW hd K HK
          clear hd
          simp only [putAll, Act.put, List.setIfInBounds_toArray, List.set_cons_succ, List.set_cons_zero, Nat.reduceAdd, Nat.zero_add, List.take_succ_cons, List.take_zero]
          gi_wp2_with fail
          refine HK.out _ _ ?_ ?_ ?_
          · simp only [putAll, Act.put, List.setIfInBounds_toArray, List.set_cons_succ, List.set_cons_zero, Nat.reduceAdd, Nat.zero_add, List.take_succ_cons, List.take_zero] <;> kernel_rfl
          · rfl
          · exact Bel.refl _
        · refine growOp2_k ?_; intro vs W hW hd K HK
          clear hd
          simp only [putAll, Act.put, List.setIfInBounds_toArray, List.set_cons_succ, List.set_cons_zero, Nat.reduceAdd, Nat.zero_add, List.take_succ_cons, List.take_zero]
          gi_wp2_with fail
          refine HK.out _ _ ?_ ?_ ?_
          · simp only [putAll, Act.put, List.setIfInBounds_toArray, List.set_cons_succ, List.set_cons_zero, Nat.reduceAdd, Nat.zero_add, List.take_succ_cons, List.take_zero] <;> kernel_rfl
          · rfl
          · exact Bel.refl _
        · refine growOp2_k ?_; intro vs W hW hd K HK
          have h1 : (vs 1) = .pointer (some ⟨B, 0, none⟩) := hd 1 (by decide)
          clear hd
          simp only [putAll, Act.put, List.setIfInBounds_toArray, List.set_cons_succ, List.set_cons_zero, Nat.reduceAdd, Nat.zero_add, List.take_succ_cons, List.take_zero, h1]
          gi_wp2_with fail
          refine HK.out _ _ ?_ ?_ ?_
          · simp only [putAll, Act.put, List.setIfInBounds_toArray, List.set_cons_succ, List.set_cons_zero, Nat.reduceAdd, Nat.zero_add, List.take_succ_cons, List.take_zero, h1] <;> kernel_rfl
          · rfl
          · exact Bel.refl _
        · refine growOp2_k ?_; intro vs W hW hd K HK
          have h3 : (vs 3) = .pointer (some ⟨B, 0, none⟩) := hd 3 (by decide)
          clear hd
          simp only [putAll, Act.put, List.setIfInBounds_toArray, List.set_cons_succ, List.set_cons_zero, Nat.reduceAdd, Nat.zero_add, List.take_succ_cons, List.take_zero, h3]
          gi_wp2_with fail
          refine HK.out _ _ ?_ ?_ ?_
          · simp only [putAll, Act.put, List.setIfInBounds_toArray, List.set_cons_succ, List.set_cons_zero, Nat.reduceAdd, Nat.zero_add, List.take_succ_cons, List.take_zero, h3] <;> kernel_rfl
          · rfl
          · exact Bel.refl _
        · refine growOp2_k ?_; intro vs W hW hd K HK
          have h4 : (vs 4) = .pointer (some ⟨B, 30, none⟩) := hd 4 (by decide)
          have h2 : (vs 2) = .int .i64 (k : Int) := hd 2 (by decide)
          clear hd
          simp only [putAll, Act.put, List.setIfInBounds_toArray, List.set_cons_succ, List.set_cons_zero, Nat.reduceAdd, Nat.zero_add, List.take_succ_cons, List.take_zero, h4, h2]
          gi_wp2_with fail
          refine HK.out _ _ ?_ ?_ ?_
          · simp only [putAll, Act.put, List.setIfInBounds_toArray, List.set_cons_succ, List.set_cons_zero, Nat.reduceAdd, Nat.zero_add, List.take_succ_cons, List.take_zero, h4, h2] <;> kernel_rfl
          · rfl
          · exact Bel.refl _
        · refine growOp2_k ?_; intro vs W hW hd K HK
          have h5 : (vs 5) = .pointer (some ⟨B, 30 + k, none⟩) := hd 5 (by decide)
          clear hd
          have e1 := hW.cell e1
          simp only [putAll, Act.put, List.setIfInBounds_toArray, List.set_cons_succ, List.set_cons_zero, Nat.reduceAdd, Nat.zero_add, List.take_succ_cons, List.take_zero, h5]
          gi_wp2_with fail
          refine HK.out _ _ ?_ ?_ ?_
          · simp only [putAll, Act.put, List.setIfInBounds_toArray, List.set_cons_succ, List.set_cons_zero, Nat.reduceAdd, Nat.zero_add, List.take_succ_cons, List.take_zero, h5] <;> kernel_rfl
          · rfl
          · exact Bel.refl _
        · refine growOp2_k ?_; intro vs W hW hd K HK
          have h6 : (vs 6) = .int .i64 x1 := hd 6 (by decide)
          clear hd
          simp only [putAll, Act.put, List.setIfInBounds_toArray, List.set_cons_succ, List.set_cons_zero, Nat.reduceAdd, Nat.zero_add, List.take_succ_cons, List.take_zero, h6]
          gi_wp2_with fail
          refine HK.out _ _ ?_ ?_ ?_
          · simp only [putAll, Act.put, List.setIfInBounds_toArray, List.set_cons_succ, List.set_cons_zero, Nat.reduceAdd, Nat.zero_add, List.take_succ_cons, List.take_zero, h6] <;> kernel_rfl
          · rfl
          · exact Bel.refl _
        · refine growOp2_k ?_; intro vs W hW hd K HK
          clear hd
          simp only [putAll, Act.put, List.setIfInBounds_toArray, List.set_cons_succ, List.set_cons_zero, Nat.reduceAdd, Nat.zero_add, List.take_succ_cons, List.take_zero]
          gi_wp2_with fail
          refine HK.out _ _ ?_ ?_ ?_
          · simp only [putAll, Act.put, List.setIfInBounds_toArray, List.set_cons_succ, List.set_cons_zero, Nat.reduceAdd, Nat.zero_add, List.take_succ_cons, List.take_zero] <;> kernel_rfl
          · rfl
          · exact Bel.refl _
        · refine growOp2_k ?_; intro vs W hW hd K HK
          clear hd
          simp only [putAll, Act.put, List.setIfInBounds_toArray, List.set_cons_succ, List.set_cons_zero, Nat.reduceAdd, Nat.zero_add, List.take_succ_cons, List.take_zero]
          gi_wp2_with fail
          refine HK.out _ _ ?_ ?_ ?_
          · simp only [putAll, Act.put, List.setIfInBounds_toArray, List.set_cons_succ, List.set_cons_zero, Nat.reduceAdd, Nat.zero_add, List.take_succ_cons, List.take_zero] <;> kernel_rfl
          · rfl
          · exact Bel.refl _
        · refine growOp2_k ?_; intro vs W hW hd K HK
          have h8 : (vs 8) = .pointer (some ⟨B, 0, none⟩) := hd 8 (by decide)
          clear hd
          simp only [putAll, Act.put, List.setIfInBounds_toArray, List.set_cons_succ, List.set_cons_zero, Nat.reduceAdd, Nat.zero_add, List.take_succ_cons, List.take_zero, h8]
          gi_wp2_with fail
          refine HK.out _ _ ?_ ?_ ?_
          · simp only [putAll, Act.put, List.setIfInBounds_toArray, List.set_cons_succ, List.set_cons_zero, Nat.reduceAdd, Nat.zero_add, List.take_succ_cons, List.take_zero, h8] <;> kernel_rfl
          · rfl
          · exact Bel.refl _
        · refine growOp2_k ?_; intro vs W hW hd K HK
          have h10 : (vs 10) = .pointer (some ⟨B, 0, none⟩) := hd 10 (by decide)
          have h9 : (vs 9) = .int .i64 (k : Int) := hd 9 (by decide)
          clear hd
          simp only [putAll, Act.put, List.setIfInBounds_toArray, List.set_cons_succ, List.set_cons_zero, Nat.reduceAdd, Nat.zero_add, List.take_succ_cons, List.take_zero, h10, h9]
          gi_wp2_with fail
          refine HK.out _ _ ?_ ?_ ?_
          · simp only [putAll, Act.put, List.setIfInBounds_toArray, List.set_cons_succ, List.set_cons_zero, Nat.reduceAdd, Nat.zero_add, List.take_succ_cons, List.take_zero, h10, h9] <;> kernel_rfl
          · rfl
          · exact Bel.refl _
        · refine growOp2_k ?_; intro vs W hW hd K HK
          have h11 : (vs 11) = .pointer (some ⟨B, k * 6, none⟩) := hd 11 (by decide)
          clear hd
          simp only [putAll, Act.put, List.setIfInBounds_toArray, List.set_cons_succ, List.set_cons_zero, Nat.reduceAdd, Nat.zero_add, List.take_succ_cons, List.take_zero, h11]
          gi_wp2_with fail
          refine HK.out _ _ ?_ ?_ ?_
          · simp only [putAll, Act.put, List.setIfInBounds_toArray, List.set_cons_succ, List.set_cons_zero, Nat.reduceAdd, Nat.zero_add, List.take_succ_cons, List.take_zero, h11] <;> kernel_rfl
          · rfl
          · exact Bel.refl _
        · refine growOp2_k ?_; intro vs W hW hd K HK
          have h12 : (vs 12) = .pointer (some ⟨B, k * 6 + 5, none⟩) := hd 12 (by decide)
          clear hd
          have e2 := hW.cell e2
          simp only [putAll, Act.put, List.setIfInBounds_toArray, List.set_cons_succ, List.set_cons_zero, Nat.reduceAdd, Nat.zero_add, List.take_succ_cons, List.take_zero, h12]
          gi_wp2_with fail
          refine HK.out _ _ ?_ ?_ ?_
          · simp only [putAll, Act.put, List.setIfInBounds_toArray, List.set_cons_succ, List.set_cons_zero, Nat.reduceAdd, Nat.zero_add, List.take_succ_cons, List.take_zero, h12] <;> kernel_rfl
          · rfl
          · exact Bel.refl _
        · refine growOp2_k ?_; intro vs W hW hd K HK
          have h7 : (vs 7) = .int .i64 (-x1) := hd 7 (by decide)
          have h13 : (vs 13) = .int .i64 x2 := hd 13 (by decide)
          clear hd
          simp only [putAll, Act.put, List.setIfInBounds_toArray, List.set_cons_succ, List.set_cons_zero, Nat.reduceAdd, Nat.zero_add, List.take_succ_cons, List.take_zero, h7, h13]
          gi_wp2_with fail
          refine HK.out _ _ ?_ ?_ ?_
          · simp only [putAll, Act.put, List.setIfInBounds_toArray, List.set_cons_succ, List.set_cons_zero, Nat.reduceAdd, Nat.zero_add, List.take_succ_cons, List.take_zero, h7, h13] <;> kernel_rfl
          · rfl
          · exact Bel.refl _
        · refine growOp2_k ?_; intro vs W hW hd K HK
          have h14 : (vs 14) = .agg #[.int .i64 (-x1), .int .i64 x2] := hd 14 (by decide)
          clear hd
          simp only [putAll, Act.put, List.setIfInBounds_toArray, List.set_cons_succ, List.set_cons_zero, Nat.reduceAdd, Nat.zero_add, List.take_succ_cons, List.take_zero, h14]
          gi_wp2_with fail
          refine HK.out _ _ ?_ ?_ ?_
          · simp only [putAll, Act.put, List.setIfInBounds_toArray, List.set_cons_succ, List.set_cons_zero, Nat.reduceAdd, Nat.zero_add, List.take_succ_cons, List.take_zero, h14] <;> kernel_rfl
          · exact ⟨_, rfl, C2.new _ _ _ _⟩
          · exact (Bel.refl _).alloc _
      · intro vs W hW hall
        have g0 : vs 0 = r := hall 0 (by decide)
        have g15 : ∃ b, vs 15 = .slice (some ⟨b, 0, none⟩) 1 1 ∧ C2 W b (.int .i64 (-x1)) (.int .i64 x2) := hall 15 (by decide)
        clear hall
        simp only [putAll, Act.put, List.setIfInBounds_toArray, List.set_cons_succ, List.set_cons_zero, Nat.reduceAdd, Nat.zero_add, List.take_succ_cons, List.take_zero, List.drop_succ_cons, List.drop_zero, g0]
        obtain ⟨nb, g15, hn2⟩ := g15
        simp only [g15]
        have HBW := Lib.hid (HB.out.trans hW)
        have HOW := Lib.hid (ownsRow_bel HO.out hW)
        have HGW := Lib.hid (HG.out.bel hW)
        have hnew : ∀ j u, [Value.int .i64 (-x1), Value.int .i64 x2][j]? = some u → W.cell? ((⟨nb, 0, none⟩ : Addr).add j) = some u := by
          intro j u hj
          rw [addr_add]
          rcases j with _ | _ | j
          · simp at hj; rw [← hj]; exact hn2.1
          · simp at hj; rw [← hj]; exact hn2.2
          · simp at hj
        have hm1 : k + 1 ≤ maxLen := by unfold maxLen; omega
        have hm2 : (k + 1) * 16 ≤ 140737488355328 := by omega
        have hm3 : w.heap.size ≤ W.heap.size := HBW.out.size
        clear hW g0 g15 hn2 e1 e2
        gi_wp2_with (gi_at_builtin; refine wpListIn_append_own _ rfl _ _ 42 rfl w.heap.size 54 i0 (.agg #[.int .i64 0, .int .i64 0]) 2 16 Try.underlying42 hi0 hz0 hz1 hz2 rfl (by decide) _ _ _ rfl HOW.out ⟨nb, 0, none⟩ 1 1 [.int .i64 (-x1), .int .i64 x2] rfl rfl hnew (by simp [Value.oneCell']) hm1 hm2 hm3 ?_; intro v' w3 hown2 hgrow _; have HO2 := Lib.hid hown2; have HB3 := Lib.hid (HBW.out.grown hgrow (fun k hk => (HOW.out.lt k hk).1)); clear hown2 hgrow hnew)
        go_roundw
        case rel => exact ⟨k + 1, _, rfl, by omega, by go_num, by rw [HS.out]; exact HO2.out, HG00.out.bel HB3.out, HB3.out⟩
        case measure => simp [intOf]; omega
    · obtain rfl : k = n := by omega
      have HO := Lib.hid ho
      have HB := Lib.hid hb
      clear ho hb hg hlt
      gi_wp2_with fail
      go_ret
      exact ⟨_, rfl, own_spans HO.out, HB.out⟩

end Go.Proofs.Ytpkadofgmhninaa
