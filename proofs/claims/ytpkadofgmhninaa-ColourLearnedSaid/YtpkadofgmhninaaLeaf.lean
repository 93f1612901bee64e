/- Small functions of the laws. -/
import Derived.Test.YtpkadofgmhninaaSurely
import Derived.Deep.QuietTactic
namespace Go.Proofs.Ytpkadofgmhninaa
open Go.RowKit

set_option maxHeartbeats 400000 in
theorem has_any (v : Value) (l : List Nat) (x : Nat) (w : World) (h : Cols w v l) :
    Calls Try.prog 24 #[v, .int .i64 (x : Int)] w fun e w' => e = .returned (.bool (l.contains x)) ∧ w = w' := by
  obtain ⟨a, c, rfl, h1, h2, -, h3⟩ := h
  simp only [List.length_map] at h1 h3 ⊢
  unfold maxLen at h2
  go_enter Try.func24, Try.ntmps24
  go_wp2
  go_loop [5] (fun i => ∃ k : Nat, k ≤ l.length ∧ i = .int .i64 k ∧ ∀ j, j < k → l.getD j 0 ≠ x) (fun i => l.length - (intOf i).toNat)
  case atStart => exact ⟨0, Nat.zero_le _, rfl, fun _ h => absurd h (Nat.not_lt_zero _)⟩
  case round =>
    obtain ⟨k, hk, rfl, hh⟩ := hrel
    have HH := Lib.hid hh
    clear hh
    by_cases hlt : k < l.length
    · obtain ⟨b, off, rfl, hcell⟩ := h3 k hlt
      rw [getD_map _ _ hlt] at hcell
      have hm : l.getD k 0 ∈ l := by rw [getD_lt _ _ _ hlt]; exact List.getElem_mem hlt
      have HM := Lib.hid hm
      clear h3 hm
      generalize hy : l.getD k 0 = y at *
      have HY := Lib.hid hy
      clear hy
      by_cases e : y = x
      · have E := Lib.hid e
        have hb : ((y : Int) == (x : Int)) = true := by rw [e]; exact beq_self_eq_true _
        clear e
        go_wp2
        go_ret
        refine ⟨ret_bool ?_, rfl⟩
        rw [← E.out]; simpa [List.contains_eq_mem] using HM.out
      · have hb : ((y : Int) == (x : Int)) = false := by rw [beq_eq_false_iff_ne]; omega
        have E := Lib.hid e
        clear e
        go_wp2
        go_round
        case rel =>
          refine ⟨k + 1, by omega, by go_num, fun j hj => ?_⟩
          by_cases e : j = k
          · rw [e, HY.out]; exact E.out
          · exact HH.out j (by omega)
        case measure => simp [intOf]; omega
    · go_wp2
      go_ret
      refine ⟨ret_bool ?_, rfl⟩
      symm
      rw [Bool.eq_false_iff]
      intro hm
      have hm : x ∈ l := by simpa [List.contains_eq_mem] using hm
      obtain ⟨j, hj, e⟩ := List.getElem_of_mem hm
      exact absurd (by rw [getD_lt _ _ _ hj]; exact e) (HH.out j (by omega))

set_option maxHeartbeats 400000 in
theorem span_any (x y : Int) (w : World) :
    Calls Try.prog 27 #[.int .i64 x, .int .i64 y] w fun e w' => e = .returned (.agg #[.int .i64 x, .int .i64 y]) ∧ Bel w w' := by
  have hb : ∀ o, Bel w (w.alloc o) := fun _ => (Bel.refl w).alloc _
  go_enter Try.func27, Try.ntmps27
  go_wp2
  exact bodyPost_ret (v := .agg #[.int .i64 x, .int .i64 y]) (by simp [results, Try.results27, go_sem]) rfl ⟨rfl, hb _⟩

set_option maxHeartbeats 800000 in
theorem order_same (v u : Value) (l : List Int) (w : World) (h : Ints w v l) (k : Ints w u l) :
    Calls Try.prog 68 #[v, u] w fun e w' => e = .returned (.int .i64 0) ∧ Bel w w' := by
  obtain ⟨a, c, rfl, h1, h2, -, h3⟩ := h
  obtain ⟨a', c', rfl, k1, k2, -, k3⟩ := k
  unfold maxLen at h2 k2
  have H3 := Lib.hid h3
  have K3 := Lib.hid k3
  clear h3 k3
  go_enter Try.func68, Try.ntmps68
  go_wp2
  go_loopw [5] (fun i wr => ∃ k : Nat, k ≤ l.length ∧ i = .int .i64 k ∧ Bel w wr) (fun i _ => l.length - (intOf i).toNat)
  case atStart => exact ⟨0, Nat.zero_le _, rfl, Bel.refl _⟩
  case round =>
    obtain ⟨k, hk, rfl, hb⟩ := hrel
    by_cases hlt : k < l.length
    · obtain ⟨b, off, rfl, hcell⟩ := H3.out k hlt
      obtain ⟨b', off', rfl, hcell'⟩ := K3.out k hlt
      replace hcell := hb.cell hcell
      replace hcell' := hb.cell hcell'
      have HB := Lib.hid hb
      clear hb
      generalize l.getD k 0 = y at *
      have hy : (y == y) = true := beq_self_eq_true _
      go_wp2_with fail
      go_quiet (fail)
      go_wp2_with fail
      go_roundw
      case rel => exact ⟨k + 1, by omega, by go_num, HB.out.trans (bel_drewN _ _)⟩
      case measure => simp [intOf]; omega
    · go_wp2_with fail
      go_ret
      exact ⟨ret_int (by omega), hb⟩

set_option maxHeartbeats 800000 in
theorem paint_any (a b c d x y : Int) (w : World) :
    Calls Try.prog 29 #[.agg #[.int .i64 a, .int .i64 b], .agg #[.int .i64 c, .int .i64 d], .int .i64 x, .int .i64 y] w fun e w' => e = .returned (.agg #[.int .i64 a, .int .i64 b, .int .i64 c, .int .i64 d, .int .i64 x, .int .i64 y]) ∧ Bel w w' := by
  have hb : ∀ o1 o2 o3, Bel w (((w.alloc o1).alloc o2).alloc o3) := fun _ _ _ => (((Bel.refl w).alloc _).alloc _).alloc _
  go_enter Try.func29, Try.ntmps29
  go_wp2
  exact bodyPost_ret (v := .agg #[.int .i64 a, .int .i64 b, .int .i64 c, .int .i64 d, .int .i64 x, .int .i64 y]) (by simp [results, Try.results29, go_sem]) rfl ⟨rfl, hb _ _ _⟩

set_option maxHeartbeats 400000 in
theorem ints_same (v u : Value) (l : List Int) (w : World) (h : Ints w v l) (k : Ints w u l) :
    Calls Try.prog 38 #[v, u] w fun e w' => e = .returned (.bool true) ∧ Bel w w' := by
  have hc := order_same v u l w h k
  clear h k
  go_enter Try.func38, Try.ntmps38
  go_wp2_with (go_at_call 68; refine hc.mono ?_; rintro e w1 ⟨rfl, hb⟩; have HB := Lib.hid hb; clear hb)
  go_ret
  exact ⟨rfl, HB.out⟩

theorem spans_len {W : World} {v : Value} {n : Nat} {lo hi : Nat → Int} (h : Spans W v n lo hi) : ∃ a c, v = .slice a n c := by
  obtain ⟨a, c, e, _⟩ := h; exact ⟨a, c, e⟩

set_option maxHeartbeats 800000 in
theorem spans_same (v u : Value) (n : Nat) (lo hi : Nat → Int) (w : World) (h : Spans w v n lo hi) (k : Spans w u n lo hi) :
    Calls Try.prog 39 #[v, u] w fun e w' => e = .returned (.bool true) ∧ Bel w w' := by
  obtain ⟨a, c, rfl, h1, h2, -, h3⟩ := h
  obtain ⟨a', c', rfl, k1, k2, -, k3⟩ := k
  unfold maxLen at h2 k2
  have H3 := Lib.hid h3
  have K3 := Lib.hid k3
  clear h3 k3
  go_enter Try.func39, Try.ntmps39
  go_wp2
  go_loopw [5] (fun i wr => ∃ k : Nat, k ≤ n ∧ i = .int .i64 k ∧ Bel w wr) (fun i _ => n - (intOf i).toNat)
  case atStart => exact ⟨0, Nat.zero_le _, rfl, Bel.refl _⟩
  case round =>
    obtain ⟨k, hk, rfl, hb⟩ := hrel
    by_cases hlt : k < n
    · obtain ⟨b, off, rfl, q0, q1⟩ := H3.out k hlt
      obtain ⟨b', off', rfl, q2, q3⟩ := K3.out k hlt
      replace q0 := hb.cell q0
      replace q1 := hb.cell q1
      replace q2 := hb.cell q2
      replace q3 := hb.cell q3
      have HB := Lib.hid hb
      clear hb
      generalize lo k = y at *
      generalize hi k = z at *
      have hy : (y == y) = true := beq_self_eq_true _
      have hz : (z == z) = true := beq_self_eq_true _
      go_wp2_with fail
      go_quiet (fail)
      go_wp2_with fail
      go_roundw
      case rel => exact ⟨k + 1, by omega, by go_num, HB.out.trans (bel_drewN _ _)⟩
      case measure => simp [intOf]; omega
    · go_wp2_with fail
      go_ret
      exact ⟨rfl, hb⟩

set_option maxRecDepth 100000 in
set_option maxHeartbeats 2000000 in
theorem rounds_same (v u : Value) (p : Rounds) (w : World) (h : Rnds w v p) (k : Rnds w u p) :
    Calls Try.prog 37 #[v, u] w fun e w' => e = .returned (.bool true) ∧ Bel w w' := by
  obtain ⟨a, c, rfl, h1, h2, -, h3⟩ := h
  obtain ⟨a', c', rfl, k1, k2, -, k3⟩ := k
  unfold maxLen at h2 k2
  have H3 := Lib.hid h3
  have K3 := Lib.hid k3
  clear h3 k3
  refine (callsIn_wide (n := 0)).1 (callsIn_of_wp Try.func37 rfl trivial ?_ rfl)
  simp only [Try.ntmps37, List.size_toArray, List.length_cons, List.length_nil, Nat.reduceAdd, Nat.reduceSub, Array.replicate_succ, Array.replicate_zero, List.push_toArray, List.append_toArray, List.nil_append, List.cons_append]
  gi_wp2
  gi_loopw [5] (fun i wr => ∃ k : Nat, k ≤ p.length ∧ i = .int .i64 k ∧ Bel w wr) (fun i _ => p.length - (intOf i).toNat)
  case atStart => exact ⟨0, Nat.zero_le _, rfl, Bel.refl _⟩
  case round =>
    obtain ⟨k, hk, rfl, hb⟩ := hrel
    by_cases hlt : k < p.length
    · obtain ⟨b, off, r1, rfl, hcell, hc1⟩ := H3.out k hlt
      obtain ⟨b', off', r2, rfl, hcell', hc2⟩ := K3.out k hlt
      replace hcell := hb.cell hcell
      replace hcell' := hb.cell hcell'
      have HB := Lib.hid hb
      have HC1 := Lib.hid hc1
      have HC2 := Lib.hid hc2
      clear hb hc1 hc2
      generalize p.getD k [] = r at *
      gi_wp2_with fail
      refine region_grow (fun i v W => match i with
        | 0 => v = .slice (some ⟨b, off, none⟩) p.length c
        | 1 => v = .int .i64 (k : Int)
        | 2 => v = .pointer (some ⟨b, off + k, none⟩)
        | 3 => v = r1
        | 4 => v = .slice (some ⟨b', off', none⟩) p.length c'
        | 5 => v = .int .i64 (k : Int)
        | 6 => v = .pointer (some ⟨b', off' + k, none⟩)
        | 7 => v = r2
        | 8 => v = .bool true
        | 9 => v = .bool false
        | _ => True) (by kernel_rfl) (by kernel_rfl) (by kernel_rfl) ?_ ?_ ?_
      · intro i v W W' h hb
        split at h <;> first | exact h | exact h.bel hb | exact fun e => (h e).bel hb | exact ⟨h.1.bel hb, h.2⟩
      · refine ⟨?_, ?_, ?_, ?_, ?_, ?_, ?_, ?_, ?_, ?_, trivial⟩
        · refine growOp_k ?_; intro vs W hW hd K HK
          clear hd
          simp only [putAll, Act.put, List.setIfInBounds_toArray, List.set_cons_succ, List.set_cons_zero, Nat.reduceAdd, Nat.zero_add]
          gi_wp2_with fail
          refine HK.out _ _ ?_ ?_ ?_
          · simp only [putAll, Act.put, List.setIfInBounds_toArray, List.set_cons_succ, List.set_cons_zero, Nat.reduceAdd, Nat.zero_add] <;> kernel_rfl
          · rfl
          · exact Bel.refl _
        · refine growOp_k ?_; intro vs W hW hd K HK
          clear hd
          simp only [putAll, Act.put, List.setIfInBounds_toArray, List.set_cons_succ, List.set_cons_zero, Nat.reduceAdd, Nat.zero_add]
          gi_wp2_with fail
          refine HK.out _ _ ?_ ?_ ?_
          · simp only [putAll, Act.put, List.setIfInBounds_toArray, List.set_cons_succ, List.set_cons_zero, Nat.reduceAdd, Nat.zero_add] <;> kernel_rfl
          · rfl
          · exact Bel.refl _
        · refine growOp_k ?_; intro vs W hW hd K HK
          have h0 : (vs 0) = .slice (some ⟨b, off, none⟩) p.length c := hd 0 (by decide)
          have h1 : (vs 1) = .int .i64 (k : Int) := hd 1 (by decide)
          clear hd
          simp only [putAll, Act.put, List.setIfInBounds_toArray, List.set_cons_succ, List.set_cons_zero, Nat.reduceAdd, Nat.zero_add, h0, h1]
          gi_wp2_with fail
          refine HK.out _ _ ?_ ?_ ?_
          · simp only [putAll, Act.put, List.setIfInBounds_toArray, List.set_cons_succ, List.set_cons_zero, Nat.reduceAdd, Nat.zero_add, h0, h1] <;> kernel_rfl
          · rfl
          · exact Bel.refl _
        · refine growOp_k ?_; intro vs W hW hd K HK
          have h2 : (vs 2) = .pointer (some ⟨b, off + k, none⟩) := hd 2 (by decide)
          clear hd
          have hc1 := hW.cell hcell
          simp only [putAll, Act.put, List.setIfInBounds_toArray, List.set_cons_succ, List.set_cons_zero, Nat.reduceAdd, Nat.zero_add, h2]
          gi_wp2_with fail
          refine HK.out _ _ ?_ ?_ ?_
          · simp only [putAll, Act.put, List.setIfInBounds_toArray, List.set_cons_succ, List.set_cons_zero, Nat.reduceAdd, Nat.zero_add, h2] <;> kernel_rfl
          · rfl
          · exact Bel.refl _
        · refine growOp_k ?_; intro vs W hW hd K HK
          clear hd
          simp only [putAll, Act.put, List.setIfInBounds_toArray, List.set_cons_succ, List.set_cons_zero, Nat.reduceAdd, Nat.zero_add]
          gi_wp2_with fail
          refine HK.out _ _ ?_ ?_ ?_
          · simp only [putAll, Act.put, List.setIfInBounds_toArray, List.set_cons_succ, List.set_cons_zero, Nat.reduceAdd, Nat.zero_add] <;> kernel_rfl
          · rfl
          · exact Bel.refl _
        · refine growOp_k ?_; intro vs W hW hd K HK
          clear hd
          simp only [putAll, Act.put, List.setIfInBounds_toArray, List.set_cons_succ, List.set_cons_zero, Nat.reduceAdd, Nat.zero_add]
          gi_wp2_with fail
          refine HK.out _ _ ?_ ?_ ?_
          · simp only [putAll, Act.put, List.setIfInBounds_toArray, List.set_cons_succ, List.set_cons_zero, Nat.reduceAdd, Nat.zero_add] <;> kernel_rfl
          · rfl
          · exact Bel.refl _
        · refine growOp_k ?_; intro vs W hW hd K HK
          have h4 : (vs 4) = .slice (some ⟨b', off', none⟩) p.length c' := hd 4 (by decide)
          have h5 : (vs 5) = .int .i64 (k : Int) := hd 5 (by decide)
          clear hd
          simp only [putAll, Act.put, List.setIfInBounds_toArray, List.set_cons_succ, List.set_cons_zero, Nat.reduceAdd, Nat.zero_add, h4, h5]
          gi_wp2_with fail
          refine HK.out _ _ ?_ ?_ ?_
          · simp only [putAll, Act.put, List.setIfInBounds_toArray, List.set_cons_succ, List.set_cons_zero, Nat.reduceAdd, Nat.zero_add, h4, h5] <;> kernel_rfl
          · rfl
          · exact Bel.refl _
        · refine growOp_k ?_; intro vs W hW hd K HK
          have h6 : (vs 6) = .pointer (some ⟨b', off' + k, none⟩) := hd 6 (by decide)
          clear hd
          have hc2 := hW.cell hcell'
          simp only [putAll, Act.put, List.setIfInBounds_toArray, List.set_cons_succ, List.set_cons_zero, Nat.reduceAdd, Nat.zero_add, h6]
          gi_wp2_with fail
          refine HK.out _ _ ?_ ?_ ?_
          · simp only [putAll, Act.put, List.setIfInBounds_toArray, List.set_cons_succ, List.set_cons_zero, Nat.reduceAdd, Nat.zero_add, h6] <;> kernel_rfl
          · rfl
          · exact Bel.refl _
        · refine growOp_k ?_; intro vs W hW hd K HK
          have h3 : (vs 3) = r1 := hd 3 (by decide)
          have h7 : (vs 7) = r2 := hd 7 (by decide)
          clear hd
          simp only [putAll, Act.put, List.setIfInBounds_toArray, List.set_cons_succ, List.set_cons_zero, Nat.reduceAdd, Nat.zero_add, h3, h7]
          gi_wp2_with fail
          refine ⟨trivial, rfl, (callsW (ints_same _ _ _ W (HC1.out.bel (HB.out.trans hW)) (HC2.out.bel (HB.out.trans hW)))).mono ?_⟩
          rintro e w1 ⟨rfl, hb⟩
          gi_wp2_with fail
          refine HK.out _ _ ?_ ?_ ?_
          · simp only [putAll, Act.put, List.setIfInBounds_toArray, List.set_cons_succ, List.set_cons_zero, Nat.reduceAdd, Nat.zero_add, h3, h7] <;> kernel_rfl
          · rfl
          · exact hb
        · refine growOp_k ?_; intro vs W hW hd K HK
          have h8 : (vs 8) = .bool true := hd 8 (by decide)
          clear hd
          simp only [putAll, Act.put, List.setIfInBounds_toArray, List.set_cons_succ, List.set_cons_zero, Nat.reduceAdd, Nat.zero_add, h8]
          gi_wp2_with fail
          refine HK.out _ _ ?_ ?_ ?_
          · simp only [putAll, Act.put, List.setIfInBounds_toArray, List.set_cons_succ, List.set_cons_zero, Nat.reduceAdd, Nat.zero_add, h8] <;> kernel_rfl
          · rfl
          · exact Bel.refl _
      · intro vs W hW hall
        have h9 : vs 9 = .bool false := hall 9 (by decide)
        clear hall
        simp only [putAll, Act.put, List.setIfInBounds_toArray, List.set_cons_succ, List.set_cons_zero, Nat.reduceAdd, Nat.zero_add, h9]
        have HBW := Lib.hid (HB.out.trans hW)
        clear hW
        gi_wp2_with fail
        go_roundw
        case rel => exact ⟨k + 1, by omega, by go_num, HBW.out⟩
        case measure => simp [intOf]; omega
    · gi_wp2_with fail
      go_ret
      exact ⟨rfl, hb⟩

end Go.Proofs.Ytpkadofgmhninaa
