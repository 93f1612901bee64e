/- slices.Concat, at the two types of the seat. -/
import Derived.Test.YtpkadofgmhninaaSl
namespace Go.Proofs.Ytpkadofgmhninaa
open Go.RowKit

theorem addr_add (b o j : Nat) : (⟨b, o, none⟩ : Addr).add j = ⟨b, o + j, none⟩ := by cases j <;> simp [Addr.add]
theorem flat_len (xss : List (List Value)) (k : Nat) (hk : k < xss.length) : (xss.take (k + 1)).flatten.length = (xss.take k).flatten.length + (xss.getD k []).length := by
  rw [List.take_succ_eq_append_getElem hk, List.flatten_append, getD_lt _ _ _ hk]; simp
theorem flat_snoc (xss : List (List Value)) (k : Nat) (hk : k < xss.length) : (xss.take (k + 1)).flatten = (xss.take k).flatten ++ xss.getD k [] := by
  rw [List.take_succ_eq_append_getElem hk, List.flatten_append, getD_lt _ _ _ hk]; simp
theorem flat_le (xss : List (List Value)) (k : Nat) : (xss.take k).flatten.length ≤ xss.flatten.length := by
  conv => rhs; rw [← List.take_append_drop k xss, List.flatten_append, List.length_append]
  omega

set_option maxHeartbeats 800000 in
set_option maxRecDepth 100000 in
theorem concat_int (v : Value) (xss : List (List Value)) (w : World) (h : Rows2 w v xss) (hone : ∀ xs, xs ∈ xss → ∀ u, u ∈ xs → u.oneCell' = true) (hlen : xss.flatten.length ≤ 1000000) :
    Calls Try.prog 46 #[v] w fun e w' => ∃ r, e = .returned r ∧ w'.ownsRow w.heap.size 3 1 r xss.flatten.length xss.flatten ∧ Bel w w' := by
  obtain ⟨i0, hi, hz0, hz1, hz2⟩ := info_parts Try.info3
  obtain ⟨vs, ⟨a, c, rfl, h1, h2, -, h3⟩, hvl, hrows⟩ := h
  rw [hvl] at h1 h3 ⊢
  unfold maxLen at h2
  have hel : ∀ k, k < xss.length → ∃ b off ea ec, a = some ⟨b, off, none⟩ ∧ w.cell? ⟨b, off + k, none⟩ = some (.slice ea (xss.getD k []).length ec) ∧ (xss.getD k []).length ≤ ec ∧ (ea = none → ec = 0) ∧
      (∀ W, Bel w W → ∀ ad, ea = some ad → ∀ j u, (xss.getD k [])[j]? = some u → W.cell? (ad.add j) = some u) ∧ (∀ u, u ∈ xss.getD k [] → u.oneCell' = true) := by
    intro k hk
    obtain ⟨b, off, e, q⟩ := h3 k hk
    obtain ⟨ea, ec, e2, q1, q2, q3, q4⟩ := hrows k hk
    refine ⟨b, off, ea, ec, e, by rw [q, e2], q1, q3, fun W hW ad hea j u hj => ?_, hone _ (by rw [getD_lt _ _ _ hk]; exact List.getElem_mem hk)⟩
    obtain ⟨hjl, hju⟩ := List.getElem?_eq_some_iff.1 hj
    obtain ⟨b', off', e', q'⟩ := q4 j hjl
    rw [hea] at e'
    injection e' with e'
    subst e'
    rw [getD_lt _ _ _ hjl] at q'
    have h9 := hW.cell q'
    rw [hju] at h9
    rw [addr_add]
    exact h9
  have HEL := Lib.hid hel
  have HFL := Lib.hid (flat_len xss)
  have HFS := Lib.hid (flat_snoc xss)
  have HLE := Lib.hid (flat_le xss)
  have HLEN := Lib.hid hlen
  clear h3 hrows hvl hone hel hlen
  go_enter Try.func46, Try.ntmps46
  go_wp2_with fail
  go_loop [3, 11] (fun s i => ∃ k : Nat, k ≤ xss.length ∧ i = .int .i64 k ∧ s = .int .i64 (((xss.take k).flatten.length : Nat) : Int)) (fun _ i => xss.length - (intOf i).toNat)
  case atStart => exact ⟨0, Nat.zero_le _, rfl, by simp⟩
  case round =>
    obtain ⟨k, hk, rfl, rfl⟩ := hrel
    by_cases hlt : k < xss.length
    · obtain ⟨b, off, ea, ec, rfl, hcell, q1, q2, q3, q4⟩ := HEL.out k hlt
      have hl1 := HFL.out k hlt
      have hl2 := HLE.out (k + 1)
      have hl3 := HLEN.out
      have HL := Lib.hid hl1
      have hb1 : (xss.take k).flatten.length + (xss.getD k []).length ≤ 1000000 := by omega
      clear hl1 hl2 hl3 q2 q3 q4
      generalize xss.getD k [] = xs at *
      generalize hsz : (xss.take k).flatten.length = m at *
      clear hsz
      go_wp2_with fail
      go_round
      case rel => exact ⟨k + 1, by omega, by go_num, by rw [HL.out]; go_num⟩
      case measure => simp [intOf]; omega
    · obtain rfl : k = xss.length := by omega
      have hN : (List.map List.length xss).sum ≤ 1000000 := by have := HLEN.out; rw [List.length_flatten] at this; exact this
      have hg := grow_int _ hN w
      have HG := Lib.hid hg
      clear hg hlt
      go_wp2_with fail
      generalize (List.map List.length xss).sum = N at *
      refine HG.out.mono ?_
      rintro e w1 ⟨v1, rfl, ho1, hb1⟩
      have HB1 := Lib.hid hb1
      have HO1 := Lib.hid ho1
      clear hb1 ho1
      go_wp2_with fail
      go_loopw [6, 27] (fun r i wr => ∃ k : Nat, k ≤ xss.length ∧ i = .int .i64 k ∧ wr.ownsRow w.heap.size 3 1 r (xss.take k).flatten.length (xss.take k).flatten ∧ Bel w wr) (fun _ i _ => xss.length - (intOf i).toNat)
      case atStart => exact ⟨0, Nat.zero_le _, rfl, by simpa using HO1.out, HB1.out⟩
      case round =>
        obtain ⟨k, hk2, rfl, ho, hb⟩ := hrel
        by_cases hlt : k < xss.length
        · obtain ⟨b, off, ea, ec, rfl, hcell, q1, q2, q3, q4⟩ := HEL.out k hlt
          have hl1 := HFL.out k hlt
          have hl2 := HLE.out (k + 1)
          have hl3 := HLEN.out
          have HL := Lib.hid hl1
          have HS := Lib.hid (HFS.out k hlt)
          have hb1 : (xss.take k).flatten.length + (xss.getD k []).length ≤ 1000000 := by omega
          have hcell2 := hb.cell hcell
          have q3' := q3 wr hb
          have hbs := hb.size
          have HO := Lib.hid ho
          have HB := Lib.hid hb
          have Q3 := Lib.hid q3'
          have Q4 := Lib.hid q4
          clear hl1 hl2 hl3 q3 q4 ho hb q3' hcell
          generalize xss.getD k [] = xs at *
          generalize (xss.take k).flatten = pre at *
          cases ea with
          | none =>
            have h0 := q2 rfl
            subst h0
            have hx0 : xs = [] := List.length_eq_zero_iff.1 (by omega)
            subst hx0
            go_wp2_with (at_builtin; refine wpList_append_own_none rfl _ _ 32 rfl w.heap.size 3 i0 1 Try.underlying32 hi _ _ _ rfl HO.out rfl ?_)
            go_roundw
            case rel => exact ⟨k + 1, by omega, by go_num, by rw [HS.out, List.append_nil]; exact HO.out, HB.out⟩
            case measure => simp [intOf]; omega
          | some ad =>
            have hm1 : pre.length + xs.length ≤ maxLen := by unfold maxLen; omega
            have hm2 : (pre.length + xs.length) * 8 ≤ 140737488355328 := by omega
            go_wp2_with (at_builtin; refine wpList_append_own _ rfl _ _ 32 rfl w.heap.size 3 i0 (.int .i64 0) 1 8 Try.underlying32 hi hz0 hz1 hz2 rfl (by decide) _ _ _ rfl HO.out ad xs.length ec xs rfl (by simp) (Q3.out ad rfl) Q4.out hm1 hm2 hbs ?_; intro v' w2 hown2 hgrow _; have HO2 := Lib.hid hown2; have HB2 := Lib.hid (HB.out.grown hgrow (fun k hk => (HO.out.lt k hk).1)); clear hown2 hgrow)
            go_roundw
            case rel => exact ⟨k + 1, by omega, by go_num, by rw [HS.out, List.length_append]; exact HO2.out, HB2.out⟩
            case measure => simp [intOf]; omega
        · obtain rfl : k = xss.length := by omega
          have HT := Lib.hid (show xss.take xss.length = xss from List.take_length)
          have HO := Lib.hid ho
          have HB := Lib.hid hb
          clear ho hb hlt
          go_wp2_with fail
          go_ret
          exact ⟨_, rfl, by have h := HO.out; rw [HT.out] at h; exact h, HB.out⟩

set_option maxHeartbeats 800000 in
set_option maxRecDepth 100000 in
theorem concat_ints (v : Value) (xss : List (List Value)) (w : World) (h : Rows2 w v xss) (hone : ∀ xs, xs ∈ xss → ∀ u, u ∈ xs → u.oneCell' = true) (hlen : xss.flatten.length ≤ 1000000) :
    Calls Try.prog 104 #[v] w fun e w' => ∃ r, e = .returned r ∧ w'.ownsRow w.heap.size 32 1 r xss.flatten.length xss.flatten ∧ Bel w w' := by
  obtain ⟨i0, hi, hz0, hz1, hz2⟩ := info_parts Try.info32
  obtain ⟨vs, ⟨a, c, rfl, h1, h2, -, h3⟩, hvl, hrows⟩ := h
  rw [hvl] at h1 h3 ⊢
  unfold maxLen at h2
  have hel : ∀ k, k < xss.length → ∃ b off ea ec, a = some ⟨b, off, none⟩ ∧ w.cell? ⟨b, off + k, none⟩ = some (.slice ea (xss.getD k []).length ec) ∧ (xss.getD k []).length ≤ ec ∧ (ea = none → ec = 0) ∧
      (∀ W, Bel w W → ∀ ad, ea = some ad → ∀ j u, (xss.getD k [])[j]? = some u → W.cell? (ad.add j) = some u) ∧ (∀ u, u ∈ xss.getD k [] → u.oneCell' = true) := by
    intro k hk
    obtain ⟨b, off, e, q⟩ := h3 k hk
    obtain ⟨ea, ec, e2, q1, q2, q3, q4⟩ := hrows k hk
    refine ⟨b, off, ea, ec, e, by rw [q, e2], q1, q3, fun W hW ad hea j u hj => ?_, hone _ (by rw [getD_lt _ _ _ hk]; exact List.getElem_mem hk)⟩
    obtain ⟨hjl, hju⟩ := List.getElem?_eq_some_iff.1 hj
    obtain ⟨b', off', e', q'⟩ := q4 j hjl
    rw [hea] at e'
    injection e' with e'
    subst e'
    rw [getD_lt _ _ _ hjl] at q'
    have h9 := hW.cell q'
    rw [hju] at h9
    rw [addr_add]
    exact h9
  have HEL := Lib.hid hel
  have HFL := Lib.hid (flat_len xss)
  have HFS := Lib.hid (flat_snoc xss)
  have HLE := Lib.hid (flat_le xss)
  have HLEN := Lib.hid hlen
  clear h3 hrows hvl hone hel hlen
  go_enter Try.func104, Try.ntmps104
  go_wp2_with fail
  go_loop [3, 11] (fun s i => ∃ k : Nat, k ≤ xss.length ∧ i = .int .i64 k ∧ s = .int .i64 (((xss.take k).flatten.length : Nat) : Int)) (fun _ i => xss.length - (intOf i).toNat)
  case atStart => exact ⟨0, Nat.zero_le _, rfl, by simp⟩
  case round =>
    obtain ⟨k, hk, rfl, rfl⟩ := hrel
    by_cases hlt : k < xss.length
    · obtain ⟨b, off, ea, ec, rfl, hcell, q1, q2, q3, q4⟩ := HEL.out k hlt
      have hl1 := HFL.out k hlt
      have hl2 := HLE.out (k + 1)
      have hl3 := HLEN.out
      have HL := Lib.hid hl1
      have hb1 : (xss.take k).flatten.length + (xss.getD k []).length ≤ 1000000 := by omega
      clear hl1 hl2 hl3 q2 q3 q4
      generalize xss.getD k [] = xs at *
      generalize hsz : (xss.take k).flatten.length = m at *
      clear hsz
      go_wp2_with fail
      go_round
      case rel => exact ⟨k + 1, by omega, by go_num, by rw [HL.out]; go_num⟩
      case measure => simp [intOf]; omega
    · obtain rfl : k = xss.length := by omega
      have hN : (List.map List.length xss).sum ≤ 1000000 := by have := HLEN.out; rw [List.length_flatten] at this; exact this
      have hg := grow_ints _ hN w
      have HG := Lib.hid hg
      clear hg hlt
      go_wp2_with fail
      generalize (List.map List.length xss).sum = N at *
      refine HG.out.mono ?_
      rintro e w1 ⟨v1, rfl, ho1, hb1⟩
      have HB1 := Lib.hid hb1
      have HO1 := Lib.hid ho1
      clear hb1 ho1
      go_wp2_with fail
      go_loopw [6, 27] (fun r i wr => ∃ k : Nat, k ≤ xss.length ∧ i = .int .i64 k ∧ wr.ownsRow w.heap.size 32 1 r (xss.take k).flatten.length (xss.take k).flatten ∧ Bel w wr) (fun _ i _ => xss.length - (intOf i).toNat)
      case atStart => exact ⟨0, Nat.zero_le _, rfl, by simpa using HO1.out, HB1.out⟩
      case round =>
        obtain ⟨k, hk2, rfl, ho, hb⟩ := hrel
        by_cases hlt : k < xss.length
        · obtain ⟨b, off, ea, ec, rfl, hcell, q1, q2, q3, q4⟩ := HEL.out k hlt
          have hl1 := HFL.out k hlt
          have hl2 := HLE.out (k + 1)
          have hl3 := HLEN.out
          have HL := Lib.hid hl1
          have HS := Lib.hid (HFS.out k hlt)
          have hb1 : (xss.take k).flatten.length + (xss.getD k []).length ≤ 1000000 := by omega
          have hcell2 := hb.cell hcell
          have q3' := q3 wr hb
          have hbs := hb.size
          have HO := Lib.hid ho
          have HB := Lib.hid hb
          have Q3 := Lib.hid q3'
          have Q4 := Lib.hid q4
          clear hl1 hl2 hl3 q3 q4 ho hb q3' hcell
          generalize xss.getD k [] = xs at *
          generalize (xss.take k).flatten = pre at *
          cases ea with
          | none =>
            have h0 := q2 rfl
            subst h0
            have hx0 : xs = [] := List.length_eq_zero_iff.1 (by omega)
            subst hx0
            go_wp2_with (at_builtin; refine wpList_append_own_none rfl _ _ 35 rfl w.heap.size 32 i0 1 Try.underlying35 hi _ _ _ rfl HO.out rfl ?_)
            go_roundw
            case rel => exact ⟨k + 1, by omega, by go_num, by rw [HS.out, List.append_nil]; exact HO.out, HB.out⟩
            case measure => simp [intOf]; omega
          | some ad =>
            have hm1 : pre.length + xs.length ≤ maxLen := by unfold maxLen; omega
            have hm2 : (pre.length + xs.length) * 24 ≤ 140737488355328 := by omega
            go_wp2_with (at_builtin; refine wpList_append_own _ rfl _ _ 35 rfl w.heap.size 32 i0 (.slice none 0 0) 1 24 Try.underlying35 hi hz0 hz1 hz2 rfl (by decide) _ _ _ rfl HO.out ad xs.length ec xs rfl (by simp) (Q3.out ad rfl) Q4.out hm1 hm2 hbs ?_; intro v' w2 hown2 hgrow _; have HO2 := Lib.hid hown2; have HB2 := Lib.hid (HB.out.grown hgrow (fun k hk => (HO.out.lt k hk).1)); clear hown2 hgrow)
            go_roundw
            case rel => exact ⟨k + 1, by omega, by go_num, by rw [HS.out, List.length_append]; exact HO2.out, HB2.out⟩
            case measure => simp [intOf]; omega
        · obtain rfl : k = xss.length := by omega
          have HT := Lib.hid (show xss.take xss.length = xss from List.take_length)
          have HO := Lib.hid ho
          have HB := Lib.hid hb
          clear ho hb hlt
          go_wp2_with fail
          go_ret
          exact ⟨_, rfl, by have h := HO.out; rw [HT.out] at h; exact h, HB.out⟩

end Go.Proofs.Ytpkadofgmhninaa
