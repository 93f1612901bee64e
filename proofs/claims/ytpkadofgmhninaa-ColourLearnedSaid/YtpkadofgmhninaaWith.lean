/- With: where all is valid. -/
import Derived.Test.YtpkadofgmhninaaFewest
namespace Go.Proofs.Ytpkadofgmhninaa
open Go.RowKit
attribute [local go_sem] Oper.semAt_some

theorem concat_one (v : Value) (l : List Nat) (k : Nat) (W : World) (h : Rows2 W v [valsOf l, [.int .i64 (k : Int)]]) (hl : l.length ≤ 5) :
    Calls Try.prog 46 #[v] W fun e w' => ∃ r, e = .returned r ∧ Cols w' r (l ++ [k]) ∧ Bel W w' := by
  have e1 : ([valsOf l, [.int .i64 (k : Int)]] : List (List Value)).flatten = valsOf (l ++ [k]) := by simp [valsOf]
  refine (concat_int v _ W h (fun xs hxs u hu => ?_) (by rw [e1]; simp [valsOf]; omega)).mono ?_
  · simp only [List.mem_cons, List.not_mem_nil, or_false] at hxs
    rcases hxs with rfl | rfl
    · obtain ⟨c, _, rfl⟩ := List.mem_map.1 hu; rfl
    · simp at hu; subst hu; rfl
  · rintro e w' ⟨r, rfl, ho, hb⟩
    rw [e1] at ho
    exact ⟨r, rfl, own_cols (by simpa [valsOf] using ho), hb⟩

def withTo (s : CSet) (l : List Nat) (k : Nat) : List Nat := (List.range k).filter fun c => !l.contains c && s.can (l ++ [c])
theorem withTo_succ (s : CSet) (l : List Nat) (k : Nat) : withTo s l (k + 1) = withTo s l k ++ (if (!l.contains k && s.can (l ++ [k])) = true then [k] else []) := by
  unfold withTo
  rw [List.range_succ, List.filter_append, List.filter_cons]
  cases (!l.contains k && s.can (l ++ [k])) <;> simp
theorem withTo_len (s : CSet) (l : List Nat) (k : Nat) : (withTo s l k).length ≤ k := by
  have := List.length_filter_le (fun c => !l.contains c && s.can (l ++ [c])) (List.range k)
  rw [List.length_range] at this; exact this

set_option maxRecDepth 100000 in
set_option maxHeartbeats 8000000 in
theorem with_any (s : CSet) (hs : s.Ok) (v lv : Value) (l : List Nat) (w : World) (hv : SetV w v s) (hl : Cols w lv l) (ha : Asc s.paints.length l) :
    Calls Try.prog 23 #[v, lv] w fun e w' => ∃ r, e = .returned (.tuple #[r, .int .i64 0]) ∧ Cols w' r (s.withOf l) ∧ Bel w w' := by
  obtain ⟨i0, hi, hz0, hz1, hz2⟩ := info_parts Try.info3
  have k1 := fun W (hW : Bel w W) => checkColours_yes s hs v lv l W (hv.bel hW) (hl.bel hW) ha
  have kc := fun x W (hW : Bel w W) => contains_any lv l x W (hl.bel hW)
  have hlen := Nat.le_trans ha.len hs.n5
  have hn5 := hs.n5
  obtain ⟨pv, ev, rfl, h1, h2⟩ := hv
  have kk := fun k (hk : k < s.paints.length) (hb : (!l.contains k) = true) W x y (hW : Bel w W) (hx : Cols W (.slice x (l.length + 1) y) (l ++ [k])) => can_any s hs (l ++ [k])
    ⟨fun c hc => by
      rcases List.mem_append.1 hc with h | h
      · exact ha.1 c h
      · simp at h; subst h; exact hk, by
      have hb' : k ∉ l := by simpa [List.contains_eq_mem] using hb
      rw [List.nodup_append]
      exact ⟨ha.cl.2, by simp, fun a h1 b h2 e => by simp at h2; subst h2; subst e; exact hb' h1⟩⟩ pv ev (.slice x (l.length + 1) y) W ⟨Nat.zero_le _, h1.bel hW, h2.bel hW, hx⟩
  have c4 := C4.new w pv (.int .i64 s.near) (.int .i64 s.give) ev 31
  have K1 := Lib.hid k1
  have KC0 := Lib.hid kc
  have KK := Lib.hid kk
  have C := Lib.hid c4
  have HL := Lib.hid hl
  obtain ⟨pa, pc, rfl, -, hpl, -, -⟩ := h1
  obtain ⟨ea, ec, rfl, -, -, -, -⟩ := h2
  obtain ⟨la, lc, rfl, hl1, hl2, -, -⟩ := hl
  unfold maxLen at hpl hl2
  rw [List.length_map] at hl1
  obtain ⟨c0, c1, c2, c3⟩ := c4
  simp only [List.length_map] at K1 KC0 KK HL ⊢
  have HSN := Lib.hid (withTo_succ s l)
  have HWL := Lib.hid (withTo_len s l)
  clear ha hs k1 kc kk
  refine (callsIn_wide (n := 0)).1 (callsIn_of_wp Try.func23 rfl trivial ?_ rfl)
  simp only [Try.ntmps23, List.size_toArray, List.length_cons, List.length_nil, Nat.reduceAdd, Nat.reduceSub, Array.replicate_succ, Array.replicate_zero, List.push_toArray, List.append_toArray, List.nil_append, List.cons_append]
  gi_wp2_with fail
  refine ⟨trivial, rfl, (callsW (K1.out _ ((Bel.refl w).alloc _))).mono ?_⟩
  rintro e w1 ⟨rfl, hb⟩
  have HC := Lib.hid (C.out.bel hb)
  have HB1 := Lib.hid (((Bel.refl w).alloc _).trans hb)
  clear c0 c1 c2 c3 hb
  obtain ⟨c0, c1, c2, c3⟩ := HC.out
  gi_wp2_with fail
  gi_loopw [7, 18] (fun r i wr => ∃ k : Nat, k ≤ s.paints.length ∧ i = .int .i64 k ∧ wr.ownsRow w1.heap.size 3 1 r (withTo s l k).length (valsOf (withTo s l k)) ∧ Bel w1 wr) (fun _ i _ => s.paints.length - (intOf i).toNat)
  case atStart => exact ⟨0, Nat.zero_le _, rfl, ⟨rfl, .inl ⟨rfl, rfl⟩⟩, Bel.refl _⟩
  case round =>
    clear c0 c1 c2 c3
    obtain ⟨k, hk, rfl, ho, hb⟩ := hrel
    have HC4 := Lib.hid (HC.out.bel hb)
    have HB := Lib.hid (HB1.out.trans hb)
    have HB0 := Lib.hid hb
    have HO := Lib.hid ho
    clear hb ho
    by_cases hlt : k < s.paints.length
    · have HS := Lib.hid (HSN.out k)
      have hRl := HWL.out k
      have KC := Lib.hid (KC0.out k)
      have KCAN := Lib.hid (KK.out k hlt)
      have HK1 : k ≤ 5 := by omega
      generalize withTo s l k = R at *
      generalize s.can (l ++ [k]) = cn at *
      generalize l.contains k = b at *
      gi_wp2_with fail
      refine region_grow (fun i v W => match i with
        | 0 => v = .slice la l.length lc
        | 1 => v = .int .i64 (k : Int)
        | 2 => v = .bool b
        | 3 => v = .bool (!b)
        | 4 => v = .bool (!b)
        | 5 => (!b) = true → v = .agg #[.slice pa s.paints.length pc, .int .i64 s.near, .int .i64 s.give, .slice ea s.eats.length ec]
        | 6 => (!b) = true → v = .slice la l.length lc
        | 7 => (!b) = true → v = .int .i64 (k : Int)
        | 8 => (!b) = true → Vals W v [.int .i64 (k : Int)]
        | 9 => (!b) = true → Rows2 W v [valsOf l, [.int .i64 (k : Int)]]
        | 10 => (!b) = true → Cols W v (l ++ [k])
        | 11 => (!b) = true → ∃ x y, v = .agg #[.slice pa s.paints.length pc, .int .i64 s.near, .int .i64 s.give, .slice ea s.eats.length ec, .slice x (l.length + 1) y] ∧ Cols W (.slice x (l.length + 1) y) (l ++ [k])
        | 12 => (!b) = true → v = .bool cn
        | 13 => v = .bool (!b && cn)
        | _ => True) (by kernel_rfl) (by kernel_rfl) (by kernel_rfl) ?_ ?_ ?_
      · intro i v W W' h hb
        split at h <;> first | exact h | exact h.bel hb | exact fun e => (h e).bel hb | exact ⟨h.1.bel hb, h.2⟩ | exact fun e => by obtain ⟨x, y, h1, h2⟩ := h e; exact ⟨x, y, h1, h2.bel hb⟩
      · refine ⟨?_, ?_, ?_, ?_, ?_, ?_, ?_, ?_, ?_, ?_, ?_, ?_, ?_, ?_, trivial⟩
        · refine growOp_k ?_; intro vs W hW hd K HK
          clear hd
          simp only [putAll, Act.put, List.setIfInBounds_toArray, List.set_cons_succ, List.set_cons_zero, Nat.reduceAdd, Nat.zero_add]
          gi_wp2_with fail
          refine HK.out _ _ ?_ ?_ ?_
          · simp only [putAll, Act.put, List.setIfInBounds_toArray, List.set_cons_succ, List.set_cons_zero, Nat.reduceAdd, Nat.zero_add] <;> kernel_rfl
          · rfl
          · exact Bel.refl _
        · refine growOp_k ?_; intro vs W hW hd K HK
          clear hd
          simp only [putAll, Act.put, List.setIfInBounds_toArray, List.set_cons_succ, List.set_cons_zero, Nat.reduceAdd, Nat.zero_add]
          gi_wp2_with fail
          refine HK.out _ _ ?_ ?_ ?_
          · simp only [putAll, Act.put, List.setIfInBounds_toArray, List.set_cons_succ, List.set_cons_zero, Nat.reduceAdd, Nat.zero_add] <;> kernel_rfl
          · rfl
          · exact Bel.refl _
        · refine growOp_k ?_; intro vs W hW hd K HK
          have h0 : (vs 0) = .slice la l.length lc := hd 0 (by decide)
          have h1 : (vs 1) = .int .i64 (k : Int) := hd 1 (by decide)
          clear hd
          simp only [putAll, Act.put, List.setIfInBounds_toArray, List.set_cons_succ, List.set_cons_zero, Nat.reduceAdd, Nat.zero_add, h0, h1]
          gi_wp2_with fail
          refine ⟨trivial, rfl, (callsW (KC.out W (HB.out.trans hW))).mono ?_⟩
          rintro e w1 ⟨rfl, hb⟩
          replace hb : Bel W w1 := hb ▸ Bel.refl _
          gi_wp2_with fail
          refine HK.out _ _ ?_ ?_ ?_
          · simp only [putAll, Act.put, List.setIfInBounds_toArray, List.set_cons_succ, List.set_cons_zero, Nat.reduceAdd, Nat.zero_add, h0, h1] <;> kernel_rfl
          · rfl
          · exact hb
        · refine growOp_k ?_; intro vs W hW hd K HK
          have h2 : (vs 2) = .bool b := hd 2 (by decide)
          clear hd
          simp only [putAll, Act.put, List.setIfInBounds_toArray, List.set_cons_succ, List.set_cons_zero, Nat.reduceAdd, Nat.zero_add, h2]
          gi_wp2_with fail
          refine HK.out _ _ ?_ ?_ ?_
          · simp only [putAll, Act.put, List.setIfInBounds_toArray, List.set_cons_succ, List.set_cons_zero, Nat.reduceAdd, Nat.zero_add, h2] <;> kernel_rfl
          · rfl
          · exact Bel.refl _
        · refine growOp_k ?_; intro vs W hW hd K HK
          have h3 : (vs 3) = .bool (!b) := hd 3 (by decide)
          clear hd
          simp only [putAll, Act.put, List.setIfInBounds_toArray, List.set_cons_succ, List.set_cons_zero, Nat.reduceAdd, Nat.zero_add, h3]
          gi_wp2_with fail
          refine HK.out _ _ ?_ ?_ ?_
          · simp only [putAll, Act.put, List.setIfInBounds_toArray, List.set_cons_succ, List.set_cons_zero, Nat.reduceAdd, Nat.zero_add, h3] <;> kernel_rfl
          · rfl
          · exact Bel.refl _
        · refine growOp_k ?_; intro vs W hW hd K HK
          have h4 : (vs 4) = .bool (!b) := hd 4 (by decide)
          clear hd
          cases hc : ((!b) : Bool)
          · rw [hc] at h4
            simp only [putAll, Act.put, List.setIfInBounds_toArray, List.set_cons_succ, List.set_cons_zero, Nat.reduceAdd, Nat.zero_add, h4]
            gi_wp2_with fail
            refine HK.out _ _ ?_ ?_ ?_
            · simp only [putAll, Act.put, List.setIfInBounds_toArray, List.set_cons_succ, List.set_cons_zero, Nat.reduceAdd, Nat.zero_add, h4] <;> kernel_rfl
            · intro h; rw [hc] at h; cases h
            · exact Bel.refl _
          · rw [hc] at h4
            simp only [putAll, Act.put, List.setIfInBounds_toArray, List.set_cons_succ, List.set_cons_zero, Nat.reduceAdd, Nat.zero_add, h4]
            obtain ⟨c0, c1, c2, c3⟩ := HC4.out.bel hW
            gi_wp2_with fail
            refine HK.out _ _ ?_ ?_ ?_
            · simp only [putAll, Act.put, List.setIfInBounds_toArray, List.set_cons_succ, List.set_cons_zero, Nat.reduceAdd, Nat.zero_add, h4] <;> kernel_rfl
            · intro _; rfl
            · exact Bel.refl _
        · refine growOp_k ?_; intro vs W hW hd K HK
          have h4 : (vs 4) = .bool (!b) := hd 4 (by decide)
          clear hd
          cases hc : ((!b) : Bool)
          · rw [hc] at h4
            simp only [putAll, Act.put, List.setIfInBounds_toArray, List.set_cons_succ, List.set_cons_zero, Nat.reduceAdd, Nat.zero_add, h4]
            gi_wp2_with fail
            refine HK.out _ _ ?_ ?_ ?_
            · simp only [putAll, Act.put, List.setIfInBounds_toArray, List.set_cons_succ, List.set_cons_zero, Nat.reduceAdd, Nat.zero_add, h4] <;> kernel_rfl
            · intro h; rw [hc] at h; cases h
            · exact Bel.refl _
          · rw [hc] at h4
            simp only [putAll, Act.put, List.setIfInBounds_toArray, List.set_cons_succ, List.set_cons_zero, Nat.reduceAdd, Nat.zero_add, h4]
            gi_wp2_with fail
            refine HK.out _ _ ?_ ?_ ?_
            · simp only [putAll, Act.put, List.setIfInBounds_toArray, List.set_cons_succ, List.set_cons_zero, Nat.reduceAdd, Nat.zero_add, h4] <;> kernel_rfl
            · intro _; rfl
            · exact Bel.refl _
        · refine growOp_k ?_; intro vs W hW hd K HK
          have h4 : (vs 4) = .bool (!b) := hd 4 (by decide)
          clear hd
          cases hc : ((!b) : Bool)
          · rw [hc] at h4
            simp only [putAll, Act.put, List.setIfInBounds_toArray, List.set_cons_succ, List.set_cons_zero, Nat.reduceAdd, Nat.zero_add, h4]
            gi_wp2_with fail
            refine HK.out _ _ ?_ ?_ ?_
            · simp only [putAll, Act.put, List.setIfInBounds_toArray, List.set_cons_succ, List.set_cons_zero, Nat.reduceAdd, Nat.zero_add, h4] <;> kernel_rfl
            · intro h; rw [hc] at h; cases h
            · exact Bel.refl _
          · rw [hc] at h4
            simp only [putAll, Act.put, List.setIfInBounds_toArray, List.set_cons_succ, List.set_cons_zero, Nat.reduceAdd, Nat.zero_add, h4]
            gi_wp2_with fail
            refine HK.out _ _ ?_ ?_ ?_
            · simp only [putAll, Act.put, List.setIfInBounds_toArray, List.set_cons_succ, List.set_cons_zero, Nat.reduceAdd, Nat.zero_add, h4] <;> kernel_rfl
            · intro _; rfl
            · exact Bel.refl _
        · refine growOp_k ?_; intro vs W hW hd K HK
          have h7 : (!b) = true → (vs 7) = .int .i64 (k : Int) := hd 7 (by decide)
          have h4 : (vs 4) = .bool (!b) := hd 4 (by decide)
          clear hd
          cases hc : ((!b) : Bool)
          · rw [hc] at h4
            simp only [putAll, Act.put, List.setIfInBounds_toArray, List.set_cons_succ, List.set_cons_zero, Nat.reduceAdd, Nat.zero_add, h4]
            gi_wp2_with fail
            refine HK.out _ _ ?_ ?_ ?_
            · simp only [putAll, Act.put, List.setIfInBounds_toArray, List.set_cons_succ, List.set_cons_zero, Nat.reduceAdd, Nat.zero_add, h4] <;> kernel_rfl
            · intro h; rw [hc] at h; cases h
            · exact Bel.refl _
          · rw [hc] at h4
            replace h7 := h7 hc
            simp only [putAll, Act.put, List.setIfInBounds_toArray, List.set_cons_succ, List.set_cons_zero, Nat.reduceAdd, Nat.zero_add, h7, h4]
            gi_wp2_with fail
            refine HK.out _ _ ?_ ?_ ?_
            · simp only [putAll, Act.put, List.setIfInBounds_toArray, List.set_cons_succ, List.set_cons_zero, Nat.reduceAdd, Nat.zero_add, h7, h4] <;> kernel_rfl
            · intro _; exact vals_one _ _ _
            · exact (Bel.refl _).alloc _
        · refine growOp_k ?_; intro vs W hW hd K HK
          have h6 : (!b) = true → (vs 6) = .slice la l.length lc := hd 6 (by decide)
          have h8 : (!b) = true → Vals W (vs 8) [.int .i64 (k : Int)] := hd 8 (by decide)
          have h4 : (vs 4) = .bool (!b) := hd 4 (by decide)
          clear hd
          cases hc : (!b : Bool)
          · rw [hc] at h4
            simp only [putAll, Act.put, List.setIfInBounds_toArray, List.set_cons_succ, List.set_cons_zero, Nat.reduceAdd, Nat.zero_add, h4]
            gi_wp2_with fail
            refine HK.out _ _ ?_ ?_ ?_
            · simp only [putAll, Act.put, List.setIfInBounds_toArray, List.set_cons_succ, List.set_cons_zero, Nat.reduceAdd, Nat.zero_add, h4] <;> kernel_rfl
            · intro h; rw [hc] at h; cases h
            · exact Bel.refl _
          · rw [hc] at h4
            replace h6 := h6 hc
            replace h8 := h8 hc
            have H8 := Lib.hid h8
            simp only [putAll, Act.put, List.setIfInBounds_toArray, List.set_cons_succ, List.set_cons_zero, Nat.reduceAdd, Nat.zero_add, h4, h6]
            obtain ⟨a3, c3, e3, -, -, -, -⟩ := h8
            rw [e3] at H8
            simp only [e3]
            gi_wp2_with fail
            refine HK.out _ _ ?_ ?_ ?_
            · simp only [putAll, Act.put, List.setIfInBounds_toArray, List.set_cons_succ, List.set_cons_zero, Nat.reduceAdd, Nat.zero_add, h4, h6, e3] <;> kernel_rfl
            · intro _; exact rows2_two _ _ _ _ _ _ (HL.out.bel (HB.out.trans hW)).vals H8.out
            · exact (Bel.refl _).alloc _
        · refine growOp_k ?_; intro vs W hW hd K HK
          have h9 : (!b) = true → Rows2 W (vs 9) [valsOf l, [.int .i64 (k : Int)]] := hd 9 (by decide)
          have h4 : (vs 4) = .bool (!b) := hd 4 (by decide)
          clear hd
          cases hc : (!b : Bool)
          · rw [hc] at h4
            simp only [putAll, Act.put, List.setIfInBounds_toArray, List.set_cons_succ, List.set_cons_zero, Nat.reduceAdd, Nat.zero_add, h4]
            gi_wp2_with fail
            refine ⟨trivial, ?_⟩
            gi_wp2_with fail
            refine HK.out _ _ ?_ ?_ ?_
            · simp only [putAll, Act.put, List.setIfInBounds_toArray, List.set_cons_succ, List.set_cons_zero, Nat.reduceAdd, Nat.zero_add, h4] <;> kernel_rfl
            · intro h; rw [hc] at h; cases h
            · exact Bel.refl _
          · rw [hc] at h4
            replace h9 := h9 hc
            simp only [putAll, Act.put, List.setIfInBounds_toArray, List.set_cons_succ, List.set_cons_zero, Nat.reduceAdd, Nat.zero_add, h4]
            have H9 := Lib.hid h9
            obtain ⟨_, ⟨a4, c4, e4, -, -, -, -⟩, -, -⟩ := h9
            rw [e4] at H9
            simp only [e4]
            gi_wp2_with fail
            refine ⟨trivial, rfl, (callsW (concat_one _ _ _ W H9.out (by omega))).mono ?_⟩
            rintro e w2 ⟨r, rfl, hr, hb⟩
            gi_wp2_with fail
            refine HK.out _ _ ?_ ?_ ?_
            · simp only [putAll, Act.put, List.setIfInBounds_toArray, List.set_cons_succ, List.set_cons_zero, Nat.reduceAdd, Nat.zero_add, e4, h4] <;> kernel_rfl
            · intro _; exact hr
            · exact hb
        · refine growOp_k ?_; intro vs W hW hd K HK
          have h5 : (!b) = true → (vs 5) = .agg #[.slice pa s.paints.length pc, .int .i64 s.near, .int .i64 s.give, .slice ea s.eats.length ec] := hd 5 (by decide)
          have h10 : (!b) = true → Cols W (vs 10) (l ++ [k]) := hd 10 (by decide)
          have h4 : (vs 4) = .bool (!b) := hd 4 (by decide)
          clear hd
          cases hc : (!b : Bool)
          · rw [hc] at h4
            simp only [putAll, Act.put, List.setIfInBounds_toArray, List.set_cons_succ, List.set_cons_zero, Nat.reduceAdd, Nat.zero_add, h4]
            gi_wp2_with fail
            refine HK.out _ _ ?_ ?_ ?_
            · simp only [putAll, Act.put, List.setIfInBounds_toArray, List.set_cons_succ, List.set_cons_zero, Nat.reduceAdd, Nat.zero_add, h4] <;> kernel_rfl
            · intro h; rw [hc] at h; cases h
            · exact Bel.refl _
          · rw [hc] at h4
            replace h5 := h5 hc
            replace h10 := h10 hc
            have H10 := Lib.hid h10
            simp only [putAll, Act.put, List.setIfInBounds_toArray, List.set_cons_succ, List.set_cons_zero, Nat.reduceAdd, Nat.zero_add, h4, h5]
            obtain ⟨a5, c5, e5, -, -, -, -⟩ := h10
            rw [List.length_map, List.length_append, List.length_singleton] at e5
            rw [e5] at H10
            simp only [e5]
            gi_wp2_with fail
            refine HK.out _ _ ?_ ?_ ?_
            · simp only [putAll, Act.put, List.setIfInBounds_toArray, List.set_cons_succ, List.set_cons_zero, Nat.reduceAdd, Nat.zero_add, h4, h5, e5] <;> kernel_rfl
            · intro _; exact ⟨_, _, rfl, H10.out⟩
            · exact Bel.refl _
        · refine growOp_k ?_; intro vs W hW hd K HK
          have h11 : (!b) = true → ∃ x y, (vs 11) = .agg #[.slice pa s.paints.length pc, .int .i64 s.near, .int .i64 s.give, .slice ea s.eats.length ec, .slice x (l.length + 1) y] ∧ Cols W (.slice x (l.length + 1) y) (l ++ [k]) := hd 11 (by decide)
          have h4 : (vs 4) = .bool (!b) := hd 4 (by decide)
          clear hd
          cases hc : (!b : Bool)
          · rw [hc] at h4
            simp only [putAll, Act.put, List.setIfInBounds_toArray, List.set_cons_succ, List.set_cons_zero, Nat.reduceAdd, Nat.zero_add, h4]
            gi_wp2_with fail
            refine ⟨trivial, ?_⟩
            gi_wp2_with fail
            refine HK.out _ _ ?_ ?_ ?_
            · simp only [putAll, Act.put, List.setIfInBounds_toArray, List.set_cons_succ, List.set_cons_zero, Nat.reduceAdd, Nat.zero_add, h4] <;> kernel_rfl
            · intro h; rw [hc] at h; cases h
            · exact Bel.refl _
          · rw [hc] at h4
            replace h11 := h11 hc
            simp only [putAll, Act.put, List.setIfInBounds_toArray, List.set_cons_succ, List.set_cons_zero, Nat.reduceAdd, Nat.zero_add, h4]
            obtain ⟨x6, y6, e6, hc6⟩ := h11
            simp only [e6]
            gi_wp2_with fail
            refine ⟨trivial, rfl, (callsW (KCAN.out hc W x6 y6 (HB.out.trans hW) hc6)).mono ?_⟩
            rintro e w2 ⟨rfl, hb⟩
            gi_wp2_with fail
            refine HK.out _ _ ?_ ?_ ?_
            · simp only [putAll, Act.put, List.setIfInBounds_toArray, List.set_cons_succ, List.set_cons_zero, Nat.reduceAdd, Nat.zero_add, e6, h4] <;> kernel_rfl
            · intro _; rfl
            · exact hb
        · refine growOp_k ?_; intro vs W hW hd K HK
          have h4 : (vs 4) = .bool (!b) := hd 4 (by decide)
          have h12 : (!b) = true → (vs 12) = .bool cn := hd 12 (by decide)
          clear hd
          cases hc : (!b : Bool)
          · rw [hc] at h4
            simp only [putAll, Act.put, List.setIfInBounds_toArray, List.set_cons_succ, List.set_cons_zero, Nat.reduceAdd, Nat.zero_add, h4]
            gi_wp2_with fail
            refine HK.out _ _ ?_ ?_ ?_
            · simp only [putAll, Act.put, List.setIfInBounds_toArray, List.set_cons_succ, List.set_cons_zero, Nat.reduceAdd, Nat.zero_add, h4] <;> kernel_rfl
            · simp [hc, valOf]
            · exact Bel.refl _
          · rw [hc] at h4
            replace h12 := h12 hc
            simp only [putAll, Act.put, List.setIfInBounds_toArray, List.set_cons_succ, List.set_cons_zero, Nat.reduceAdd, Nat.zero_add, h4, h12]
            gi_wp2_with fail
            refine HK.out _ _ ?_ ?_ ?_
            · simp only [putAll, Act.put, List.setIfInBounds_toArray, List.set_cons_succ, List.set_cons_zero, Nat.reduceAdd, Nat.zero_add, h4, h12] <;> kernel_rfl
            · simp [hc, valOf]
            · exact Bel.refl _
      · intro vs W hW hall
        have h13 : vs 13 = .bool (!b && cn) := hall 13 (by decide)
        clear hall
        simp only [putAll, Act.put, List.setIfInBounds_toArray, List.set_cons_succ, List.set_cons_zero, Nat.reduceAdd, Nat.zero_add, h13]
        have HBW := Lib.hid (HB.out.trans hW)
        have HBX := Lib.hid (HB0.out.trans hW)
        have HOW := Lib.hid (ownsRow_bel HO.out hW)
        have HSZ := hW.size
        clear hW h13
        generalize (!b && cn) = q at *
        cases q
        · gi_wp2_with fail
          go_roundw
          case rel => exact ⟨k + 1, by omega, by go_num, by rw [HS.out]; simpa using HOW.out, HBX.out⟩
          case measure => simp [intOf]; omega
        · have hm1 : R.length + 1 ≤ maxLen := by unfold maxLen; omega
          have hm2 : (R.length + 1) * 8 ≤ 140737488355328 := by omega
          have hm3 : w1.heap.size ≤ (W.alloc (.cells #[.int .i64 (k : Int)] 3)).heap.size := by have := HBX.out.size; simp; omega
          gi_wp2_with (gi_at_builtin; refine wpListIn_append_own _ rfl _ _ 32 rfl w1.heap.size 3 i0 (.int .i64 0) 1 8 Try.underlying32 hi hz0 hz1 hz2 rfl (by decide) _ _ _ rfl (HOW.out.alloc _) ⟨W.heap.size, 0, none⟩ 1 1 [.int .i64 (k : Int)] rfl rfl (one_new _ _ _) (by simp [Value.oneCell']) hm1 hm2 hm3 ?_; intro v' w3 hown2 hgrow _; have HO2 := Lib.hid hown2; have HB3 := Lib.hid ((HBX.out.alloc _).grown hgrow (fun k hk => (HOW.out.lt k hk).1)); clear hown2 hgrow)
          go_roundw
          case rel =>
            refine ⟨k + 1, by omega, by go_num, ?_, HB3.out⟩
            rw [HS.out]
            have h := HO2.out
            simpa [valsOf] using h
          case measure => simp [intOf]; omega
    · obtain rfl : k = s.paints.length := by omega
      clear hlt
      gi_wp2_with fail
      go_ret2
      exact ⟨_, rfl, own_cols (base := w1.heap.size) HO.out, HB.out⟩

end Go.Proofs.Ytpkadofgmhninaa
