/- Whether a plan surely is right. -/
import Derived.Test.YtpkadofgmhninaaGrow
namespace Go.Proofs.Ytpkadofgmhninaa
open Go.RowKit
attribute [local go_sem] Oper.semAt_some

theorem mem_take_flat {p : Rounds} {i c : Nat} (h : c ∈ (p.take i).flatten) : c ∈ p.flatten := by
  obtain ⟨r, hr, hc⟩ := List.mem_flatten.1 h
  exact List.mem_flatten.2 ⟨r, List.mem_of_mem_take hr, hc⟩
theorem PlanOk.lt {n : Nat} {p : Rounds} (h : PlanOk n p) {c : Nat} (hc : c ∈ p.flatten) : c < n := by
  obtain ⟨r, hr, hcr⟩ := List.mem_flatten.1 hc
  exact (h.asc r hr).1 c hcr
theorem PlanOk.ltD {n : Nat} {p : Rounds} (h : PlanOk n p) {i c : Nat} (hc : c ∈ p.getD i []) : c < n := by
  by_cases e : i < p.length
  · exact (h.round e).2.1 c hc
  · rw [List.getD, List.getElem?_eq_none (by omega)] at hc; simp at hc
theorem heatTies_lt (s : CSet) {n : Nat} {p : Rounds} (hp : PlanOk n p) : ∀ t, t ∈ s.heatTies p → t.a < n ∧ t.b < n := by
  intro t ht
  unfold CSet.heatTies CSet.heatTiesOf CSet.heatTiesAt at ht
  simp only [List.mem_flatMap, List.mem_append, List.mem_map, List.mem_filter] at ht
  obtain ⟨i, _, c, hc, h⟩ := ht
  rcases h with ⟨o, ⟨ho, _⟩, rfl⟩ | ⟨o, ho, rfl⟩
  · exact ⟨hp.ltD hc, hp.ltD ho⟩
  · exact ⟨hp.ltD hc, hp.lt (mem_take_flat ho)⟩
theorem stretchTies_lt (s : CSet) {n : Nat} {p : Rounds} (hp : PlanOk n p) : ∀ t, t ∈ s.stretchTies p → t.a < n ∧ t.b < n := by
  intro t ht
  unfold CSet.stretchTies CSet.stretchTiesOf at ht
  simp only [List.mem_flatMap, List.mem_cons, List.not_mem_nil, or_false] at ht
  obtain ⟨i, _, u, hu, o, ho, h⟩ := ht
  rcases h with rfl | rfl
  · exact ⟨hp.ltD ho, hp.ltD hu⟩
  · exact ⟨hp.ltD hu, hp.ltD ho⟩

set_option maxRecDepth 100000 in
set_option maxHeartbeats 4000000 in
theorem surely_any (s : CSet) (hs : s.Ok) (pv ev rv : Value) (p : Rounds) (w : World) (hf : Fd w pv ev rv s p) (hp : PlanOk s.paints.length p) :
    Calls Try.prog 32 #[.agg #[pv, .int .i64 s.near, .int .i64 s.give, ev, rv]] w fun e w' => e = .returned (.bool (s.surely p)) ∧ Bel w w' := by
  have hn5 := hs.n5
  have k1 := fun W (hW : Bel w W) => lasts_any s hs pv ev rv p W (hf.bel hW) hp
  have k2 := fun W (hW : Bel w W) => heatsOf_any s (.agg #[pv, .int .i64 s.near, .int .i64 s.give, ev]) W ⟨pv, ev, rfl, (hf.bel hW).paints, (hf.bel hW).pairs⟩ hn5
  have k3 := fun W (hW : Bel w W) => stretchesOf_any s (.agg #[pv, .int .i64 s.near, .int .i64 s.give, ev]) W ⟨pv, ev, rfl, (hf.bel hW).paints, (hf.bel hW).pairs⟩ hn5
  have k4 := fun W (hW : Bel w W) r (hr : Spans W r s.paints.length (fun i => (s.paint i).hl) (fun i => (s.paint i).hh)) =>
    surelyOf_any 60 #[.agg #[pv, .int .i64 s.near, .int .i64 s.give, ev, rv]] (enters_of Try.func60 (by kernel_rfl) rfl) r s.paints.length _ _ (s.heatTies p) W (heatTies_seq s hs pv ev rv p hp W (hf.bel hW)) hr hn5
      (fun i hi => by have := hs.paints i hi; omega) (heatTies_lt s hp)
  have k5 := fun W (hW : Bel w W) r (hr : Spans W r s.paints.length (fun i => (s.paint i).sl) (fun i => (s.paint i).sh)) =>
    surelyOf_any 61 #[.agg #[pv, .int .i64 s.near, .int .i64 s.give, ev, rv]] (enters_of Try.func61 (by kernel_rfl) rfl) r s.paints.length _ _ (s.stretchTies p) W (stretchTies_seq s hs pv ev rv p hp W (hf.bel hW)) hr hn5
      (fun i hi => by have := hs.paints i hi; omega) (stretchTies_lt s hp)
  have hR : s.surely p = (s.lasts p && (CSet.always (fun c => (s.paint c).hl) (fun c => (s.paint c).hh) (s.heatTies p) && CSet.always (fun c => (s.paint c).sl) (fun c => (s.paint c).sh) (s.stretchTies p))) := rfl
  have c5 := C5.new w pv (.int .i64 s.near) (.int .i64 s.give) ev rv 95
  have b0 := (Bel.refl w).alloc (.cells #[pv, .int .i64 s.near, .int .i64 s.give, ev, rv] 95)
  obtain ⟨pa, pc, rfl, -, -, -, -⟩ := hf.paints
  obtain ⟨ea, ec, rfl, -, -, -, -⟩ := hf.pairs
  obtain ⟨ra, rc, rfl, -, -, -, -⟩ := hf.rounds
  generalize s.lasts p = b1 at *
  generalize CSet.always (fun c => (s.paint c).hl) (fun c => (s.paint c).hh) (s.heatTies p) = b2 at *
  generalize CSet.always (fun c => (s.paint c).sl) (fun c => (s.paint c).sh) (s.stretchTies p) = b3 at *
  generalize s.surely p = R at *
  have K1 := Lib.hid k1
  have K2 := Lib.hid k2
  have K3 := Lib.hid k3
  have K4 := Lib.hid k4
  have K5 := Lib.hid k5
  have B0 := Lib.hid b0
  have C50 := Lib.hid c5
  have HR := Lib.hid hR
  clear k1 k2 k3 k4 k5 b0 hR hf hp hs
  clear c5
  refine (callsIn_wide (n := 0)).1 (callsIn_of_wp Try.func32 rfl trivial ?_ rfl)
  simp only [Try.ntmps32, List.size_toArray, List.length_cons, List.length_nil, Nat.reduceAdd, Nat.reduceSub, Array.replicate_succ, Array.replicate_zero, List.push_toArray, List.append_toArray, List.nil_append, List.cons_append]
  gi_wp2_with fail
  refine region_grow (fun i v W => match i with
    | 0 => v = .agg #[.slice pa s.paints.length pc, .int .i64 s.near, .int .i64 s.give, .slice ea s.eats.length ec, .slice ra (List.length p) rc]
    | 1 => v = .bool b1
    | 2 => v = .bool b1
    | 3 => b1 = true → v = .pointer (some ⟨w.heap.size, 0, none⟩)
    | 4 => b1 = true → v = .agg #[.slice pa s.paints.length pc, .int .i64 s.near, .int .i64 s.give, .slice ea s.eats.length ec]
    | 5 => b1 = true → Spans W v s.paints.length (fun i => (s.paint i).hl) (fun i => (s.paint i).hh)
    | 6 => b1 = true → v = .agg #[.slice pa s.paints.length pc, .int .i64 s.near, .int .i64 s.give, .slice ea s.eats.length ec, .slice ra (List.length p) rc]
    | 7 => b1 = true → v = .func (.func 60) #[.agg #[.slice pa s.paints.length pc, .int .i64 s.near, .int .i64 s.give, .slice ea s.eats.length ec, .slice ra (List.length p) rc]] #[]
    | 8 => b1 = true → v = .bool b2
    | 9 => v = .bool (b1 && b2)
    | 10 => v = .bool (b1 && b2)
    | 11 => (b1 && b2) = true → v = .pointer (some ⟨w.heap.size, 0, none⟩)
    | 12 => (b1 && b2) = true → v = .agg #[.slice pa s.paints.length pc, .int .i64 s.near, .int .i64 s.give, .slice ea s.eats.length ec]
    | 13 => (b1 && b2) = true → Spans W v s.paints.length (fun i => (s.paint i).sl) (fun i => (s.paint i).sh)
    | 14 => (b1 && b2) = true → v = .agg #[.slice pa s.paints.length pc, .int .i64 s.near, .int .i64 s.give, .slice ea s.eats.length ec, .slice ra (List.length p) rc]
    | 15 => (b1 && b2) = true → v = .func (.func 61) #[.agg #[.slice pa s.paints.length pc, .int .i64 s.near, .int .i64 s.give, .slice ea s.eats.length ec, .slice ra (List.length p) rc]] #[]
    | 16 => (b1 && b2) = true → v = .bool b3
    | 17 => v = .bool (b1 && b2 && b3)
    | 18 => v = .bool (b1 && b2 && b3)
    | _ => True) (by kernel_rfl) (by kernel_rfl) (by kernel_rfl) ?_ ?_ ?_
  · intro i v W W' h hb
    split at h <;> first | exact h | exact h.bel hb | exact fun e => (h e).bel hb
  · refine ⟨?_, ?_, ?_, ?_, ?_, ?_, ?_, ?_, ?_, ?_, ?_, ?_, ?_, ?_, ?_, ?_, ?_, ?_, ?_, trivial⟩
    · refine growOp_k ?_; intro vs W hW hd K HK
      clear hd
      simp only [putAll, Act.put, List.setIfInBounds_toArray, List.set_cons_succ, List.set_cons_zero, Nat.reduceAdd, Nat.zero_add]
      obtain ⟨c0, c1, c2, c3, c4⟩ := C50.out.bel hW
      gi_wp2_with fail
      refine HK.out _ _ ?_ ?_ ?_
      · simp only [putAll, Act.put, List.setIfInBounds_toArray, List.set_cons_succ, List.set_cons_zero, Nat.reduceAdd, Nat.zero_add] <;> kernel_rfl
      · rfl
      · exact Bel.refl _
    · refine growOp_k ?_; intro vs W hW hd K HK
      have h0 : (vs 0) = .agg #[.slice pa s.paints.length pc, .int .i64 s.near, .int .i64 s.give, .slice ea s.eats.length ec, .slice ra (List.length p) rc] := hd 0 (by decide)
      clear hd
      simp only [putAll, Act.put, List.setIfInBounds_toArray, List.set_cons_succ, List.set_cons_zero, Nat.reduceAdd, Nat.zero_add, h0]
      gi_wp2_with fail
      refine ⟨trivial, rfl, (callsW (K1.out W (B0.out.trans hW))).mono ?_⟩
      rintro e w1 ⟨rfl, hb⟩
      gi_wp2_with fail
      refine HK.out _ _ ?_ ?_ ?_
      · simp only [putAll, Act.put, List.setIfInBounds_toArray, List.set_cons_succ, List.set_cons_zero, Nat.reduceAdd, Nat.zero_add, h0] <;> kernel_rfl
      · rfl
      · exact hb
    · refine growOp_k ?_; intro vs W hW hd K HK
      have h1 : (vs 1) = .bool b1 := hd 1 (by decide)
      clear hd
      simp only [putAll, Act.put, List.setIfInBounds_toArray, List.set_cons_succ, List.set_cons_zero, Nat.reduceAdd, Nat.zero_add, h1]
      gi_wp2_with fail
      refine HK.out _ _ ?_ ?_ ?_
      · simp only [putAll, Act.put, List.setIfInBounds_toArray, List.set_cons_succ, List.set_cons_zero, Nat.reduceAdd, Nat.zero_add, h1] <;> kernel_rfl
      · rfl
      · exact Bel.refl _
    · refine growOp_k ?_; intro vs W hW hd K HK
      have h2 : (vs 2) = .bool b1 := hd 2 (by decide)
      clear hd
      cases hc : (b1 : Bool)
      · rw [hc] at h2
        simp only [putAll, Act.put, List.setIfInBounds_toArray, List.set_cons_succ, List.set_cons_zero, Nat.reduceAdd, Nat.zero_add, h2]
        gi_wp2_with fail
        refine HK.out _ _ ?_ ?_ ?_
        · simp only [putAll, Act.put, List.setIfInBounds_toArray, List.set_cons_succ, List.set_cons_zero, Nat.reduceAdd, Nat.zero_add, h2] <;> kernel_rfl
        · intro h; rw [hc] at h; cases h
        · exact Bel.refl _
      · rw [hc] at h2
        simp only [putAll, Act.put, List.setIfInBounds_toArray, List.set_cons_succ, List.set_cons_zero, Nat.reduceAdd, Nat.zero_add, h2]
        gi_wp2_with fail
        refine HK.out _ _ ?_ ?_ ?_
        · simp only [putAll, Act.put, List.setIfInBounds_toArray, List.set_cons_succ, List.set_cons_zero, Nat.reduceAdd, Nat.zero_add, h2] <;> kernel_rfl
        · intro _; rfl
        · exact Bel.refl _
    · refine growOp_k ?_; intro vs W hW hd K HK
      have h3 : b1 = true → (vs 3) = .pointer (some ⟨w.heap.size, 0, none⟩) := hd 3 (by decide)
      have h2 : (vs 2) = .bool b1 := hd 2 (by decide)
      clear hd
      cases hc : (b1 : Bool)
      · rw [hc] at h2
        simp only [putAll, Act.put, List.setIfInBounds_toArray, List.set_cons_succ, List.set_cons_zero, Nat.reduceAdd, Nat.zero_add, h2]
        gi_wp2_with fail
        refine HK.out _ _ ?_ ?_ ?_
        · simp only [putAll, Act.put, List.setIfInBounds_toArray, List.set_cons_succ, List.set_cons_zero, Nat.reduceAdd, Nat.zero_add, h2] <;> kernel_rfl
        · intro h; rw [hc] at h; cases h
        · exact Bel.refl _
      · rw [hc] at h2
        replace h3 := h3 hc
        simp only [putAll, Act.put, List.setIfInBounds_toArray, List.set_cons_succ, List.set_cons_zero, Nat.reduceAdd, Nat.zero_add, h3, h2]
        obtain ⟨c0, c1, c2, c3, c4⟩ := C50.out.bel hW
        gi_wp2_with fail
        refine HK.out _ _ ?_ ?_ ?_
        · simp only [putAll, Act.put, List.setIfInBounds_toArray, List.set_cons_succ, List.set_cons_zero, Nat.reduceAdd, Nat.zero_add, h3, h2] <;> kernel_rfl
        · intro _; rfl
        · exact Bel.refl _
    · refine growOp_k ?_; intro vs W hW hd K HK
      have h4 : b1 = true → (vs 4) = .agg #[.slice pa s.paints.length pc, .int .i64 s.near, .int .i64 s.give, .slice ea s.eats.length ec] := hd 4 (by decide)
      have h2 : (vs 2) = .bool b1 := hd 2 (by decide)
      clear hd
      cases hc : (b1 : Bool)
      · rw [hc] at h2
        simp only [putAll, Act.put, List.setIfInBounds_toArray, List.set_cons_succ, List.set_cons_zero, Nat.reduceAdd, Nat.zero_add, h2]
        gi_wp2_with fail
        refine ⟨trivial, ?_⟩
        gi_wp2_with fail
        refine HK.out _ _ ?_ ?_ ?_
        · simp only [putAll, Act.put, List.setIfInBounds_toArray, List.set_cons_succ, List.set_cons_zero, Nat.reduceAdd, Nat.zero_add, h2] <;> kernel_rfl
        · intro h; rw [hc] at h; cases h
        · exact Bel.refl _
      · rw [hc] at h2
        replace h4 := h4 hc
        simp only [putAll, Act.put, List.setIfInBounds_toArray, List.set_cons_succ, List.set_cons_zero, Nat.reduceAdd, Nat.zero_add, h4, h2]
        gi_wp2_with fail
        refine ⟨trivial, rfl, (callsW (K2.out W (B0.out.trans hW))).mono ?_⟩
        rintro e w1 ⟨r, rfl, hr, hb⟩
        gi_wp2_with fail
        refine HK.out _ _ ?_ ?_ ?_
        · simp only [putAll, Act.put, List.setIfInBounds_toArray, List.set_cons_succ, List.set_cons_zero, Nat.reduceAdd, Nat.zero_add, h4, h2] <;> kernel_rfl
        · intro _; exact hr
        · exact hb
    · refine growOp_k ?_; intro vs W hW hd K HK
      have h2 : (vs 2) = .bool b1 := hd 2 (by decide)
      clear hd
      cases hc : (b1 : Bool)
      · rw [hc] at h2
        simp only [putAll, Act.put, List.setIfInBounds_toArray, List.set_cons_succ, List.set_cons_zero, Nat.reduceAdd, Nat.zero_add, h2]
        gi_wp2_with fail
        refine HK.out _ _ ?_ ?_ ?_
        · simp only [putAll, Act.put, List.setIfInBounds_toArray, List.set_cons_succ, List.set_cons_zero, Nat.reduceAdd, Nat.zero_add, h2] <;> kernel_rfl
        · intro h; rw [hc] at h; cases h
        · exact Bel.refl _
      · rw [hc] at h2
        simp only [putAll, Act.put, List.setIfInBounds_toArray, List.set_cons_succ, List.set_cons_zero, Nat.reduceAdd, Nat.zero_add, h2]
        obtain ⟨c0, c1, c2, c3, c4⟩ := C50.out.bel hW
        gi_wp2_with fail
        refine HK.out _ _ ?_ ?_ ?_
        · simp only [putAll, Act.put, List.setIfInBounds_toArray, List.set_cons_succ, List.set_cons_zero, Nat.reduceAdd, Nat.zero_add, h2] <;> kernel_rfl
        · intro _; rfl
        · exact Bel.refl _
    · refine growOp_k ?_; intro vs W hW hd K HK
      have h6 : b1 = true → (vs 6) = .agg #[.slice pa s.paints.length pc, .int .i64 s.near, .int .i64 s.give, .slice ea s.eats.length ec, .slice ra (List.length p) rc] := hd 6 (by decide)
      have h2 : (vs 2) = .bool b1 := hd 2 (by decide)
      clear hd
      cases hc : (b1 : Bool)
      · rw [hc] at h2
        simp only [putAll, Act.put, List.setIfInBounds_toArray, List.set_cons_succ, List.set_cons_zero, Nat.reduceAdd, Nat.zero_add, h2]
        gi_wp2_with fail
        refine HK.out _ _ ?_ ?_ ?_
        · simp only [putAll, Act.put, List.setIfInBounds_toArray, List.set_cons_succ, List.set_cons_zero, Nat.reduceAdd, Nat.zero_add, h2] <;> kernel_rfl
        · intro h; rw [hc] at h; cases h
        · exact Bel.refl _
      · rw [hc] at h2
        replace h6 := h6 hc
        simp only [putAll, Act.put, List.setIfInBounds_toArray, List.set_cons_succ, List.set_cons_zero, Nat.reduceAdd, Nat.zero_add, h6, h2]
        gi_wp2_with fail
        refine HK.out _ _ ?_ ?_ ?_
        · simp only [putAll, Act.put, List.setIfInBounds_toArray, List.set_cons_succ, List.set_cons_zero, Nat.reduceAdd, Nat.zero_add, h6, h2] <;> kernel_rfl
        · intro _; rfl
        · exact Bel.refl _
    · refine growOp_k ?_; intro vs W hW hd K HK
      have h5 : b1 = true → Spans W (vs 5) s.paints.length (fun i => (s.paint i).hl) (fun i => (s.paint i).hh) := hd 5 (by decide)
      have h7 : b1 = true → (vs 7) = .func (.func 60) #[.agg #[.slice pa s.paints.length pc, .int .i64 s.near, .int .i64 s.give, .slice ea s.eats.length ec, .slice ra (List.length p) rc]] #[] := hd 7 (by decide)
      have h2 : (vs 2) = .bool b1 := hd 2 (by decide)
      clear hd
      cases hc : (b1 : Bool)
      · rw [hc] at h2
        simp only [putAll, Act.put, List.setIfInBounds_toArray, List.set_cons_succ, List.set_cons_zero, Nat.reduceAdd, Nat.zero_add, h2]
        gi_wp2_with fail
        refine ⟨trivial, ?_⟩
        gi_wp2_with fail
        refine HK.out _ _ ?_ ?_ ?_
        · simp only [putAll, Act.put, List.setIfInBounds_toArray, List.set_cons_succ, List.set_cons_zero, Nat.reduceAdd, Nat.zero_add, h2] <;> kernel_rfl
        · intro h; rw [hc] at h; cases h
        · exact Bel.refl _
      · rw [hc] at h2
        replace h5 := h5 hc
        replace h7 := h7 hc
        simp only [putAll, Act.put, List.setIfInBounds_toArray, List.set_cons_succ, List.set_cons_zero, Nat.reduceAdd, Nat.zero_add, h7, h2]
        gi_wp2_with fail
        refine ⟨trivial, rfl, (callsW (K4.out W (B0.out.trans hW) _ h5)).mono ?_⟩
        rintro e w1 ⟨rfl, hb⟩
        gi_wp2_with fail
        refine HK.out _ _ ?_ ?_ ?_
        · simp only [putAll, Act.put, List.setIfInBounds_toArray, List.set_cons_succ, List.set_cons_zero, Nat.reduceAdd, Nat.zero_add, h7, h2] <;> kernel_rfl
        · intro _; rfl
        · exact hb
    · refine growOp_k ?_; intro vs W hW hd K HK
      have h2 : (vs 2) = .bool b1 := hd 2 (by decide)
      have h8 : b1 = true → (vs 8) = .bool b2 := hd 8 (by decide)
      clear hd
      cases hc : (b1 : Bool)
      · rw [hc] at h2
        simp only [putAll, Act.put, List.setIfInBounds_toArray, List.set_cons_succ, List.set_cons_zero, Nat.reduceAdd, Nat.zero_add, h2]
        gi_wp2_with fail
        refine HK.out _ _ ?_ ?_ ?_
        · simp only [putAll, Act.put, List.setIfInBounds_toArray, List.set_cons_succ, List.set_cons_zero, Nat.reduceAdd, Nat.zero_add, h2] <;> kernel_rfl
        · simp [hc, valOf]
        · exact Bel.refl _
      · rw [hc] at h2
        replace h8 := h8 hc
        simp only [putAll, Act.put, List.setIfInBounds_toArray, List.set_cons_succ, List.set_cons_zero, Nat.reduceAdd, Nat.zero_add, h2, h8]
        gi_wp2_with fail
        refine HK.out _ _ ?_ ?_ ?_
        · simp only [putAll, Act.put, List.setIfInBounds_toArray, List.set_cons_succ, List.set_cons_zero, Nat.reduceAdd, Nat.zero_add, h2, h8] <;> kernel_rfl
        · simp [hc, valOf]
        · exact Bel.refl _
    · refine growOp_k ?_; intro vs W hW hd K HK
      have h9 : (vs 9) = .bool (b1 && b2) := hd 9 (by decide)
      clear hd
      simp only [putAll, Act.put, List.setIfInBounds_toArray, List.set_cons_succ, List.set_cons_zero, Nat.reduceAdd, Nat.zero_add, h9]
      gi_wp2_with fail
      refine HK.out _ _ ?_ ?_ ?_
      · simp only [putAll, Act.put, List.setIfInBounds_toArray, List.set_cons_succ, List.set_cons_zero, Nat.reduceAdd, Nat.zero_add, h9] <;> kernel_rfl
      · rfl
      · exact Bel.refl _
    · refine growOp_k ?_; intro vs W hW hd K HK
      have h10 : (vs 10) = .bool (b1 && b2) := hd 10 (by decide)
      clear hd
      cases hc : (b1 && b2 : Bool)
      · rw [hc] at h10
        simp only [putAll, Act.put, List.setIfInBounds_toArray, List.set_cons_succ, List.set_cons_zero, Nat.reduceAdd, Nat.zero_add, h10]
        gi_wp2_with fail
        refine HK.out _ _ ?_ ?_ ?_
        · simp only [putAll, Act.put, List.setIfInBounds_toArray, List.set_cons_succ, List.set_cons_zero, Nat.reduceAdd, Nat.zero_add, h10] <;> kernel_rfl
        · intro h; rw [hc] at h; cases h
        · exact Bel.refl _
      · rw [hc] at h10
        simp only [putAll, Act.put, List.setIfInBounds_toArray, List.set_cons_succ, List.set_cons_zero, Nat.reduceAdd, Nat.zero_add, h10]
        gi_wp2_with fail
        refine HK.out _ _ ?_ ?_ ?_
        · simp only [putAll, Act.put, List.setIfInBounds_toArray, List.set_cons_succ, List.set_cons_zero, Nat.reduceAdd, Nat.zero_add, h10] <;> kernel_rfl
        · intro _; rfl
        · exact Bel.refl _
    · refine growOp_k ?_; intro vs W hW hd K HK
      have h11 : (b1 && b2) = true → (vs 11) = .pointer (some ⟨w.heap.size, 0, none⟩) := hd 11 (by decide)
      have h10 : (vs 10) = .bool (b1 && b2) := hd 10 (by decide)
      clear hd
      cases hc : (b1 && b2 : Bool)
      · rw [hc] at h10
        simp only [putAll, Act.put, List.setIfInBounds_toArray, List.set_cons_succ, List.set_cons_zero, Nat.reduceAdd, Nat.zero_add, h10]
        gi_wp2_with fail
        refine HK.out _ _ ?_ ?_ ?_
        · simp only [putAll, Act.put, List.setIfInBounds_toArray, List.set_cons_succ, List.set_cons_zero, Nat.reduceAdd, Nat.zero_add, h10] <;> kernel_rfl
        · intro h; rw [hc] at h; cases h
        · exact Bel.refl _
      · rw [hc] at h10
        replace h11 := h11 hc
        simp only [putAll, Act.put, List.setIfInBounds_toArray, List.set_cons_succ, List.set_cons_zero, Nat.reduceAdd, Nat.zero_add, h11, h10]
        obtain ⟨c0, c1, c2, c3, c4⟩ := C50.out.bel hW
        gi_wp2_with fail
        refine HK.out _ _ ?_ ?_ ?_
        · simp only [putAll, Act.put, List.setIfInBounds_toArray, List.set_cons_succ, List.set_cons_zero, Nat.reduceAdd, Nat.zero_add, h11, h10] <;> kernel_rfl
        · intro _; rfl
        · exact Bel.refl _
    · refine growOp_k ?_; intro vs W hW hd K HK
      have h12 : (b1 && b2) = true → (vs 12) = .agg #[.slice pa s.paints.length pc, .int .i64 s.near, .int .i64 s.give, .slice ea s.eats.length ec] := hd 12 (by decide)
      have h10 : (vs 10) = .bool (b1 && b2) := hd 10 (by decide)
      clear hd
      cases hc : (b1 && b2 : Bool)
      · rw [hc] at h10
        simp only [putAll, Act.put, List.setIfInBounds_toArray, List.set_cons_succ, List.set_cons_zero, Nat.reduceAdd, Nat.zero_add, h10]
        gi_wp2_with fail
        refine ⟨trivial, ?_⟩
        gi_wp2_with fail
        refine HK.out _ _ ?_ ?_ ?_
        · simp only [putAll, Act.put, List.setIfInBounds_toArray, List.set_cons_succ, List.set_cons_zero, Nat.reduceAdd, Nat.zero_add, h10] <;> kernel_rfl
        · intro h; rw [hc] at h; cases h
        · exact Bel.refl _
      · rw [hc] at h10
        replace h12 := h12 hc
        simp only [putAll, Act.put, List.setIfInBounds_toArray, List.set_cons_succ, List.set_cons_zero, Nat.reduceAdd, Nat.zero_add, h12, h10]
        gi_wp2_with fail
        refine ⟨trivial, rfl, (callsW (K3.out W (B0.out.trans hW))).mono ?_⟩
        rintro e w1 ⟨r, rfl, hr, hb⟩
        gi_wp2_with fail
        refine HK.out _ _ ?_ ?_ ?_
        · simp only [putAll, Act.put, List.setIfInBounds_toArray, List.set_cons_succ, List.set_cons_zero, Nat.reduceAdd, Nat.zero_add, h12, h10] <;> kernel_rfl
        · intro _; exact hr
        · exact hb
    · refine growOp_k ?_; intro vs W hW hd K HK
      have h10 : (vs 10) = .bool (b1 && b2) := hd 10 (by decide)
      clear hd
      cases hc : (b1 && b2 : Bool)
      · rw [hc] at h10
        simp only [putAll, Act.put, List.setIfInBounds_toArray, List.set_cons_succ, List.set_cons_zero, Nat.reduceAdd, Nat.zero_add, h10]
        gi_wp2_with fail
        refine HK.out _ _ ?_ ?_ ?_
        · simp only [putAll, Act.put, List.setIfInBounds_toArray, List.set_cons_succ, List.set_cons_zero, Nat.reduceAdd, Nat.zero_add, h10] <;> kernel_rfl
        · intro h; rw [hc] at h; cases h
        · exact Bel.refl _
      · rw [hc] at h10
        simp only [putAll, Act.put, List.setIfInBounds_toArray, List.set_cons_succ, List.set_cons_zero, Nat.reduceAdd, Nat.zero_add, h10]
        obtain ⟨c0, c1, c2, c3, c4⟩ := C50.out.bel hW
        gi_wp2_with fail
        refine HK.out _ _ ?_ ?_ ?_
        · simp only [putAll, Act.put, List.setIfInBounds_toArray, List.set_cons_succ, List.set_cons_zero, Nat.reduceAdd, Nat.zero_add, h10] <;> kernel_rfl
        · intro _; rfl
        · exact Bel.refl _
    · refine growOp_k ?_; intro vs W hW hd K HK
      have h14 : (b1 && b2) = true → (vs 14) = .agg #[.slice pa s.paints.length pc, .int .i64 s.near, .int .i64 s.give, .slice ea s.eats.length ec, .slice ra (List.length p) rc] := hd 14 (by decide)
      have h10 : (vs 10) = .bool (b1 && b2) := hd 10 (by decide)
      clear hd
      cases hc : (b1 && b2 : Bool)
      · rw [hc] at h10
        simp only [putAll, Act.put, List.setIfInBounds_toArray, List.set_cons_succ, List.set_cons_zero, Nat.reduceAdd, Nat.zero_add, h10]
        gi_wp2_with fail
        refine HK.out _ _ ?_ ?_ ?_
        · simp only [putAll, Act.put, List.setIfInBounds_toArray, List.set_cons_succ, List.set_cons_zero, Nat.reduceAdd, Nat.zero_add, h10] <;> kernel_rfl
        · intro h; rw [hc] at h; cases h
        · exact Bel.refl _
      · rw [hc] at h10
        replace h14 := h14 hc
        simp only [putAll, Act.put, List.setIfInBounds_toArray, List.set_cons_succ, List.set_cons_zero, Nat.reduceAdd, Nat.zero_add, h14, h10]
        gi_wp2_with fail
        refine HK.out _ _ ?_ ?_ ?_
        · simp only [putAll, Act.put, List.setIfInBounds_toArray, List.set_cons_succ, List.set_cons_zero, Nat.reduceAdd, Nat.zero_add, h14, h10] <;> kernel_rfl
        · intro _; rfl
        · exact Bel.refl _
    · refine growOp_k ?_; intro vs W hW hd K HK
      have h13 : (b1 && b2) = true → Spans W (vs 13) s.paints.length (fun i => (s.paint i).sl) (fun i => (s.paint i).sh) := hd 13 (by decide)
      have h15 : (b1 && b2) = true → (vs 15) = .func (.func 61) #[.agg #[.slice pa s.paints.length pc, .int .i64 s.near, .int .i64 s.give, .slice ea s.eats.length ec, .slice ra (List.length p) rc]] #[] := hd 15 (by decide)
      have h10 : (vs 10) = .bool (b1 && b2) := hd 10 (by decide)
      clear hd
      cases hc : (b1 && b2 : Bool)
      · rw [hc] at h10
        simp only [putAll, Act.put, List.setIfInBounds_toArray, List.set_cons_succ, List.set_cons_zero, Nat.reduceAdd, Nat.zero_add, h10]
        gi_wp2_with fail
        refine ⟨trivial, ?_⟩
        gi_wp2_with fail
        refine HK.out _ _ ?_ ?_ ?_
        · simp only [putAll, Act.put, List.setIfInBounds_toArray, List.set_cons_succ, List.set_cons_zero, Nat.reduceAdd, Nat.zero_add, h10] <;> kernel_rfl
        · intro h; rw [hc] at h; cases h
        · exact Bel.refl _
      · rw [hc] at h10
        replace h13 := h13 hc
        replace h15 := h15 hc
        simp only [putAll, Act.put, List.setIfInBounds_toArray, List.set_cons_succ, List.set_cons_zero, Nat.reduceAdd, Nat.zero_add, h15, h10]
        gi_wp2_with fail
        refine ⟨trivial, rfl, (callsW (K5.out W (B0.out.trans hW) _ h13)).mono ?_⟩
        rintro e w1 ⟨rfl, hb⟩
        gi_wp2_with fail
        refine HK.out _ _ ?_ ?_ ?_
        · simp only [putAll, Act.put, List.setIfInBounds_toArray, List.set_cons_succ, List.set_cons_zero, Nat.reduceAdd, Nat.zero_add, h15, h10] <;> kernel_rfl
        · intro _; rfl
        · exact hb
    · refine growOp_k ?_; intro vs W hW hd K HK
      have h10 : (vs 10) = .bool (b1 && b2) := hd 10 (by decide)
      have h16 : (b1 && b2) = true → (vs 16) = .bool b3 := hd 16 (by decide)
      clear hd
      cases hc : (b1 && b2 : Bool)
      · rw [hc] at h10
        simp only [putAll, Act.put, List.setIfInBounds_toArray, List.set_cons_succ, List.set_cons_zero, Nat.reduceAdd, Nat.zero_add, h10]
        gi_wp2_with fail
        refine HK.out _ _ ?_ ?_ ?_
        · simp only [putAll, Act.put, List.setIfInBounds_toArray, List.set_cons_succ, List.set_cons_zero, Nat.reduceAdd, Nat.zero_add, h10] <;> kernel_rfl
        · simp [hc, valOf]
        · exact Bel.refl _
      · rw [hc] at h10
        replace h16 := h16 hc
        simp only [putAll, Act.put, List.setIfInBounds_toArray, List.set_cons_succ, List.set_cons_zero, Nat.reduceAdd, Nat.zero_add, h10, h16]
        gi_wp2_with fail
        refine HK.out _ _ ?_ ?_ ?_
        · simp only [putAll, Act.put, List.setIfInBounds_toArray, List.set_cons_succ, List.set_cons_zero, Nat.reduceAdd, Nat.zero_add, h10, h16] <;> kernel_rfl
        · simp [hc, valOf]
        · exact Bel.refl _
    · refine growOp_k ?_; intro vs W hW hd K HK
      have h17 : (vs 17) = .bool (b1 && b2 && b3) := hd 17 (by decide)
      clear hd
      simp only [putAll, Act.put, List.setIfInBounds_toArray, List.set_cons_succ, List.set_cons_zero, Nat.reduceAdd, Nat.zero_add, h17]
      gi_wp2_with fail
      refine HK.out _ _ ?_ ?_ ?_
      · simp only [putAll, Act.put, List.setIfInBounds_toArray, List.set_cons_succ, List.set_cons_zero, Nat.reduceAdd, Nat.zero_add, h17] <;> kernel_rfl
      · rfl
      · exact Bel.refl _
  · intro vs W hW hall
    have h18 : vs 18 = .bool (b1 && b2 && b3) := hall 18 (by decide)
    simp only [putAll, Act.put, List.setIfInBounds_toArray, List.set_cons_succ, List.set_cons_zero, Nat.reduceAdd, Nat.zero_add, h18]
    gi_wp2_with fail
    go_ret
    exact ⟨ret_bool (by rw [HR.out, Bool.and_assoc]), B0.out.trans hW⟩

end Go.Proofs.Ytpkadofgmhninaa
