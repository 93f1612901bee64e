/- Told: where all is valid. Wrong: where all is valid. -/
import Derived.Test.YtpkadofgmhninaaCalls
namespace Go.Proofs.Ytpkadofgmhninaa
open Go.RowKit
attribute [local go_sem] Oper.semAt_some

theorem settle_in {g : List Int} (hg : g.length = 36) (h : CSet.Within (-2000) 2000 g) : CSet.Within (-1000000000) 1000000000 (CSet.settle g) := by
  have := CSet.st_within (B := 2000) (by omega) hg h (m := 5) (a := 5) (b := 6) (by omega) (by omega) (by omega)
  rw [CSet.st_a, CSet.st_m, CSet.st_done] at this
  exact within_mono this (by omega) (by omega)
attribute [local irreducible] CSet.gat CSet.settle CSet.settled CSet.hold CSet.gapsOf CSet.truly CSet.surely CSet.fire

def ToldR (s : CSet) (ps : List Rounds) (w : World) (e : Ending) (w' : World) : Prop :=
  ∃ a b er, e = .returned (.tuple #[a, b, .int .i64 er]) ∧ (if s.truly ps then er = 0 ∧ Spans w' a s.paints.length (fun c => -CSet.gat (s.heatG ps) 5 c) (fun c => CSet.gat (s.heatG ps) c 5) ∧ Spans w' b s.paints.length (fun c => -CSet.gat (s.stretchG ps) 5 c) (fun c => CSet.gat (s.stretchG ps) c 5)
    else er = 9 ∧ a = .slice none 0 0 ∧ b = .slice none 0 0) ∧ Bel w w'

set_option maxRecDepth 100000 in
set_option maxHeartbeats 8000000 in
theorem told_any (s : CSet) (hs : s.Ok) (v lv : Value) (ps : List Rounds) (w : World) (hv : SetV w v s) (hl : Plns w lv ps) (hp : ∀ p, p ∈ ps → PlanOk s.paints.length p ∧ ∀ r, r ∈ p → Asc s.paints.length r) (h3 : ps.length ≤ 3) :
    Calls Try.prog 25 #[v, lv] w (ToldR s ps w) := by
  have k1 := fun W (hW : Bel w W) => checkTrials_yes s hs v lv ps W (hv.bel hW) (hl.bel hW) hp h3
  obtain ⟨pv, ev, rfl, h1, h2⟩ := hv
  have k2 := fun W (hW : Bel w W) => truths_any s hs pv ev lv ps W (h1.bel hW) (h2.bel hW) (hl.bel hW) (fun p hpm => (hp p hpm).1)
  have khi := heatTo_in s hs ps (fun p hpm => (hp p hpm).1) ps.length (Nat.le_refl _)
  have ksi := stretchTo_in s hs ps (fun p hpm => (hp p hpm).1) ps.length (Nat.le_refl _)
  have hi1 := settle_in khi.1 (within_mono khi.2 (c := -2000) (d := 2000) (by omega) (by omega))
  have hi2 := settle_in ksi.1 (within_mono ksi.2 (c := -2000) (d := 2000) (by omega) (by omega))
  rw [← heatG_eq] at hi1
  rw [← stretchG_eq] at hi2
  have hn5 := hs.n5
  have c4 := C4.new w pv (.int .i64 s.near) (.int .i64 s.give) ev 31
  have K1 := Lib.hid k1
  have K2 := Lib.hid k2
  have C := Lib.hid c4
  have HI1' := Lib.hid hi1
  have HI2' := Lib.hid hi2
  obtain ⟨pa, pc, rfl, -, hpc, -, -⟩ := h1
  obtain ⟨ea, ec, rfl, -, -, -, -⟩ := h2
  obtain ⟨la, lc, lx, rfl, -, -, -, -⟩ := hl
  obtain ⟨c0, c1, c2, c3⟩ := c4
  unfold maxLen at hpc
  clear hs k1 k2 hp khi ksi hi1 hi2
  refine (callsIn_wide (n := 0)).1 (callsIn_of_wp Try.func25 rfl trivial ?_ rfl)
  simp only [Try.ntmps25, List.size_toArray, List.length_cons, List.length_nil, Nat.reduceAdd, Nat.reduceSub, Array.replicate_succ, Array.replicate_zero, List.push_toArray, List.append_toArray, List.nil_append, List.cons_append]
  gi_wp2_with fail
  refine ⟨trivial, rfl, (callsW (K1.out _ ((Bel.refl w).alloc _))).mono ?_⟩
  rintro e w1 ⟨rfl, hb⟩
  have HC := Lib.hid (C.out.bel hb)
  have HB := Lib.hid (((Bel.refl w).alloc _).trans hb)
  clear c0 c1 c2 c3 hb
  obtain ⟨c0, c1, c2, c3⟩ := HC.out
  gi_wp2_with fail
  refine ⟨trivial, rfl, (callsW (K2.out w1 HB.out)).mono ?_⟩
  rintro e w2 ⟨hg, sg, rfl, hl1, hl2, heq, hb⟩
  have HB2 := Lib.hid (HB.out.trans hb)
  have HC2 := Lib.hid (HC.out.bel hb)
  have HEQ := Lib.hid heq
  clear hb c0 c1 c2 c3 heq
  cases htr : s.truly ps with
  | false =>
    have HTR := Lib.hid htr
    clear htr
    gi_wp2_with (with_reducible refine stop_store89 8 (.tmp 22) ?_)
    unfold Stopped
    refine wpListIn_store89 8 (.tmp 22) w2.heap.size hg zeros36.toArray rfl rfl ((Below.heap_alloc _ _ _ (by simp)).trans (World.alloc_heap_new w2 _)) zeros36_size hl1 ?_
    intro V1 hg1 hb1 hz1
    refine wpListIn_store89 9 (.tmp 23) (w2.heap.size + 1) sg zeros36.toArray rfl rfl ((hb1.block _ (by simp) (by omega)).trans (by have := World.alloc_heap_new (w2.alloc (.cells zeros36.toArray 89)) (.cells zeros36.toArray 89); rw [World.size_alloc] at this; exact this)) zeros36_size hl2 ?_
    intro V2 hg2 hb2 hz2
    have hsu := HB2.out.size
    have UB := Lib.hid (hb2.bel (hb1.bel ((HB2.out.alloc _).alloc _) (by omega)) (by omega))
    clear hg1 hb1 hg2 hb2 hz1 hz2
    gi_wp2_with fail
    go_ret3
    exact ⟨_, _, _, rfl, by rw [HTR.out]; exact ⟨rfl, rfl, rfl⟩, UB.out⟩
  | true =>
    have HTR := Lib.hid htr
    have HQ := Lib.hid (HEQ.out htr)
    clear htr
    gi_wp2_with (with_reducible refine stop_store89 8 (.tmp 22) ?_)
    unfold Stopped
    refine wpListIn_store89 8 (.tmp 22) w2.heap.size hg zeros36.toArray rfl rfl ((Below.heap_alloc _ _ _ (by simp)).trans (World.alloc_heap_new w2 _)) zeros36_size hl1 ?_
    intro V1 hg1 hb1 hz1
    refine wpListIn_store89 9 (.tmp 23) (w2.heap.size + 1) sg zeros36.toArray rfl rfl ((hb1.block _ (by simp) (by omega)).trans (by have := World.alloc_heap_new (w2.alloc (.cells zeros36.toArray 89)) (.cells zeros36.toArray 89); rw [World.size_alloc] at this; exact this)) zeros36_size hl2 ?_
    intro V2 hg2 hb2 hz2
    have hsu := HB2.out.size
    have HB3 := Lib.hid (hb2.bel (hb1.bel ((HB2.out.alloc _).alloc _) (by omega)) (by omega))
    have HG1 := Lib.hid (hg1.but hb2 (by omega))
    have HG2 := Lib.hid hg2
    have HI1 : Hid (CSet.Within (-1000000000) 1000000000 hg) := Lib.hid (by rw [HQ.out.1]; exact HI1'.out)
    have HI2 : Hid (CSet.Within (-1000000000) 1000000000 sg) := Lib.hid (by rw [HQ.out.2]; exact HI2'.out)
    have hcc := (HC2.out.bel ((Bel.refl _).alloc (.cells zeros36.toArray 89))).bel ((Bel.refl _).alloc (.cells zeros36.toArray 89))
    have hlt0 : w.heap.size < w2.heap.size := by have := lt_of_cell HC2.out.1; exact this
    have HC3 := Lib.hid (show C4 V2 w.heap.size (.slice pa s.paints.length pc) (.int .i64 s.near) (.int .i64 s.give) (.slice ea s.eats.length ec) from hb2.c4 (by omega) (hb1.c4 (by omega) hcc))
    clear hg1 hb1 hg2 hb2 hz1 hz2 hcc
    gi_wp2_with fail
    refine region_grow (fun i v W => match i with
      | 0 => v = .pointer (some ⟨w.heap.size, 0, none⟩)
      | 1 => v = .slice pa s.paints.length pc
      | 2 => v = .int .i64 (s.paints.length : Int)
      | 3 => Spans W v s.paints.length (fun c => -CSet.gat hg 5 c) (fun c => CSet.gat hg c 5)
      | 4 => v = .pointer (some ⟨w.heap.size, 0, none⟩)
      | 5 => v = .slice pa s.paints.length pc
      | 6 => v = .int .i64 (s.paints.length : Int)
      | 7 => Spans W v s.paints.length (fun c => -CSet.gat sg 5 c) (fun c => CSet.gat sg c 5)
      | 8 => Spans W v s.paints.length (fun c => -CSet.gat hg 5 c) (fun c => CSet.gat hg c 5)
      | 9 => Spans W v s.paints.length (fun c => -CSet.gat sg 5 c) (fun c => CSet.gat sg c 5)
      | 10 => v = .int .i64 0
      | _ => True) (by kernel_rfl) (by kernel_rfl) (by kernel_rfl) ?_ ?_ ?_
    · intro i v W W' h hb
      split at h <;> first | exact h | exact h.bel hb | exact fun e => (h e).bel hb | exact ⟨h.1.bel hb, h.2⟩
    · refine ⟨?_, ?_, ?_, ?_, ?_, ?_, ?_, ?_, ?_, ?_, ?_, trivial⟩
      · refine growOp_k ?_; intro vs W hW hd K HK
        clear hd
        simp only [putAll, Act.put, List.setIfInBounds_toArray, List.set_cons_succ, List.set_cons_zero, Nat.reduceAdd, Nat.zero_add]
        gi_wp2_with fail
        refine HK.out _ _ ?_ ?_ ?_
        · simp only [putAll, Act.put, List.setIfInBounds_toArray, List.set_cons_succ, List.set_cons_zero, Nat.reduceAdd, Nat.zero_add] <;> kernel_rfl
        · rfl
        · exact Bel.refl _
      · refine growOp_k ?_; intro vs W hW hd K HK
        have h0 : (vs 0) = .pointer (some ⟨w.heap.size, 0, none⟩) := hd 0 (by decide)
        clear hd
        obtain ⟨c0, c1, c2, c3⟩ := HC3.out.bel hW
        simp only [putAll, Act.put, List.setIfInBounds_toArray, List.set_cons_succ, List.set_cons_zero, Nat.reduceAdd, Nat.zero_add, h0]
        gi_wp2_with fail
        refine HK.out _ _ ?_ ?_ ?_
        · simp only [putAll, Act.put, List.setIfInBounds_toArray, List.set_cons_succ, List.set_cons_zero, Nat.reduceAdd, Nat.zero_add, h0] <;> kernel_rfl
        · rfl
        · exact Bel.refl _
      · refine growOp_k ?_; intro vs W hW hd K HK
        have h1 : (vs 1) = .slice pa s.paints.length pc := hd 1 (by decide)
        clear hd
        simp only [putAll, Act.put, List.setIfInBounds_toArray, List.set_cons_succ, List.set_cons_zero, Nat.reduceAdd, Nat.zero_add, h1]
        gi_wp2_with fail
        refine HK.out _ _ ?_ ?_ ?_
        · simp only [putAll, Act.put, List.setIfInBounds_toArray, List.set_cons_succ, List.set_cons_zero, Nat.reduceAdd, Nat.zero_add, h1] <;> kernel_rfl
        · rfl
        · exact Bel.refl _
      · refine growOp_k ?_; intro vs W hW hd K HK
        have h2 : (vs 2) = .int .i64 (s.paints.length : Int) := hd 2 (by decide)
        clear hd
        simp only [putAll, Act.put, List.setIfInBounds_toArray, List.set_cons_succ, List.set_cons_zero, Nat.reduceAdd, Nat.zero_add, h2]
        gi_wp2_with fail
        refine ⟨trivial, rfl, (callsW (gspans_any _ _ _ W (HG1.out.bel hW) hn5 HI1.out)).mono ?_⟩
        rintro e w1 ⟨r, rfl, hr, hb⟩
        gi_wp2_with fail
        refine HK.out _ _ ?_ ?_ ?_
        · simp only [putAll, Act.put, List.setIfInBounds_toArray, List.set_cons_succ, List.set_cons_zero, Nat.reduceAdd, Nat.zero_add, h2] <;> kernel_rfl
        · exact hr
        · exact hb
      · refine growOp_k ?_; intro vs W hW hd K HK
        clear hd
        simp only [putAll, Act.put, List.setIfInBounds_toArray, List.set_cons_succ, List.set_cons_zero, Nat.reduceAdd, Nat.zero_add]
        gi_wp2_with fail
        refine HK.out _ _ ?_ ?_ ?_
        · simp only [putAll, Act.put, List.setIfInBounds_toArray, List.set_cons_succ, List.set_cons_zero, Nat.reduceAdd, Nat.zero_add] <;> kernel_rfl
        · rfl
        · exact Bel.refl _
      · refine growOp_k ?_; intro vs W hW hd K HK
        have h4 : (vs 4) = .pointer (some ⟨w.heap.size, 0, none⟩) := hd 4 (by decide)
        clear hd
        obtain ⟨c0, c1, c2, c3⟩ := HC3.out.bel hW
        simp only [putAll, Act.put, List.setIfInBounds_toArray, List.set_cons_succ, List.set_cons_zero, Nat.reduceAdd, Nat.zero_add, h4]
        gi_wp2_with fail
        refine HK.out _ _ ?_ ?_ ?_
        · simp only [putAll, Act.put, List.setIfInBounds_toArray, List.set_cons_succ, List.set_cons_zero, Nat.reduceAdd, Nat.zero_add, h4] <;> kernel_rfl
        · rfl
        · exact Bel.refl _
      · refine growOp_k ?_; intro vs W hW hd K HK
        have h5 : (vs 5) = .slice pa s.paints.length pc := hd 5 (by decide)
        clear hd
        simp only [putAll, Act.put, List.setIfInBounds_toArray, List.set_cons_succ, List.set_cons_zero, Nat.reduceAdd, Nat.zero_add, h5]
        gi_wp2_with fail
        refine HK.out _ _ ?_ ?_ ?_
        · simp only [putAll, Act.put, List.setIfInBounds_toArray, List.set_cons_succ, List.set_cons_zero, Nat.reduceAdd, Nat.zero_add, h5] <;> kernel_rfl
        · rfl
        · exact Bel.refl _
      · refine growOp_k ?_; intro vs W hW hd K HK
        have h6 : (vs 6) = .int .i64 (s.paints.length : Int) := hd 6 (by decide)
        clear hd
        simp only [putAll, Act.put, List.setIfInBounds_toArray, List.set_cons_succ, List.set_cons_zero, Nat.reduceAdd, Nat.zero_add, h6]
        gi_wp2_with fail
        refine ⟨trivial, rfl, (callsW (gspans_any _ _ _ W (HG2.out.bel hW) hn5 HI2.out)).mono ?_⟩
        rintro e w1 ⟨r, rfl, hr, hb⟩
        gi_wp2_with fail
        refine HK.out _ _ ?_ ?_ ?_
        · simp only [putAll, Act.put, List.setIfInBounds_toArray, List.set_cons_succ, List.set_cons_zero, Nat.reduceAdd, Nat.zero_add, h6] <;> kernel_rfl
        · exact hr
        · exact hb
      · refine growOp_k ?_; intro vs W hW hd K HK
        have h3 : Spans W (vs 3) s.paints.length (fun c => -CSet.gat hg 5 c) (fun c => CSet.gat hg c 5) := hd 3 (by decide)
        clear hd
        simp only [putAll, Act.put, List.setIfInBounds_toArray, List.set_cons_succ, List.set_cons_zero, Nat.reduceAdd, Nat.zero_add]
        gi_wp2_with fail
        refine HK.out _ _ ?_ ?_ ?_
        · simp only [putAll, Act.put, List.setIfInBounds_toArray, List.set_cons_succ, List.set_cons_zero, Nat.reduceAdd, Nat.zero_add] <;> kernel_rfl
        · exact h3
        · exact Bel.refl _
      · refine growOp_k ?_; intro vs W hW hd K HK
        have h7 : Spans W (vs 7) s.paints.length (fun c => -CSet.gat sg 5 c) (fun c => CSet.gat sg c 5) := hd 7 (by decide)
        clear hd
        simp only [putAll, Act.put, List.setIfInBounds_toArray, List.set_cons_succ, List.set_cons_zero, Nat.reduceAdd, Nat.zero_add]
        gi_wp2_with fail
        refine HK.out _ _ ?_ ?_ ?_
        · simp only [putAll, Act.put, List.setIfInBounds_toArray, List.set_cons_succ, List.set_cons_zero, Nat.reduceAdd, Nat.zero_add] <;> kernel_rfl
        · exact h7
        · exact Bel.refl _
      · refine growOp_k ?_; intro vs W hW hd K HK
        clear hd
        simp only [putAll, Act.put, List.setIfInBounds_toArray, List.set_cons_succ, List.set_cons_zero, Nat.reduceAdd, Nat.zero_add]
        gi_wp2_with fail
        refine HK.out _ _ ?_ ?_ ?_
        · simp only [putAll, Act.put, List.setIfInBounds_toArray, List.set_cons_succ, List.set_cons_zero, Nat.reduceAdd, Nat.zero_add] <;> kernel_rfl
        · rfl
        · exact Bel.refl _
    · intro vs W hW hall
      have g8 := Lib.hid (show Spans W (vs 8) s.paints.length (fun c => -CSet.gat hg 5 c) (fun c => CSet.gat hg c 5) from hall 8 (by decide))
      have g9 := Lib.hid (show Spans W (vs 9) s.paints.length (fun c => -CSet.gat sg 5 c) (fun c => CSet.gat sg c 5) from hall 9 (by decide))
      have g10 : vs 10 = .int .i64 0 := hall 10 (by decide)
      clear hall
      simp only [putAll, Act.put, List.setIfInBounds_toArray, List.set_cons_succ, List.set_cons_zero, Nat.reduceAdd, Nat.zero_add, g10]
      have HBW := Lib.hid (HB3.out.trans hW)
      clear hW
      gi_wp2_with fail
      go_ret3
      exact ⟨_, _, _, rfl, by rw [HTR.out]; exact ⟨rfl, by rw [← HQ.out.1]; exact g8.out, by rw [← HQ.out.2]; exact g9.out⟩, HBW.out⟩

end Go.Proofs.Ytpkadofgmhninaa
namespace Go.Proofs.Ytpkadofgmhninaa
open Go.RowKit
attribute [local go_sem] Oper.semAt_some

def WrongV (n : Nat) (s : CSet) (ps : List Rounds) (v : Value) (er : Int) (W : World) : Prop :=
  if s.canDrop ps [] then v = .slice none 0 0 ∧ er = 6 else FewV n (CSet.fewest (s.canDrop ps) (List.range ps.length)) v W ∧ er = 0
theorem range_snocN (k : Nat) : List.range (k + 1) = List.range k ++ [k] := List.range_succ

set_option maxRecDepth 100000 in
set_option maxHeartbeats 8000000 in
theorem wrong_any (s : CSet) (hs : s.Ok) (v lv : Value) (ps : List Rounds) (w : World) (hv : SetV w v s) (hl : Plns w lv ps) (hp : ∀ p, p ∈ ps → PlanOk s.paints.length p ∧ ∀ r, r ∈ p → Asc s.paints.length r) (h3 : ps.length ≤ 3) :
    Calls Try.prog 28 #[v, lv] w fun e w' => ∃ r er, e = .returned (.tuple #[r, .int .i64 er]) ∧ WrongV w.heap.size s ps r er w' ∧ Bel w w' := by
  obtain ⟨i0, hi, hz0, hz1, hz2⟩ := info_parts Try.info3
  have k1 := fun W (hW : Bel w W) => checkTrials_yes s hs v lv ps W (hv.bel hW) (hl.bel hW) hp h3
  obtain ⟨pv, ev, rfl, h1, h2⟩ := hv
  have k2 := fun W (hW : Bel w W) dv d (hd : Cols W dv d) => tcan_any s hs pv ev lv dv ps d W (h1.bel hW) (h2.bel hW) (hl.bel hW) hd (fun p hpm => (hp p hpm).1) (by omega)
  have k3 := fun W0 (hW0 : Bel w W0) nv (hn : Cols W0 nv (List.range ps.length)) => fewest_any 50 #[.agg #[pv, .int .i64 s.near, .int .i64 s.give, ev, lv]] #[] (enters_of Try.func50 (by kernel_rfl) rfl) nv (List.range ps.length) (s.canDrop ps) W0 hn (by simp; omega)
    (fun W v x hb hx hne hsub => k2 W (hW0.trans hb) v x hx)
  have c4 := C4.new w pv (.int .i64 s.near) (.int .i64 s.give) ev 31
  have K1 := Lib.hid k1
  have K2 := Lib.hid k2
  have K3 := Lib.hid k3
  have C := Lib.hid c4
  obtain ⟨pa, pc, rfl, -, -, -, -⟩ := h1
  obtain ⟨ea, ec, rfl, -, -, -, -⟩ := h2
  obtain ⟨la, lc, lx, rfl, -, hlc, -, -⟩ := hl
  obtain ⟨c0, c1, c2, c3⟩ := c4
  unfold maxLen at hlc
  clear hs k1 k2 k3 hp
  refine (callsIn_wide (n := 0)).1 (callsIn_of_wp Try.func28 rfl trivial ?_ rfl)
  simp only [Try.ntmps28, List.size_toArray, List.length_cons, List.length_nil, Nat.reduceAdd, Nat.reduceSub, Array.replicate_succ, Array.replicate_zero, List.push_toArray, List.append_toArray, List.nil_append, List.cons_append]
  gi_wp2_with fail
  refine ⟨trivial, rfl, (callsW (K1.out _ ((Bel.refl w).alloc _))).mono ?_⟩
  rintro e w1 ⟨rfl, hb⟩
  have HC := Lib.hid (C.out.bel hb)
  have HB := Lib.hid (((Bel.refl w).alloc _).trans hb)
  clear c0 c1 c2 c3 hb
  obtain ⟨c0, c1, c2, c3⟩ := HC.out
  have HF5 := Lib.hid (C5.new w1 (.slice pa s.paints.length pc) (.int .i64 s.near) (.int .i64 s.give) (.slice ea s.eats.length ec) (.slice la ps.length lc) 92)
  obtain ⟨d0, d1, d2, d3, d4⟩ := HF5.out
  have HBA := Lib.hid (HB.out.alloc (.cells #[.slice pa s.paints.length pc, .int .i64 s.near, .int .i64 s.give, .slice ea s.eats.length ec, .slice la ps.length lc] 92))
  gi_wp2_with fail
  refine ⟨trivial, rfl, (callsW (K2.out _ HBA.out _ [] (cols_nil _))).mono ?_⟩
  rintro e w2 ⟨rfl, hb⟩
  have HB2 := Lib.hid (HBA.out.trans hb)
  have HF6 := Lib.hid (HF5.out.bel hb)
  clear hb c0 c1 c2 c3 d0 d1 d2 d3 d4
  cases hcan : s.canDrop ps [] with
  | true =>
    have HCAN := Lib.hid hcan
    clear hcan
    gi_wp2_with fail
    go_ret2
    exact ⟨_, _, rfl, by unfold WrongV; rw [HCAN.out]; exact ⟨rfl, rfl⟩, HB2.out⟩
  | false =>
    have HCAN := Lib.hid hcan
    clear hcan
    gi_wp2_with fail
    gi_loopw [8, 23] (fun r i wr => ∃ k : Nat, k ≤ ps.length ∧ i = .int .i64 k ∧ wr.ownsRow w2.heap.size 3 1 r k (valsOf (List.range k)) ∧ Bel w2 wr) (fun _ i _ => ps.length - (intOf i).toNat)
    case atStart => exact ⟨0, Nat.zero_le _, rfl, ⟨rfl, .inl ⟨rfl, rfl⟩⟩, Bel.refl _⟩
    case round =>
      obtain ⟨k, hk, rfl, ho, hb⟩ := hrel
      have HO := Lib.hid ho
      have HBX := Lib.hid hb
      have hsz := hb.size
      clear ho hb
      by_cases hlt : k < ps.length
      · have HS := Lib.hid (show valsOf (List.range (k + 1)) = valsOf (List.range k) ++ [.int .i64 (k : Int)] by unfold valsOf; rw [range_snocN, List.map_append]; rfl)
        have hm1 : k + 1 ≤ maxLen := by unfold maxLen; omega
        have hm2 : (k + 1) * 8 ≤ 140737488355328 := by omega
        have hm3 : w2.heap.size ≤ (wr.alloc (.cells #[.int .i64 (k : Int)] 3)).heap.size := by simp; omega
        generalize valsOf (List.range k) = R at *
        gi_wp2_with (gi_at_builtin; refine wpListIn_append_own _ rfl _ _ 32 rfl w2.heap.size 3 i0 (.int .i64 0) 1 8 Try.underlying32 hi hz0 hz1 hz2 rfl (by decide) _ _ _ rfl (HO.out.alloc _) ⟨wr.heap.size, 0, none⟩ 1 1 [.int .i64 (k : Int)] rfl rfl (one_new _ _ _) (by simp [Value.oneCell']) hm1 hm2 hm3 ?_; intro v' w3 hown2 hgrow _; have HO2 := Lib.hid hown2; have HB3 := Lib.hid ((HBX.out.alloc _).grown hgrow (fun k hk => (HO.out.lt k hk).1)); clear hown2 hgrow)
        go_roundw
        case rel => exact ⟨k + 1, by omega, by go_num, by rw [HS.out]; exact HO2.out, HB3.out⟩
        case measure => simp [intOf]; omega
      · obtain rfl : k = ps.length := by omega
        have hcn := own_cols (base := w2.heap.size) (l := List.range ps.length) (by rw [List.length_range]; exact HO.out)
        have HCN := Lib.hid hcn
        obtain ⟨na, nc, rfl, -, -, -, -⟩ := hcn
        simp only [List.length_map, List.length_range] at HCN HO
        obtain ⟨d0, d1, d2, d3, d4⟩ := HF6.out.bel HBX.out
        clear hlt
        gi_wp2_with fail
        refine ⟨trivial, rfl, (callsW (K3.out wr (HB2.out.trans HBX.out) _ HCN.out)).mono ?_⟩
        rintro e w3 ⟨r, rfl, hf, hb⟩
        have HB3 := Lib.hid ((HB2.out.trans HBX.out).trans hb)
        have HFW := Lib.hid (hf.mono (m := w.heap.size) (HB2.out.trans HBX.out).size)
        clear hb hf d0 d1 d2 d3 d4
        gi_wp2_with fail
        go_ret2
        exact ⟨_, _, rfl, by unfold WrongV; rw [HCAN.out]; exact ⟨HFW.out, rfl⟩, HB3.out⟩

end Go.Proofs.Ytpkadofgmhninaa
