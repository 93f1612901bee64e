/- Some calls return what the document's examples say. -/
import Derived.Test.YtpkadofgmhninaaRows2
namespace Go.Proofs.Ytpkadofgmhninaa
open Go.RowKit
attribute [local go_sem] Oper.semAt_some

theorem pairs_one (W : World) (t : TypeId) (B : Nat) (hB : W.heap.size = B) : Pairs (W.alloc (.cells #[.int .i64 3, .int .i64 2] t)) (.slice (some ⟨B, 0, none⟩) 1 1) [(3, 2)] := by
  subst hB
  refine ⟨_, 1, rfl, Nat.le_refl _, by unfold maxLen; omega, nofun, fun i hi => ⟨W.heap.size, 0, rfl, ?_⟩⟩
  have h := World.alloc_heap_new W (.cells #[.int .i64 3, .int .i64 2] t)
  have : i = 0 := by simp at hi; omega
  subst this
  simp only [World.cell?, h]
  exact ⟨rfl, rfl⟩
theorem asc3 : Asc 4 [0, 1, 2] := ⟨by decide, by decide⟩
theorem asc4 : Asc 4 [0, 1, 2, 3] := ⟨by decide, by decide⟩
theorem asc2 : Asc 4 [0, 1] := ⟨by decide, by decide⟩
theorem pok3 : PlanOk 4 [[0], [1], [2]] := ⟨by decide, fun r hr => (by decide : ∀ r ∈ [[0], [1], [2]], (∀ c ∈ r, c < 4) ∧ r.Nodup) r hr, by decide⟩
theorem pok2 : PlanOk 4 [[0, 1], [2]] := ⟨by decide, fun r hr => (by decide : ∀ r ∈ [[0, 1], [2]], (∀ c ∈ r, c < 4) ∧ r.Nodup) r hr, by decide⟩
theorem pasc3 : ∀ r, r ∈ [[0], [1], [2]] → Asc 4 r := fun r hr => (by decide : ∀ r ∈ [[0], [1], [2]], (∀ c ∈ r, c < 4) ∧ r.Pairwise (· < ·)) r hr
theorem pasc2 : ∀ r, r ∈ [[0, 1], [2]] → Asc 4 r := fun r hr => (by decide : ∀ r ∈ [[0, 1], [2]], (∀ c ∈ r, c < 4) ∧ r.Pairwise (· < ·)) r hr
abbrev E1 : CSet := exSet [(3, 2)]
theorem E1ok : E1.Ok := exSet_ok _ (.inl rfl)

theorem ex_low2 : ∀ i, i < 3 → E1.lowAt [[0], [1], [2]] i = [870, 820, 790].getD i 0 := by decide +kernel
theorem ex_high2 : ∀ i, i < 3 → E1.highAt [[0], [1], [2]] i = [1000, 849, 799].getD i 0 := by decide +kernel
theorem spans_three (W : World) (B : Nat) (hB : W.heap.size = B) : Spans (W.alloc (.cells #[.int .i64 870, .int .i64 1000, .int .i64 820, .int .i64 849, .int .i64 790, .int .i64 799] 54)) (.slice (some ⟨B, 0, none⟩) 3 3) 3 (E1.lowAt [[0], [1], [2]]) (E1.highAt [[0], [1], [2]]) := by
  subst hB
  refine ⟨_, 3, rfl, Nat.le_refl _, by unfold maxLen; omega, nofun, fun i hi => ⟨W.heap.size, 0, rfl, ?_⟩⟩
  have h := World.alloc_heap_new W (.cells #[.int .i64 870, .int .i64 1000, .int .i64 820, .int .i64 849, .int .i64 790, .int .i64 799] 54)
  rw [ex_low2 i hi, ex_high2 i hi]
  simp only [World.cell?, h]
  have : i = 0 ∨ i = 1 ∨ i = 2 := by omega
  rcases this with rfl | rfl | rfl <;> exact ⟨rfl, rfl⟩
theorem FewV.bel {n : Nat} {o : Option (List Nat)} {v : Value} {A B : World} (h : FewV n o v A) (q : Bel A B) : FewV n o v B := h.quiet (q.quiet 0)
theorem rnds_four {W : World} (v1 v2 v3 v4 : Value) (t : TypeId) (B : Nat) {a b c d : List Nat} (hB : W.heap.size = B) (h1 : Cols W v1 a) (h2 : Cols W v2 b) (h3 : Cols W v3 c) (h4 : Cols W v4 d) : Rnds (W.alloc (.cells #[v1, v2, v3, v4] t)) (.slice (some ⟨B, 0, none⟩) 4 4) [a, b, c, d] := by
  subst hB
  refine rnds_row (vs := [v1, v2, v3, v4]) (World.alloc_heap_new W _) rfl rfl (by simp) (fun i hi => ?_)
  have : i = 0 ∨ i = 1 ∨ i = 2 ∨ i = 3 := by simp at hi; omega
  rcases this with rfl | rfl | rfl | rfl
  · exact h1.bel ((Bel.refl _).alloc _)
  · exact h2.bel ((Bel.refl _).alloc _)
  · exact h3.bel ((Bel.refl _).alloc _)
  · exact h4.bel ((Bel.refl _).alloc _)
theorem ex_h : ∀ c, c < 3 → -CSet.gat (E1.heatG [[[0, 1], [2]]]) 5 c = [850, 820, 770].getD c 0 := by decide +kernel
theorem ex_k : ∀ c, c < 3 → CSet.gat (E1.heatG [[[0, 1], [2]]]) c 5 = [850, 820, 790].getD c 0 := by decide +kernel
theorem ex_s : -CSet.gat (E1.stretchG [[[0, 1], [2]]]) 5 0 = 90 := by decide +kernel
theorem ex_t : CSet.gat (E1.stretchG [[[0, 1], [2]]]) 0 5 = 100 := by decide +kernel
theorem pokw : ∀ p, p ∈ [[[1], [0]], [[0], [1]]] → PlanOk E1.paints.length p ∧ ∀ r, r ∈ p → Asc E1.paints.length r := by
  intro p hp
  simp at hp
  rcases hp with rfl | rfl
  · exact ⟨⟨by decide, fun r hr => (by decide : ∀ r ∈ [[1], [0]], (∀ c ∈ r, c < 4) ∧ r.Nodup) r hr, by decide⟩, fun r hr => (by decide : ∀ r ∈ [[1], [0]], (∀ c ∈ r, c < 4) ∧ r.Pairwise (· < ·)) r hr⟩
  · exact ⟨⟨by decide, fun r hr => (by decide : ∀ r ∈ [[0], [1]], (∀ c ∈ r, c < 4) ∧ r.Nodup) r hr, by decide⟩, fun r hr => (by decide : ∀ r ∈ [[0], [1]], (∀ c ∈ r, c < 4) ∧ r.Pairwise (· < ·)) r hr⟩
theorem ex_fires2 : ∀ c, c < 4 → (E1.fire [[0], [1], [2]]).1 c = [4, 3, 1, 0].getD c 0 := by decide +kernel
theorem ints_fire {W : World} {ea eb : Nat} (x1 : E1.paints.length ≤ eb) (x2 : eb ≤ maxLen) (x3 : ∀ c, c < E1.paints.length → W.cell? ⟨ea, c, none⟩ = some (.int .i64 ((E1.fire [[0], [1], [2]]).1 c))) : Ints W (.slice (some ⟨ea, 0, none⟩) E1.paints.length eb) [4, 3, 1, 0] := by
  refine ⟨_, eb, rfl, x1, x2, nofun, fun i hi => ⟨ea, 0, rfl, ?_⟩⟩
  rw [Nat.zero_add, x3 i hi, ex_fires2 i hi]

set_option maxRecDepth 100000 in
set_option maxHeartbeats 16000000 in
theorem known_any (w : World) : Calls Try.prog 18 #[] w fun e w' => e = .returned (.bool true) ∧ Bel w w' := by
  obtain ⟨W0, hW0⟩ : ∃ W0, ((w.alloc (.cells #[.int .i64 3, .int .i64 2] 85)).alloc (.cells #[.int .i64 0, .int .i64 1, .int .i64 2] 3)).alloc (.cells #[.int .i64 0, .int .i64 1, .int .i64 2, .int .i64 3] 3) = W0 := ⟨_, rfl⟩
  have hf : C2 W0 w.heap.size (.int .i64 3) (.int .i64 2) ∧ Cols W0 (.slice (some ⟨w.heap.size + 1, 0, none⟩) 3 3) [0, 1, 2] ∧ Cols W0 (.slice (some ⟨w.heap.size + 1 + 1, 0, none⟩) 4 4) [0, 1, 2, 3] ∧ Bel w W0 := by
    rw [← hW0]
    have e1 := C2.new w (.int .i64 3) (.int .i64 2) 85
    have e2 := World.alloc_heap_new (w.alloc (.cells #[.int .i64 3, .int .i64 2] 85)) (.cells #[.int .i64 0, .int .i64 1, .int .i64 2] 3)
    have e3 := World.alloc_heap_new ((w.alloc (.cells #[.int .i64 3, .int .i64 2] 85)).alloc (.cells #[.int .i64 0, .int .i64 1, .int .i64 2] 3)) (.cells #[.int .i64 0, .int .i64 1, .int .i64 2, .int .i64 3] 3)
    rw [World.size_alloc] at e2
    rw [World.size_alloc, World.size_alloc] at e3
    exact ⟨(e1.bel ((Bel.refl _).alloc _)).bel ((Bel.refl _).alloc _), (cols_row (l := [0, 1, 2]) e2 rfl rfl (by decide)).bel ((Bel.refl _).alloc _), cols_row (l := [0, 1, 2, 3]) e3 rfl rfl (by decide), (((Bel.refl w).alloc _).alloc _).alloc _⟩
  obtain ⟨f0, f1, f2, f3⟩ := hf
  have P0 := Lib.hid f0
  have T0 := Lib.hid f1
  have Q0 := Lib.hid f2
  have B0 := Lib.hid f3
  have HW0 := Lib.hid hW0
  obtain ⟨c0, c1⟩ := f0
  rw [← hW0] at c0 c1
  clear f1 f2 f3 hW0
  refine (callsIn_wide (n := 0)).1 (callsIn_of_wp Try.func18 rfl trivial ?_ rfl)
  simp only [Try.ntmps18, List.size_toArray, List.length_nil, Nat.reduceSub, Array.replicate_succ, Array.replicate_zero, List.push_toArray, List.append_toArray, List.nil_append, List.cons_append]
  gi_wp2_with fail
  clear c0 c1
  refine ⟨trivial, rfl, (callsW (paints_any _ [(3, 2)] _ (pairs_one _ _ _ (by simp)))).mono ?_⟩
  rintro e w1 ⟨v1, rfl, hs, hb⟩
  have S1 := Lib.hid hs
  have hbb : Bel W0 w1 := by rw [← HW0.out]; exact ((Bel.refl _).alloc _).trans hb
  have D1 := Lib.hid hbb
  clear hs hb hbb HW0
  gi_wp2_with fail
  refine ⟨trivial, rfl, (callsW (plan_any E1 E1ok v1 _ [0, 1, 2] w1 S1.out (T0.out.bel D1.out) asc3)).mono ?_⟩
  rintro e w2 ⟨r4, er, rfl, hpl, hb⟩
  rw [ex_plan3] at hpl
  obtain ⟨⟨hh, hpl⟩, rfl⟩ := hpl
  have R4 := Lib.hid hpl.rnds
  have D2 := Lib.hid (D1.out.trans hb)
  clear hpl hb
  obtain ⟨c0, c1⟩ := P0.out.bel D2.out
  gi_wp2_with fail
  clear c0 c1
  refine ⟨trivial, rfl, (callsW (paints_any _ [(3, 2)] _ (pairs_one _ _ _ rfl))).mono ?_⟩
  rintro e w3 ⟨v3, rfl, hs, hb⟩
  have S3 := Lib.hid hs
  have D3 := Lib.hid ((D2.out.alloc _).trans hb)
  have N3 := Lib.hid (((Bel.refl _).alloc _).trans hb)
  clear hs hb
  gi_wp2_with fail
  refine ⟨trivial, rfl, (callsW (firingsC_any E1 E1ok v3 _ [[0], [1], [2]] _ (S3.out.bel (((((Bel.refl _).alloc _).alloc _).alloc _).alloc _)) (rnds_three _ [0] [1] [2] _ _ _ _ _ _ _ rfl rfl rfl rfl rfl rfl (by decide) (by decide) (by decide) rfl) pok3 pasc3)).mono ?_⟩
  rintro e w4 ⟨ea6, eb6, rfl, x1, x2, x3, hb⟩
  have D4 := Lib.hid (((((D3.out.alloc _).alloc _).alloc _).alloc _).trans hb)
  have N4 := Lib.hid ((((((Bel.refl _).alloc _).alloc _).alloc _).alloc _).trans hb)
  rw [ex_fire]
  have X6 := Lib.hid (ints_fire x1 x2 x3)
  clear hb x1 x2 x3
  obtain ⟨c0, c1⟩ := P0.out.bel D4.out
  gi_wp2_with fail
  clear c0 c1
  refine ⟨trivial, rfl, (callsW (paints_any _ [(3, 2)] _ (pairs_one _ _ _ rfl))).mono ?_⟩
  rintro e w5 ⟨v5, rfl, hs, hb⟩
  have S5 := Lib.hid hs
  have D5 := Lib.hid ((D4.out.alloc _).trans hb)
  have N5 := Lib.hid (((Bel.refl _).alloc _).trans hb)
  clear hs hb
  gi_wp2_with fail
  refine ⟨trivial, rfl, (callsW (heatsC_any E1 E1ok v5 _ [[0], [1], [2]] _ (S5.out.bel (((((Bel.refl _).alloc _).alloc _).alloc _).alloc _)) (rnds_three _ [0] [1] [2] _ _ _ _ _ _ _ rfl rfl rfl rfl rfl rfl (by decide) (by decide) (by decide) rfl) pok3 pasc3)).mono ?_⟩
  rintro e w6 ⟨r9, er, rfl, hpl, hb⟩
  have D6 := Lib.hid (((((D5.out.alloc _).alloc _).alloc _).alloc _).trans hb)
  have N6 := Lib.hid ((((((Bel.refl _).alloc _).alloc _).alloc _).alloc _).trans hb)
  rw [ex_sure] at hpl
  obtain ⟨rfl, hpl⟩ := hpl
  have R9 := Lib.hid hpl
  clear hpl hb
  obtain ⟨c0, c1⟩ := P0.out.bel D6.out
  gi_wp2_with fail
  clear c0 c1
  refine ⟨trivial, rfl, (callsW (paints_any _ [(3, 2)] _ (pairs_one _ _ _ rfl))).mono ?_⟩
  rintro e w7 ⟨v7, rfl, hs, hb⟩
  have S7 := Lib.hid hs
  have D7 := Lib.hid ((D6.out.alloc _).trans hb)
  have N7 := Lib.hid (((Bel.refl _).alloc _).trans hb)
  clear hs hb
  gi_wp2_with fail
  refine ⟨trivial, rfl, (callsW (plan_any E1 E1ok v7 _ [0, 1, 2, 3] _ S7.out (Q0.out.bel D7.out) asc4)).mono ?_⟩
  rintro e w8 ⟨r11, er, rfl, hpl, hb⟩
  have D8 := Lib.hid (D7.out.trans hb)
  have N8 := Lib.hid ((Bel.refl _).trans hb)
  rw [ex_plan4] at hpl
  obtain ⟨rfl, rfl⟩ := hpl
  clear hb
  obtain ⟨c0, c1⟩ := P0.out.bel D8.out
  gi_wp2_with fail
  clear c0 c1
  refine ⟨trivial, rfl, (callsW (paints_any _ [(3, 2)] _ (pairs_one _ _ _ rfl))).mono ?_⟩
  rintro e w9 ⟨v9, rfl, hs, hb⟩
  have S9 := Lib.hid hs
  have D9 := Lib.hid ((D8.out.alloc _).trans hb)
  have N9 := Lib.hid (((Bel.refl _).alloc _).trans hb)
  clear hs hb
  gi_wp2_with fail
  refine ⟨trivial, rfl, (callsW (bar_any E1 E1ok v9 _ [0, 1, 2, 3] _ S9.out (Q0.out.bel D9.out) asc4)).mono ?_⟩
  rintro e w10 ⟨r13, er, rfl, hpl, hb⟩
  have D10 := Lib.hid (D9.out.trans hb)
  have N10 := Lib.hid ((Bel.refl _).trans hb)
  unfold BarV at hpl
  rw [ex_can4, ex_bar] at hpl
  obtain ⟨⟨hpl, -⟩, rfl⟩ := hpl
  have R13 := Lib.hid hpl
  clear hb hpl
  obtain ⟨c0, c1⟩ := P0.out.bel D10.out
  gi_wp2_with fail
  clear c0 c1
  refine ⟨trivial, rfl, (callsW (paints_any _ [(3, 2)] _ (pairs_one _ _ _ rfl))).mono ?_⟩
  rintro e w11 ⟨v11, rfl, hs, hb⟩
  have S11 := Lib.hid hs
  have D11 := Lib.hid ((D10.out.alloc _).trans hb)
  have N11 := Lib.hid (((Bel.refl _).alloc _).trans hb)
  clear hs hb
  gi_wp2_with fail
  refine ⟨trivial, rfl, (callsW (with_any E1 E1ok v11 _ [0, 1] _ (S11.out.bel ((Bel.refl _).alloc _)) (cols_alloc _ 3 [0, 1] _ _ _ rfl rfl (by decide) rfl) asc2)).mono ?_⟩
  rintro e w12 ⟨r15, rfl, hpl, hb⟩
  have D12 := Lib.hid ((D11.out.alloc _).trans hb)
  have N12 := Lib.hid (((Bel.refl _).alloc _).trans hb)
  rw [ex_with2] at hpl
  have R15 := Lib.hid hpl
  clear hb hpl
  obtain ⟨c0, c1⟩ := P0.out.bel D12.out
  gi_wp2_with fail
  clear c0 c1
  refine ⟨trivial, rfl, (callsW (paints_any _ [(3, 2)] _ (pairs_one _ _ _ rfl))).mono ?_⟩
  rintro e w13 ⟨v13, rfl, hs, hb⟩
  have S13 := Lib.hid hs
  have D13 := Lib.hid ((D12.out.alloc _).trans hb)
  have N13 := Lib.hid (((Bel.refl _).alloc _).trans hb)
  clear hs hb
  gi_wp2_with fail
  refine ⟨trivial, rfl, (callsW (with_any E1 E1ok v13 _ [0, 1, 2] _ S13.out (T0.out.bel D13.out) asc3)).mono ?_⟩
  rintro e w14 ⟨r17, rfl, hpl, hb⟩
  have D14 := Lib.hid (D13.out.trans hb)
  have N14 := Lib.hid ((Bel.refl _).trans hb)
  rw [ex_with3] at hpl
  obtain ⟨a17, c17, e17, -, -, -, -⟩ := hpl
  have E17 := Lib.hid e17
  clear hb e17
  obtain ⟨c0, c1⟩ := P0.out.bel D14.out
  clear c0 c1
  gi_wp2_with fail
  refine ⟨trivial, rfl, (callsW (paints_any _ [] _ ⟨none, 0, rfl, Nat.le_refl _, Nat.zero_le _, fun _ => rfl, nofun⟩)).mono ?_⟩
  rintro e w15 ⟨v15, rfl, hs, hb⟩
  have S15 := Lib.hid hs
  have D15 := Lib.hid (D14.out.trans hb)
  have N15 := Lib.hid hb
  clear hs hb
  gi_wp2_with fail
  refine ⟨trivial, rfl, (callsW (plan_any (exSet []) (exSet_ok _ (.inr rfl)) v15 _ [0, 1, 2, 3] _ S15.out (Q0.out.bel D15.out) asc4)).mono ?_⟩
  rintro e w16 ⟨r19, er, rfl, hpl, hb⟩
  have D16 := Lib.hid (D15.out.trans hb)
  have N16 := Lib.hid ((Bel.refl _).trans hb)
  rw [ex_long] at hpl
  obtain ⟨⟨hh, hpl⟩, rfl⟩ := hpl
  have R19 := Lib.hid hpl.rnds
  clear hb hpl
  obtain ⟨c0, c1⟩ := P0.out.bel D16.out
  gi_wp2_with fail
  clear c0 c1
  refine ⟨trivial, rfl, (callsW (paints_any _ [(3, 2)] _ (pairs_one _ _ _ rfl))).mono ?_⟩
  rintro e w17 ⟨v17, rfl, hs, hb⟩
  have S17 := Lib.hid hs
  have D17 := Lib.hid ((D16.out.alloc _).trans hb)
  have N17 := Lib.hid (((Bel.refl _).alloc _).trans hb)
  clear hs hb
  gi_wp2_with fail
  refine ⟨trivial, rfl, (callsW (is_any E1 E1ok v17 _ [[0, 1], [2]] _ (S17.out.bel ((((Bel.refl _).alloc _).alloc _).alloc _)) (rnds_two _ [0, 1] [2] _ _ _ _ _ rfl rfl rfl rfl (by decide) (by decide) rfl) pok2 pasc2)).mono ?_⟩
  rintro e w18 ⟨rfl, hb⟩
  have D18 := Lib.hid ((((D17.out.alloc _).alloc _).alloc _).trans hb)
  have N18 := Lib.hid (((((Bel.refl _).alloc _).alloc _).alloc _).trans hb)
  rw [ex_is1, ex_is2]
  clear hb
  obtain ⟨c0, c1⟩ := P0.out.bel D18.out
  gi_wp2_with fail
  clear c0 c1
  refine ⟨trivial, rfl, (callsW (paints_any _ [(3, 2)] _ (pairs_one _ _ _ rfl))).mono ?_⟩
  rintro e w19 ⟨v19, rfl, hs, hb⟩
  have S19 := Lib.hid hs
  have D19 := Lib.hid ((D18.out.alloc _).trans hb)
  have N19 := Lib.hid (((Bel.refl _).alloc _).trans hb)
  clear hs hb
  gi_wp2_with fail
  refine ⟨trivial, rfl, (callsW (told_any E1 E1ok v19 _ [[[0, 1], [2]]] _ (S19.out.bel (((((Bel.refl _).alloc _).alloc _).alloc _).alloc _)) (plns_one' (rnds_two _ [0, 1] [2] _ _ _ _ _ rfl rfl rfl rfl (by decide) (by decide) rfl) 35 _ (by rw [World.size_alloc, World.size_alloc, World.size_alloc])) (fun p hp => by simp at hp; subst hp; exact ⟨pok2, pasc2⟩) (by decide))).mono ?_⟩
  rintro e w20 ⟨r24, r25, er, rfl, hpl, hb⟩
  have D20 := Lib.hid (((((D19.out.alloc _).alloc _).alloc _).alloc _).trans hb)
  have N20 := Lib.hid ((((((Bel.refl _).alloc _).alloc _).alloc _).alloc _).trans hb)
  rw [ex_is2] at hpl
  obtain ⟨rfl, hp1, hp2⟩ := hpl
  have R24 := Lib.hid hp1
  have R25 := Lib.hid hp2
  obtain ⟨a24, c24, e24⟩ := spans_sl hp1
  obtain ⟨a25, c25, e25⟩ := spans_sl hp2
  subst e24 e25
  clear hb hp1 hp2
  obtain ⟨c0, c1⟩ := P0.out.bel D20.out
  gi_wp2_with fail
  clear c0 c1
  refine ⟨trivial, rfl, (callsW (paints_any _ [(3, 2)] _ (pairs_one _ _ _ rfl))).mono ?_⟩
  rintro e w21 ⟨v21, rfl, hs, hb⟩
  have S21 := Lib.hid hs
  have D21 := Lib.hid ((D20.out.alloc _).trans hb)
  have N21 := Lib.hid (((Bel.refl _).alloc _).trans hb)
  clear hs hb
  gi_wp2_with fail
  refine ⟨trivial, rfl, (callsW (wrong_any E1 E1ok v21 _ [[[1], [0]], [[0], [1]]] _ (S21.out.bel ((((((((Bel.refl _).alloc _).alloc _).alloc _).alloc _).alloc _).alloc _).alloc _)) (plns_two ((rnds_two _ [1] [0] _ _ _ _ _ rfl rfl rfl rfl (by decide) (by decide) rfl).bel ((((Bel.refl _).alloc _).alloc _).alloc _)) (rnds_two _ [0] [1] _ _ _ _ _ rfl rfl rfl rfl (by decide) (by decide) (by rw [World.size_alloc, World.size_alloc, World.size_alloc])) (by simp only [World.size_alloc])) pokw (by decide))).mono ?_⟩
  rintro e w22 ⟨r27, er, rfl, hpl, hb⟩
  have D22 := Lib.hid ((((((((D21.out.alloc _).alloc _).alloc _).alloc _).alloc _).alloc _).alloc _).trans hb)
  have N22 := Lib.hid (((((((((Bel.refl _).alloc _).alloc _).alloc _).alloc _).alloc _).alloc _).alloc _).trans hb)
  unfold WrongV at hpl
  rw [ex_drop] at hpl
  have hpl2 : FewV _ (CSet.fewest (E1.canDrop [[[1], [0]], [[0], [1]]]) (List.range 2)) r27 _ ∧ er = 0 := hpl
  rw [ex_wrong] at hpl2
  obtain ⟨⟨hp1, -⟩, rfl⟩ := hpl2
  have R27 := Lib.hid hp1
  clear hb hp1 hpl
  have ZR4 := Lib.hid (R4.out.bel (((((((((((((((((((((Bel.refl _).trans N3.out).trans N4.out).trans N5.out).trans N6.out).trans N7.out).trans N8.out).trans N9.out).trans N10.out).trans N11.out).trans N12.out).trans N13.out).trans N14.out).trans N15.out).trans N16.out).trans N17.out).trans N18.out).trans N19.out).trans N20.out).trans N21.out).trans N22.out))
  have ZX6 := Lib.hid (X6.out.bel (((((((((((((((((((Bel.refl _).trans N5.out).trans N6.out).trans N7.out).trans N8.out).trans N9.out).trans N10.out).trans N11.out).trans N12.out).trans N13.out).trans N14.out).trans N15.out).trans N16.out).trans N17.out).trans N18.out).trans N19.out).trans N20.out).trans N21.out).trans N22.out))
  have ZR9 := Lib.hid (R9.out.bel (((((((((((((((((Bel.refl _).trans N7.out).trans N8.out).trans N9.out).trans N10.out).trans N11.out).trans N12.out).trans N13.out).trans N14.out).trans N15.out).trans N16.out).trans N17.out).trans N18.out).trans N19.out).trans N20.out).trans N21.out).trans N22.out))
  have ZR13 := Lib.hid (R13.out.bel (((((((((((((Bel.refl _).trans N11.out).trans N12.out).trans N13.out).trans N14.out).trans N15.out).trans N16.out).trans N17.out).trans N18.out).trans N19.out).trans N20.out).trans N21.out).trans N22.out))
  have ZR15 := Lib.hid (R15.out.bel (((((((((((Bel.refl _).trans N13.out).trans N14.out).trans N15.out).trans N16.out).trans N17.out).trans N18.out).trans N19.out).trans N20.out).trans N21.out).trans N22.out))
  have ZR19 := Lib.hid (R19.out.bel (((((((Bel.refl _).trans N17.out).trans N18.out).trans N19.out).trans N20.out).trans N21.out).trans N22.out))
  have ZR24 := Lib.hid (R24.out.bel (((Bel.refl _).trans N21.out).trans N22.out))
  have ZR25 := Lib.hid (R25.out.bel (((Bel.refl _).trans N21.out).trans N22.out))
  have ZR27 := R27
  have e17 := E17.out
  subst e17
  clear N3 N4 N5 N6 N7 N8 N9 N10 N11 N12 N13 N14 N15 N16 N17 N18 N19 N20 N21 N22 R4 X6 R9 R13 R15 R19 R24 R25 R27 E17
  gi_wp2_with fail
  refine ⟨trivial, rfl, (callsW (rounds_same _ _ [[0], [1], [2]] _ (ZR4.out.bel (((((Bel.refl _).alloc _).alloc _).alloc _).alloc _)) (rnds_three _ [0] [1] [2] _ _ _ _ _ _ _ rfl rfl rfl rfl rfl rfl (by decide) (by decide) (by decide) rfl))).mono ?_⟩
  rintro e w23 ⟨rfl, hb⟩
  have F1 := Lib.hid ((((((Bel.refl _).alloc _).alloc _).alloc _).alloc _).trans hb)
  clear hb
  gi_wp2_with fail
  refine ⟨trivial, rfl, (callsW (ints_same _ _ [4, 3, 1, 0] _ ((ZX6.out.bel F1.out).bel ((Bel.refl _).alloc _)) (cols_alloc _ 3 [4, 3, 1, 0] _ _ _ rfl rfl (by decide) rfl))).mono ?_⟩
  rintro e w24 ⟨rfl, hb⟩
  have F2 := Lib.hid ((F1.out.alloc _).trans hb)
  clear hb
  gi_wp2_with fail
  refine ⟨trivial, rfl, (callsW (span_any 870 1000 _)).mono ?_⟩
  rintro e w25 ⟨rfl, hb⟩
  have F3 := Lib.hid (F2.out.trans hb)
  clear hb
  gi_wp2_with fail
  refine ⟨trivial, rfl, (callsW (span_any 820 849 _)).mono ?_⟩
  rintro e w26 ⟨rfl, hb⟩
  have F4 := Lib.hid (F3.out.trans hb)
  clear hb
  gi_wp2_with fail
  refine ⟨trivial, rfl, (callsW (span_any 790 799 _)).mono ?_⟩
  rintro e w27 ⟨rfl, hb⟩
  have F5 := Lib.hid (F4.out.trans hb)
  clear hb
  gi_wp2_with fail
  refine ⟨trivial, rfl, (callsW (spans_same _ _ 3 _ _ _ ((ZR9.out.bel F5.out).bel ((Bel.refl _).alloc _)) (spans_three _ _ rfl))).mono ?_⟩
  rintro e w28 ⟨rfl, hb⟩
  have F6 := Lib.hid ((F5.out.alloc _).trans hb)
  clear hb
  gi_wp2_with fail
  refine ⟨trivial, rfl, (callsW (ints_same _ _ _ _ ((ZR13.out.bel F6.out).bel ((Bel.refl _).alloc _)) (cols_alloc _ 3 [0, 3] _ _ _ rfl rfl (by decide) rfl))).mono ?_⟩
  rintro e w29 ⟨rfl, hb⟩
  have F7 := Lib.hid ((F6.out.alloc _).trans hb)
  clear hb
  gi_wp2_with fail
  refine ⟨trivial, rfl, (callsW (ints_same _ _ _ _ ((ZR15.out.bel F7.out).bel ((Bel.refl _).alloc _)) (cols_alloc _ 3 [2, 3] _ _ _ rfl rfl (by decide) rfl))).mono ?_⟩
  rintro e w30 ⟨rfl, hb⟩
  have F8 := Lib.hid ((F7.out.alloc _).trans hb)
  clear hb
  have hz24 := ZR24.out.bel F8.out
  have hz25 := ZR25.out.bel F8.out
  obtain ⟨b24, o24, e24, q0, q1⟩ := hz24.cellAt (j := 0) (by decide)
  subst e24
  obtain ⟨q2, q3⟩ := hz24.cellIn (j := 1) (by decide)
  obtain ⟨q4, q5⟩ := hz24.cellIn (j := 2) (by decide)
  obtain ⟨b25, o25, e25, q6, q7⟩ := hz25.cellAt (j := 0) (by decide)
  subst e25
  clear hz24 hz25
  rw [ex_h 0 (by decide)] at q0
  rw [ex_k 0 (by decide)] at q1
  rw [ex_h 1 (by decide)] at q2
  rw [ex_k 1 (by decide)] at q3
  rw [ex_h 2 (by decide)] at q4
  rw [ex_k 2 (by decide)] at q5
  rw [ex_s] at q6
  rw [ex_t] at q7
  simp only [Nat.zero_mul, Nat.add_zero, Nat.one_mul, Nat.reduceMul] at q0 q1 q2 q3 q4 q5 q6 q7
  gi_wp2_with fail
  refine region_grow (fun i v W => match i with
    | 0 => v = r19
    | 1 => Cols W v [0]
    | 2 => Cols W v [1]
    | 3 => Cols W v [2]
    | 4 => Cols W v [3]
    | 5 => Rnds W v [[0], [1], [2], [3]]
    | 6 => v = .bool true
    | 7 => v = .bool true
    | 8 => v = .bool false
    | 9 => v = .bool true
    | 10 => v = .bool true
    | 11 => v = .bool true
    | 12 => v = .bool true
    | 13 => v = .bool true
    | 14 => v = .bool true
    | 15 => v = .slice (some ⟨b24, o24, none⟩) 4 c24
    | 16 => v = .pointer (some ⟨b24, o24, none⟩)
    | 17 => v = .agg #[.int .i64 850, .int .i64 850]
    | 18 => v = .agg #[.int .i64 850, .int .i64 850]
    | 19 => v = .bool true
    | 20 => v = .bool true
    | 21 => v = .bool true
    | 22 => v = .slice (some ⟨b24, o24, none⟩) 4 c24
    | 23 => v = .pointer (some ⟨b24, o24 + 2, none⟩)
    | 24 => v = .agg #[.int .i64 820, .int .i64 820]
    | 25 => v = .agg #[.int .i64 820, .int .i64 820]
    | 26 => v = .bool true
    | 27 => v = .bool true
    | 28 => v = .bool true
    | 29 => v = .slice (some ⟨b24, o24, none⟩) 4 c24
    | 30 => v = .pointer (some ⟨b24, o24 + 4, none⟩)
    | 31 => v = .agg #[.int .i64 770, .int .i64 790]
    | 32 => v = .agg #[.int .i64 770, .int .i64 790]
    | 33 => v = .bool true
    | 34 => v = .bool true
    | 35 => v = .bool true
    | 36 => v = .slice (some ⟨b25, o25, none⟩) 4 c25
    | 37 => v = .pointer (some ⟨b25, o25, none⟩)
    | 38 => v = .agg #[.int .i64 90, .int .i64 100]
    | 39 => v = .agg #[.int .i64 90, .int .i64 100]
    | 40 => v = .bool true
    | 41 => v = .bool true
    | 42 => v = .bool true
    | 43 => v = r27
    | 44 => Cols W v [0]
    | 45 => v = .bool true
    | 46 => v = .bool true
    | 47 => v = .bool true
    | _ => True) (by kernel_rfl) (by kernel_rfl) (by kernel_rfl) ?_ ?_ ?_
  · intro i v W W' h hb
    split at h <;> first | exact h | exact h.bel hb | exact fun e => (h e).bel hb | exact ⟨h.1.bel hb, h.2⟩
  · refine ⟨?_, ?_, ?_, ?_, ?_, ?_, ?_, ?_, ?_, ?_, ?_, ?_, ?_, ?_, ?_, ?_, ?_, ?_, ?_, ?_, ?_, ?_, ?_, ?_, ?_, ?_, ?_, ?_, ?_, ?_, ?_, ?_, ?_, ?_, ?_, ?_, ?_, ?_, ?_, ?_, ?_, ?_, ?_, ?_, ?_, ?_, ?_, ?_, trivial⟩
    · refine growOp_k ?_; intro vs W hW hd K HK
      clear hd
      simp only [putAll, Act.put, List.setIfInBounds_toArray, List.set_cons_succ, List.set_cons_zero, Nat.reduceAdd, Nat.zero_add]
      gi_wp2_with fail
      refine HK.out _ _ ?_ ?_ ?_
      · simp only [putAll, Act.put, List.setIfInBounds_toArray, List.set_cons_succ, List.set_cons_zero, Nat.reduceAdd, Nat.zero_add] <;> kernel_rfl
      · rfl
      · exact Bel.refl _
    · refine growOp_k ?_; intro vs W hW hd K HK
      clear hd
      simp only [putAll, Act.put, List.setIfInBounds_toArray, List.set_cons_succ, List.set_cons_zero, Nat.reduceAdd, Nat.zero_add]
      gi_wp2_with fail
      refine HK.out _ _ ?_ ?_ ?_
      · simp only [putAll, Act.put, List.setIfInBounds_toArray, List.set_cons_succ, List.set_cons_zero, Nat.reduceAdd, Nat.zero_add] <;> kernel_rfl
      · exact cols_alloc _ _ [0] _ _ _ rfl rfl (by decide) rfl
      · exact (Bel.refl _).alloc _
    · refine growOp_k ?_; intro vs W hW hd K HK
      clear hd
      simp only [putAll, Act.put, List.setIfInBounds_toArray, List.set_cons_succ, List.set_cons_zero, Nat.reduceAdd, Nat.zero_add]
      gi_wp2_with fail
      refine HK.out _ _ ?_ ?_ ?_
      · simp only [putAll, Act.put, List.setIfInBounds_toArray, List.set_cons_succ, List.set_cons_zero, Nat.reduceAdd, Nat.zero_add] <;> kernel_rfl
      · exact cols_alloc _ _ [1] _ _ _ rfl rfl (by decide) rfl
      · exact (Bel.refl _).alloc _
    · refine growOp_k ?_; intro vs W hW hd K HK
      clear hd
      simp only [putAll, Act.put, List.setIfInBounds_toArray, List.set_cons_succ, List.set_cons_zero, Nat.reduceAdd, Nat.zero_add]
      gi_wp2_with fail
      refine HK.out _ _ ?_ ?_ ?_
      · simp only [putAll, Act.put, List.setIfInBounds_toArray, List.set_cons_succ, List.set_cons_zero, Nat.reduceAdd, Nat.zero_add] <;> kernel_rfl
      · exact cols_alloc _ _ [2] _ _ _ rfl rfl (by decide) rfl
      · exact (Bel.refl _).alloc _
    · refine growOp_k ?_; intro vs W hW hd K HK
      clear hd
      simp only [putAll, Act.put, List.setIfInBounds_toArray, List.set_cons_succ, List.set_cons_zero, Nat.reduceAdd, Nat.zero_add]
      gi_wp2_with fail
      refine HK.out _ _ ?_ ?_ ?_
      · simp only [putAll, Act.put, List.setIfInBounds_toArray, List.set_cons_succ, List.set_cons_zero, Nat.reduceAdd, Nat.zero_add] <;> kernel_rfl
      · exact cols_alloc _ _ [3] _ _ _ rfl rfl (by decide) rfl
      · exact (Bel.refl _).alloc _
    · refine growOp_k ?_; intro vs W hW hd K HK
      have h1 : Cols W (vs 1) [0] := hd 1 (by decide)
      have h2 : Cols W (vs 2) [1] := hd 2 (by decide)
      have h3 : Cols W (vs 3) [2] := hd 3 (by decide)
      have h4 : Cols W (vs 4) [3] := hd 4 (by decide)
      clear hd
      have H1 := Lib.hid h1
      have H2 := Lib.hid h2
      have H3 := Lib.hid h3
      have H4 := Lib.hid h4
      simp only [putAll, Act.put, List.setIfInBounds_toArray, List.set_cons_succ, List.set_cons_zero, Nat.reduceAdd, Nat.zero_add]
      obtain ⟨a1, k1, e1, -, -, -, -⟩ := h1
      rw [e1] at H1
      obtain ⟨a2, k2, e2, -, -, -, -⟩ := h2
      rw [e2] at H2
      obtain ⟨a3, k3, e3, -, -, -, -⟩ := h3
      rw [e3] at H3
      obtain ⟨a4, k4, e4, -, -, -, -⟩ := h4
      rw [e4] at H4
      simp only [e1, e2, e3, e4]
      gi_wp2_with fail
      refine HK.out _ _ ?_ ?_ ?_
      · simp only [putAll, Act.put, List.setIfInBounds_toArray, List.set_cons_succ, List.set_cons_zero, Nat.reduceAdd, Nat.zero_add, e1, e2, e3, e4] <;> kernel_rfl
      · exact rnds_four _ _ _ _ _ _ rfl H1.out H2.out H3.out H4.out
      · exact (Bel.refl _).alloc _
    · refine growOp_k ?_; intro vs W hW hd K HK
      have h0 : (vs 0) = r19 := hd 0 (by decide)
      have h5 : Rnds W (vs 5) [[0], [1], [2], [3]] := hd 5 (by decide)
      clear hd
      have H5 := Lib.hid h5
      simp only [putAll, Act.put, List.setIfInBounds_toArray, List.set_cons_succ, List.set_cons_zero, Nat.reduceAdd, Nat.zero_add, h0]
      obtain ⟨a5, k5, e5, -, -, -, -⟩ := h5
      rw [e5] at H5
      simp only [e5]
      gi_wp2_with fail
      refine ⟨trivial, rfl, (callsW (rounds_same _ _ [[0], [1], [2], [3]] W ((ZR19.out.bel F8.out).bel hW) H5.out)).mono ?_⟩
      rintro e w1 ⟨rfl, hb⟩
      gi_wp2_with fail
      refine HK.out _ _ ?_ ?_ ?_
      · simp only [putAll, Act.put, List.setIfInBounds_toArray, List.set_cons_succ, List.set_cons_zero, Nat.reduceAdd, Nat.zero_add, h0, e5] <;> kernel_rfl
      · rfl
      · exact hb
    · refine growOp_k ?_; intro vs W hW hd K HK
      have h6 : (vs 6) = .bool true := hd 6 (by decide)
      clear hd
      simp only [putAll, Act.put, List.setIfInBounds_toArray, List.set_cons_succ, List.set_cons_zero, Nat.reduceAdd, Nat.zero_add, h6]
      gi_wp2_with fail
      refine HK.out _ _ ?_ ?_ ?_
      · simp only [putAll, Act.put, List.setIfInBounds_toArray, List.set_cons_succ, List.set_cons_zero, Nat.reduceAdd, Nat.zero_add, h6] <;> kernel_rfl
      · rfl
      · exact Bel.refl _
    · refine growOp_k ?_; intro vs W hW hd K HK
      have h7 : (vs 7) = .bool true := hd 7 (by decide)
      clear hd
      simp only [putAll, Act.put, List.setIfInBounds_toArray, List.set_cons_succ, List.set_cons_zero, Nat.reduceAdd, Nat.zero_add, h7]
      gi_wp2_with fail
      refine HK.out _ _ ?_ ?_ ?_
      · simp only [putAll, Act.put, List.setIfInBounds_toArray, List.set_cons_succ, List.set_cons_zero, Nat.reduceAdd, Nat.zero_add, h7] <;> kernel_rfl
      · rfl
      · exact Bel.refl _
    · refine growOp_k ?_; intro vs W hW hd K HK
      have h8 : (vs 8) = .bool false := hd 8 (by decide)
      have h7 : (vs 7) = .bool true := hd 7 (by decide)
      clear hd
      simp only [putAll, Act.put, List.setIfInBounds_toArray, List.set_cons_succ, List.set_cons_zero, Nat.reduceAdd, Nat.zero_add, h8, h7]
      gi_wp2_with fail
      refine HK.out _ _ ?_ ?_ ?_
      · simp only [putAll, Act.put, List.setIfInBounds_toArray, List.set_cons_succ, List.set_cons_zero, Nat.reduceAdd, Nat.zero_add, h8, h7] <;> kernel_rfl
      · rfl
      · exact Bel.refl _
    · refine growOp_k ?_; intro vs W hW hd K HK
      have h7 : (vs 7) = .bool true := hd 7 (by decide)
      have h9 : (vs 9) = .bool true := hd 9 (by decide)
      clear hd
      simp only [putAll, Act.put, List.setIfInBounds_toArray, List.set_cons_succ, List.set_cons_zero, Nat.reduceAdd, Nat.zero_add, h7, h9]
      gi_wp2_with fail
      refine HK.out _ _ ?_ ?_ ?_
      · simp only [putAll, Act.put, List.setIfInBounds_toArray, List.set_cons_succ, List.set_cons_zero, Nat.reduceAdd, Nat.zero_add, h7, h9] <;> kernel_rfl
      · rfl
      · exact Bel.refl _
    · refine growOp_k ?_; intro vs W hW hd K HK
      have h10 : (vs 10) = .bool true := hd 10 (by decide)
      clear hd
      simp only [putAll, Act.put, List.setIfInBounds_toArray, List.set_cons_succ, List.set_cons_zero, Nat.reduceAdd, Nat.zero_add, h10]
      gi_wp2_with fail
      refine HK.out _ _ ?_ ?_ ?_
      · simp only [putAll, Act.put, List.setIfInBounds_toArray, List.set_cons_succ, List.set_cons_zero, Nat.reduceAdd, Nat.zero_add, h10] <;> kernel_rfl
      · rfl
      · exact Bel.refl _
    · refine growOp_k ?_; intro vs W hW hd K HK
      have h11 : (vs 11) = .bool true := hd 11 (by decide)
      clear hd
      simp only [putAll, Act.put, List.setIfInBounds_toArray, List.set_cons_succ, List.set_cons_zero, Nat.reduceAdd, Nat.zero_add, h11]
      gi_wp2_with fail
      refine HK.out _ _ ?_ ?_ ?_
      · simp only [putAll, Act.put, List.setIfInBounds_toArray, List.set_cons_succ, List.set_cons_zero, Nat.reduceAdd, Nat.zero_add, h11] <;> kernel_rfl
      · rfl
      · exact Bel.refl _
    · refine growOp_k ?_; intro vs W hW hd K HK
      have h11 : (vs 11) = .bool true := hd 11 (by decide)
      have h12 : (vs 12) = .bool true := hd 12 (by decide)
      clear hd
      simp only [putAll, Act.put, List.setIfInBounds_toArray, List.set_cons_succ, List.set_cons_zero, Nat.reduceAdd, Nat.zero_add, h11, h12]
      gi_wp2_with fail
      refine HK.out _ _ ?_ ?_ ?_
      · simp only [putAll, Act.put, List.setIfInBounds_toArray, List.set_cons_succ, List.set_cons_zero, Nat.reduceAdd, Nat.zero_add, h11, h12] <;> kernel_rfl
      · rfl
      · exact Bel.refl _
    · refine growOp_k ?_; intro vs W hW hd K HK
      have h13 : (vs 13) = .bool true := hd 13 (by decide)
      clear hd
      simp only [putAll, Act.put, List.setIfInBounds_toArray, List.set_cons_succ, List.set_cons_zero, Nat.reduceAdd, Nat.zero_add, h13]
      gi_wp2_with fail
      refine HK.out _ _ ?_ ?_ ?_
      · simp only [putAll, Act.put, List.setIfInBounds_toArray, List.set_cons_succ, List.set_cons_zero, Nat.reduceAdd, Nat.zero_add, h13] <;> kernel_rfl
      · rfl
      · exact Bel.refl _
    · refine growOp_k ?_; intro vs W hW hd K HK
      have h14 : (vs 14) = .bool true := hd 14 (by decide)
      clear hd
      simp only [putAll, Act.put, List.setIfInBounds_toArray, List.set_cons_succ, List.set_cons_zero, Nat.reduceAdd, Nat.zero_add, h14]
      gi_wp2_with fail
      refine HK.out _ _ ?_ ?_ ?_
      · simp only [putAll, Act.put, List.setIfInBounds_toArray, List.set_cons_succ, List.set_cons_zero, Nat.reduceAdd, Nat.zero_add, h14] <;> kernel_rfl
      · rfl
      · exact Bel.refl _
    · refine growOp_k ?_; intro vs W hW hd K HK
      have h15 : (vs 15) = .slice (some ⟨b24, o24, none⟩) 4 c24 := hd 15 (by decide)
      have h14 : (vs 14) = .bool true := hd 14 (by decide)
      clear hd
      simp only [putAll, Act.put, List.setIfInBounds_toArray, List.set_cons_succ, List.set_cons_zero, Nat.reduceAdd, Nat.zero_add, h15, h14]
      gi_wp2_with fail
      refine HK.out _ _ ?_ ?_ ?_
      · simp only [putAll, Act.put, List.setIfInBounds_toArray, List.set_cons_succ, List.set_cons_zero, Nat.reduceAdd, Nat.zero_add, h15, h14] <;> kernel_rfl
      · rfl
      · exact Bel.refl _
    · refine growOp_k ?_; intro vs W hW hd K HK
      have h16 : (vs 16) = .pointer (some ⟨b24, o24, none⟩) := hd 16 (by decide)
      have h14 : (vs 14) = .bool true := hd 14 (by decide)
      clear hd
      have q0 := hW.cell q0
      have q1 := hW.cell q1
      simp only [putAll, Act.put, List.setIfInBounds_toArray, List.set_cons_succ, List.set_cons_zero, Nat.reduceAdd, Nat.zero_add, h16, h14]
      gi_wp2_with fail
      refine HK.out _ _ ?_ ?_ ?_
      · simp only [putAll, Act.put, List.setIfInBounds_toArray, List.set_cons_succ, List.set_cons_zero, Nat.reduceAdd, Nat.zero_add, h16, h14] <;> kernel_rfl
      · rfl
      · exact Bel.refl _
    · refine growOp_k ?_; intro vs W hW hd K HK
      have h14 : (vs 14) = .bool true := hd 14 (by decide)
      clear hd
      simp only [putAll, Act.put, List.setIfInBounds_toArray, List.set_cons_succ, List.set_cons_zero, Nat.reduceAdd, Nat.zero_add, h14]
      gi_wp2_with fail
      refine ⟨trivial, rfl, (callsW (span_any _ _ _)).mono ?_⟩
      rintro e w1 ⟨rfl, hb⟩
      gi_wp2_with fail
      refine HK.out _ _ ?_ ?_ ?_
      · simp only [putAll, Act.put, List.setIfInBounds_toArray, List.set_cons_succ, List.set_cons_zero, Nat.reduceAdd, Nat.zero_add, h14] <;> kernel_rfl
      · rfl
      · exact hb
    · refine growOp_k ?_; intro vs W hW hd K HK
      have h17 : (vs 17) = .agg #[.int .i64 850, .int .i64 850] := hd 17 (by decide)
      have h18 : (vs 18) = .agg #[.int .i64 850, .int .i64 850] := hd 18 (by decide)
      have h14 : (vs 14) = .bool true := hd 14 (by decide)
      clear hd
      simp only [putAll, Act.put, List.setIfInBounds_toArray, List.set_cons_succ, List.set_cons_zero, Nat.reduceAdd, Nat.zero_add, h17, h18, h14]
      gi_wp2_with fail
      refine HK.out _ _ ?_ ?_ ?_
      · simp only [putAll, Act.put, List.setIfInBounds_toArray, List.set_cons_succ, List.set_cons_zero, Nat.reduceAdd, Nat.zero_add, h17, h18, h14] <;> kernel_rfl
      · rfl
      · exact Bel.refl _
    · refine growOp_k ?_; intro vs W hW hd K HK
      have h14 : (vs 14) = .bool true := hd 14 (by decide)
      have h19 : (vs 19) = .bool true := hd 19 (by decide)
      clear hd
      simp only [putAll, Act.put, List.setIfInBounds_toArray, List.set_cons_succ, List.set_cons_zero, Nat.reduceAdd, Nat.zero_add, h14, h19]
      gi_wp2_with fail
      refine HK.out _ _ ?_ ?_ ?_
      · simp only [putAll, Act.put, List.setIfInBounds_toArray, List.set_cons_succ, List.set_cons_zero, Nat.reduceAdd, Nat.zero_add, h14, h19] <;> kernel_rfl
      · rfl
      · exact Bel.refl _
    · refine growOp_k ?_; intro vs W hW hd K HK
      have h20 : (vs 20) = .bool true := hd 20 (by decide)
      clear hd
      simp only [putAll, Act.put, List.setIfInBounds_toArray, List.set_cons_succ, List.set_cons_zero, Nat.reduceAdd, Nat.zero_add, h20]
      gi_wp2_with fail
      refine HK.out _ _ ?_ ?_ ?_
      · simp only [putAll, Act.put, List.setIfInBounds_toArray, List.set_cons_succ, List.set_cons_zero, Nat.reduceAdd, Nat.zero_add, h20] <;> kernel_rfl
      · rfl
      · exact Bel.refl _
    · refine growOp_k ?_; intro vs W hW hd K HK
      have h21 : (vs 21) = .bool true := hd 21 (by decide)
      clear hd
      simp only [putAll, Act.put, List.setIfInBounds_toArray, List.set_cons_succ, List.set_cons_zero, Nat.reduceAdd, Nat.zero_add, h21]
      gi_wp2_with fail
      refine HK.out _ _ ?_ ?_ ?_
      · simp only [putAll, Act.put, List.setIfInBounds_toArray, List.set_cons_succ, List.set_cons_zero, Nat.reduceAdd, Nat.zero_add, h21] <;> kernel_rfl
      · rfl
      · exact Bel.refl _
    · refine growOp_k ?_; intro vs W hW hd K HK
      have h22 : (vs 22) = .slice (some ⟨b24, o24, none⟩) 4 c24 := hd 22 (by decide)
      have h21 : (vs 21) = .bool true := hd 21 (by decide)
      clear hd
      simp only [putAll, Act.put, List.setIfInBounds_toArray, List.set_cons_succ, List.set_cons_zero, Nat.reduceAdd, Nat.zero_add, h22, h21]
      gi_wp2_with fail
      refine HK.out _ _ ?_ ?_ ?_
      · simp only [putAll, Act.put, List.setIfInBounds_toArray, List.set_cons_succ, List.set_cons_zero, Nat.reduceAdd, Nat.zero_add, h22, h21] <;> kernel_rfl
      · rfl
      · exact Bel.refl _
    · refine growOp_k ?_; intro vs W hW hd K HK
      have h23 : (vs 23) = .pointer (some ⟨b24, o24 + 2, none⟩) := hd 23 (by decide)
      have h21 : (vs 21) = .bool true := hd 21 (by decide)
      clear hd
      have q2 := hW.cell q2
      have q3 := hW.cell q3
      simp only [putAll, Act.put, List.setIfInBounds_toArray, List.set_cons_succ, List.set_cons_zero, Nat.reduceAdd, Nat.zero_add, h23, h21]
      gi_wp2_with fail
      refine HK.out _ _ ?_ ?_ ?_
      · simp only [putAll, Act.put, List.setIfInBounds_toArray, List.set_cons_succ, List.set_cons_zero, Nat.reduceAdd, Nat.zero_add, h23, h21] <;> kernel_rfl
      · rfl
      · exact Bel.refl _
    · refine growOp_k ?_; intro vs W hW hd K HK
      have h21 : (vs 21) = .bool true := hd 21 (by decide)
      clear hd
      simp only [putAll, Act.put, List.setIfInBounds_toArray, List.set_cons_succ, List.set_cons_zero, Nat.reduceAdd, Nat.zero_add, h21]
      gi_wp2_with fail
      refine ⟨trivial, rfl, (callsW (span_any _ _ _)).mono ?_⟩
      rintro e w1 ⟨rfl, hb⟩
      gi_wp2_with fail
      refine HK.out _ _ ?_ ?_ ?_
      · simp only [putAll, Act.put, List.setIfInBounds_toArray, List.set_cons_succ, List.set_cons_zero, Nat.reduceAdd, Nat.zero_add, h21] <;> kernel_rfl
      · rfl
      · exact hb
    · refine growOp_k ?_; intro vs W hW hd K HK
      have h24 : (vs 24) = .agg #[.int .i64 820, .int .i64 820] := hd 24 (by decide)
      have h25 : (vs 25) = .agg #[.int .i64 820, .int .i64 820] := hd 25 (by decide)
      have h21 : (vs 21) = .bool true := hd 21 (by decide)
      clear hd
      simp only [putAll, Act.put, List.setIfInBounds_toArray, List.set_cons_succ, List.set_cons_zero, Nat.reduceAdd, Nat.zero_add, h24, h25, h21]
      gi_wp2_with fail
      refine HK.out _ _ ?_ ?_ ?_
      · simp only [putAll, Act.put, List.setIfInBounds_toArray, List.set_cons_succ, List.set_cons_zero, Nat.reduceAdd, Nat.zero_add, h24, h25, h21] <;> kernel_rfl
      · rfl
      · exact Bel.refl _
    · refine growOp_k ?_; intro vs W hW hd K HK
      have h21 : (vs 21) = .bool true := hd 21 (by decide)
      have h26 : (vs 26) = .bool true := hd 26 (by decide)
      clear hd
      simp only [putAll, Act.put, List.setIfInBounds_toArray, List.set_cons_succ, List.set_cons_zero, Nat.reduceAdd, Nat.zero_add, h21, h26]
      gi_wp2_with fail
      refine HK.out _ _ ?_ ?_ ?_
      · simp only [putAll, Act.put, List.setIfInBounds_toArray, List.set_cons_succ, List.set_cons_zero, Nat.reduceAdd, Nat.zero_add, h21, h26] <;> kernel_rfl
      · rfl
      · exact Bel.refl _
    · refine growOp_k ?_; intro vs W hW hd K HK
      have h27 : (vs 27) = .bool true := hd 27 (by decide)
      clear hd
      simp only [putAll, Act.put, List.setIfInBounds_toArray, List.set_cons_succ, List.set_cons_zero, Nat.reduceAdd, Nat.zero_add, h27]
      gi_wp2_with fail
      refine HK.out _ _ ?_ ?_ ?_
      · simp only [putAll, Act.put, List.setIfInBounds_toArray, List.set_cons_succ, List.set_cons_zero, Nat.reduceAdd, Nat.zero_add, h27] <;> kernel_rfl
      · rfl
      · exact Bel.refl _
    · refine growOp_k ?_; intro vs W hW hd K HK
      have h28 : (vs 28) = .bool true := hd 28 (by decide)
      clear hd
      simp only [putAll, Act.put, List.setIfInBounds_toArray, List.set_cons_succ, List.set_cons_zero, Nat.reduceAdd, Nat.zero_add, h28]
      gi_wp2_with fail
      refine HK.out _ _ ?_ ?_ ?_
      · simp only [putAll, Act.put, List.setIfInBounds_toArray, List.set_cons_succ, List.set_cons_zero, Nat.reduceAdd, Nat.zero_add, h28] <;> kernel_rfl
      · rfl
      · exact Bel.refl _
    · refine growOp_k ?_; intro vs W hW hd K HK
      have h29 : (vs 29) = .slice (some ⟨b24, o24, none⟩) 4 c24 := hd 29 (by decide)
      have h28 : (vs 28) = .bool true := hd 28 (by decide)
      clear hd
      simp only [putAll, Act.put, List.setIfInBounds_toArray, List.set_cons_succ, List.set_cons_zero, Nat.reduceAdd, Nat.zero_add, h29, h28]
      gi_wp2_with fail
      refine HK.out _ _ ?_ ?_ ?_
      · simp only [putAll, Act.put, List.setIfInBounds_toArray, List.set_cons_succ, List.set_cons_zero, Nat.reduceAdd, Nat.zero_add, h29, h28] <;> kernel_rfl
      · rfl
      · exact Bel.refl _
    · refine growOp_k ?_; intro vs W hW hd K HK
      have h30 : (vs 30) = .pointer (some ⟨b24, o24 + 4, none⟩) := hd 30 (by decide)
      have h28 : (vs 28) = .bool true := hd 28 (by decide)
      clear hd
      have q4 := hW.cell q4
      have q5 := hW.cell q5
      simp only [putAll, Act.put, List.setIfInBounds_toArray, List.set_cons_succ, List.set_cons_zero, Nat.reduceAdd, Nat.zero_add, h30, h28]
      gi_wp2_with fail
      refine HK.out _ _ ?_ ?_ ?_
      · simp only [putAll, Act.put, List.setIfInBounds_toArray, List.set_cons_succ, List.set_cons_zero, Nat.reduceAdd, Nat.zero_add, h30, h28] <;> kernel_rfl
      · rfl
      · exact Bel.refl _
    · refine growOp_k ?_; intro vs W hW hd K HK
      have h28 : (vs 28) = .bool true := hd 28 (by decide)
      clear hd
      simp only [putAll, Act.put, List.setIfInBounds_toArray, List.set_cons_succ, List.set_cons_zero, Nat.reduceAdd, Nat.zero_add, h28]
      gi_wp2_with fail
      refine ⟨trivial, rfl, (callsW (span_any _ _ _)).mono ?_⟩
      rintro e w1 ⟨rfl, hb⟩
      gi_wp2_with fail
      refine HK.out _ _ ?_ ?_ ?_
      · simp only [putAll, Act.put, List.setIfInBounds_toArray, List.set_cons_succ, List.set_cons_zero, Nat.reduceAdd, Nat.zero_add, h28] <;> kernel_rfl
      · rfl
      · exact hb
    · refine growOp_k ?_; intro vs W hW hd K HK
      have h31 : (vs 31) = .agg #[.int .i64 770, .int .i64 790] := hd 31 (by decide)
      have h32 : (vs 32) = .agg #[.int .i64 770, .int .i64 790] := hd 32 (by decide)
      have h28 : (vs 28) = .bool true := hd 28 (by decide)
      clear hd
      simp only [putAll, Act.put, List.setIfInBounds_toArray, List.set_cons_succ, List.set_cons_zero, Nat.reduceAdd, Nat.zero_add, h31, h32, h28]
      gi_wp2_with fail
      refine HK.out _ _ ?_ ?_ ?_
      · simp only [putAll, Act.put, List.setIfInBounds_toArray, List.set_cons_succ, List.set_cons_zero, Nat.reduceAdd, Nat.zero_add, h31, h32, h28] <;> kernel_rfl
      · rfl
      · exact Bel.refl _
    · refine growOp_k ?_; intro vs W hW hd K HK
      have h28 : (vs 28) = .bool true := hd 28 (by decide)
      have h33 : (vs 33) = .bool true := hd 33 (by decide)
      clear hd
      simp only [putAll, Act.put, List.setIfInBounds_toArray, List.set_cons_succ, List.set_cons_zero, Nat.reduceAdd, Nat.zero_add, h28, h33]
      gi_wp2_with fail
      refine HK.out _ _ ?_ ?_ ?_
      · simp only [putAll, Act.put, List.setIfInBounds_toArray, List.set_cons_succ, List.set_cons_zero, Nat.reduceAdd, Nat.zero_add, h28, h33] <;> kernel_rfl
      · rfl
      · exact Bel.refl _
    · refine growOp_k ?_; intro vs W hW hd K HK
      have h34 : (vs 34) = .bool true := hd 34 (by decide)
      clear hd
      simp only [putAll, Act.put, List.setIfInBounds_toArray, List.set_cons_succ, List.set_cons_zero, Nat.reduceAdd, Nat.zero_add, h34]
      gi_wp2_with fail
      refine HK.out _ _ ?_ ?_ ?_
      · simp only [putAll, Act.put, List.setIfInBounds_toArray, List.set_cons_succ, List.set_cons_zero, Nat.reduceAdd, Nat.zero_add, h34] <;> kernel_rfl
      · rfl
      · exact Bel.refl _
    · refine growOp_k ?_; intro vs W hW hd K HK
      have h35 : (vs 35) = .bool true := hd 35 (by decide)
      clear hd
      simp only [putAll, Act.put, List.setIfInBounds_toArray, List.set_cons_succ, List.set_cons_zero, Nat.reduceAdd, Nat.zero_add, h35]
      gi_wp2_with fail
      refine HK.out _ _ ?_ ?_ ?_
      · simp only [putAll, Act.put, List.setIfInBounds_toArray, List.set_cons_succ, List.set_cons_zero, Nat.reduceAdd, Nat.zero_add, h35] <;> kernel_rfl
      · rfl
      · exact Bel.refl _
    · refine growOp_k ?_; intro vs W hW hd K HK
      have h36 : (vs 36) = .slice (some ⟨b25, o25, none⟩) 4 c25 := hd 36 (by decide)
      have h35 : (vs 35) = .bool true := hd 35 (by decide)
      clear hd
      simp only [putAll, Act.put, List.setIfInBounds_toArray, List.set_cons_succ, List.set_cons_zero, Nat.reduceAdd, Nat.zero_add, h36, h35]
      gi_wp2_with fail
      refine HK.out _ _ ?_ ?_ ?_
      · simp only [putAll, Act.put, List.setIfInBounds_toArray, List.set_cons_succ, List.set_cons_zero, Nat.reduceAdd, Nat.zero_add, h36, h35] <;> kernel_rfl
      · rfl
      · exact Bel.refl _
    · refine growOp_k ?_; intro vs W hW hd K HK
      have h37 : (vs 37) = .pointer (some ⟨b25, o25, none⟩) := hd 37 (by decide)
      have h35 : (vs 35) = .bool true := hd 35 (by decide)
      clear hd
      have q6 := hW.cell q6
      have q7 := hW.cell q7
      simp only [putAll, Act.put, List.setIfInBounds_toArray, List.set_cons_succ, List.set_cons_zero, Nat.reduceAdd, Nat.zero_add, h37, h35]
      gi_wp2_with fail
      refine HK.out _ _ ?_ ?_ ?_
      · simp only [putAll, Act.put, List.setIfInBounds_toArray, List.set_cons_succ, List.set_cons_zero, Nat.reduceAdd, Nat.zero_add, h37, h35] <;> kernel_rfl
      · rfl
      · exact Bel.refl _
    · refine growOp_k ?_; intro vs W hW hd K HK
      have h35 : (vs 35) = .bool true := hd 35 (by decide)
      clear hd
      simp only [putAll, Act.put, List.setIfInBounds_toArray, List.set_cons_succ, List.set_cons_zero, Nat.reduceAdd, Nat.zero_add, h35]
      gi_wp2_with fail
      refine ⟨trivial, rfl, (callsW (span_any _ _ _)).mono ?_⟩
      rintro e w1 ⟨rfl, hb⟩
      gi_wp2_with fail
      refine HK.out _ _ ?_ ?_ ?_
      · simp only [putAll, Act.put, List.setIfInBounds_toArray, List.set_cons_succ, List.set_cons_zero, Nat.reduceAdd, Nat.zero_add, h35] <;> kernel_rfl
      · rfl
      · exact hb
    · refine growOp_k ?_; intro vs W hW hd K HK
      have h38 : (vs 38) = .agg #[.int .i64 90, .int .i64 100] := hd 38 (by decide)
      have h39 : (vs 39) = .agg #[.int .i64 90, .int .i64 100] := hd 39 (by decide)
      have h35 : (vs 35) = .bool true := hd 35 (by decide)
      clear hd
      simp only [putAll, Act.put, List.setIfInBounds_toArray, List.set_cons_succ, List.set_cons_zero, Nat.reduceAdd, Nat.zero_add, h38, h39, h35]
      gi_wp2_with fail
      refine HK.out _ _ ?_ ?_ ?_
      · simp only [putAll, Act.put, List.setIfInBounds_toArray, List.set_cons_succ, List.set_cons_zero, Nat.reduceAdd, Nat.zero_add, h38, h39, h35] <;> kernel_rfl
      · rfl
      · exact Bel.refl _
    · refine growOp_k ?_; intro vs W hW hd K HK
      have h35 : (vs 35) = .bool true := hd 35 (by decide)
      have h40 : (vs 40) = .bool true := hd 40 (by decide)
      clear hd
      simp only [putAll, Act.put, List.setIfInBounds_toArray, List.set_cons_succ, List.set_cons_zero, Nat.reduceAdd, Nat.zero_add, h35, h40]
      gi_wp2_with fail
      refine HK.out _ _ ?_ ?_ ?_
      · simp only [putAll, Act.put, List.setIfInBounds_toArray, List.set_cons_succ, List.set_cons_zero, Nat.reduceAdd, Nat.zero_add, h35, h40] <;> kernel_rfl
      · rfl
      · exact Bel.refl _
    · refine growOp_k ?_; intro vs W hW hd K HK
      have h41 : (vs 41) = .bool true := hd 41 (by decide)
      clear hd
      simp only [putAll, Act.put, List.setIfInBounds_toArray, List.set_cons_succ, List.set_cons_zero, Nat.reduceAdd, Nat.zero_add, h41]
      gi_wp2_with fail
      refine HK.out _ _ ?_ ?_ ?_
      · simp only [putAll, Act.put, List.setIfInBounds_toArray, List.set_cons_succ, List.set_cons_zero, Nat.reduceAdd, Nat.zero_add, h41] <;> kernel_rfl
      · rfl
      · exact Bel.refl _
    · refine growOp_k ?_; intro vs W hW hd K HK
      have h42 : (vs 42) = .bool true := hd 42 (by decide)
      clear hd
      simp only [putAll, Act.put, List.setIfInBounds_toArray, List.set_cons_succ, List.set_cons_zero, Nat.reduceAdd, Nat.zero_add, h42]
      gi_wp2_with fail
      refine HK.out _ _ ?_ ?_ ?_
      · simp only [putAll, Act.put, List.setIfInBounds_toArray, List.set_cons_succ, List.set_cons_zero, Nat.reduceAdd, Nat.zero_add, h42] <;> kernel_rfl
      · rfl
      · exact Bel.refl _
    · refine growOp_k ?_; intro vs W hW hd K HK
      have h42 : (vs 42) = .bool true := hd 42 (by decide)
      clear hd
      simp only [putAll, Act.put, List.setIfInBounds_toArray, List.set_cons_succ, List.set_cons_zero, Nat.reduceAdd, Nat.zero_add, h42]
      gi_wp2_with fail
      refine HK.out _ _ ?_ ?_ ?_
      · simp only [putAll, Act.put, List.setIfInBounds_toArray, List.set_cons_succ, List.set_cons_zero, Nat.reduceAdd, Nat.zero_add, h42] <;> kernel_rfl
      · exact cols_alloc _ _ [0] _ _ _ rfl rfl (by decide) rfl
      · exact (Bel.refl _).alloc _
    · refine growOp_k ?_; intro vs W hW hd K HK
      have h43 : (vs 43) = r27 := hd 43 (by decide)
      have h44 : Cols W (vs 44) [0] := hd 44 (by decide)
      have h42 : (vs 42) = .bool true := hd 42 (by decide)
      clear hd
      have H44 := Lib.hid h44
      simp only [putAll, Act.put, List.setIfInBounds_toArray, List.set_cons_succ, List.set_cons_zero, Nat.reduceAdd, Nat.zero_add, h42, h43]
      obtain ⟨a5, k5, e5, -, -, -, -⟩ := h44
      rw [e5] at H44
      simp only [e5]
      gi_wp2_with fail
      refine ⟨trivial, rfl, (callsW (ints_same _ _ _ W ((ZR27.out.bel F8.out).bel hW) H44.out)).mono ?_⟩
      rintro e w1 ⟨rfl, hb⟩
      gi_wp2_with fail
      refine HK.out _ _ ?_ ?_ ?_
      · simp only [putAll, Act.put, List.setIfInBounds_toArray, List.set_cons_succ, List.set_cons_zero, Nat.reduceAdd, Nat.zero_add, h42, h43, e5] <;> kernel_rfl
      · rfl
      · exact hb
    · refine growOp_k ?_; intro vs W hW hd K HK
      have h42 : (vs 42) = .bool true := hd 42 (by decide)
      have h45 : (vs 45) = .bool true := hd 45 (by decide)
      clear hd
      simp only [putAll, Act.put, List.setIfInBounds_toArray, List.set_cons_succ, List.set_cons_zero, Nat.reduceAdd, Nat.zero_add, h42, h45]
      gi_wp2_with fail
      refine HK.out _ _ ?_ ?_ ?_
      · simp only [putAll, Act.put, List.setIfInBounds_toArray, List.set_cons_succ, List.set_cons_zero, Nat.reduceAdd, Nat.zero_add, h42, h45] <;> kernel_rfl
      · rfl
      · exact Bel.refl _
    · refine growOp_k ?_; intro vs W hW hd K HK
      have h46 : (vs 46) = .bool true := hd 46 (by decide)
      clear hd
      simp only [putAll, Act.put, List.setIfInBounds_toArray, List.set_cons_succ, List.set_cons_zero, Nat.reduceAdd, Nat.zero_add, h46]
      gi_wp2_with fail
      refine HK.out _ _ ?_ ?_ ?_
      · simp only [putAll, Act.put, List.setIfInBounds_toArray, List.set_cons_succ, List.set_cons_zero, Nat.reduceAdd, Nat.zero_add, h46] <;> kernel_rfl
      · rfl
      · exact Bel.refl _
  · intro vs W hW hall
    have g47 : vs 47 = .bool true := hall 47 (by decide)
    clear hall
    simp only [putAll, Act.put, List.setIfInBounds_toArray, List.set_cons_succ, List.set_cons_zero, Nat.reduceAdd, Nat.zero_add, g47]
    have HBW := Lib.hid ((B0.out.trans (D22.out.trans F8.out)).trans hW)
    clear hW
    gi_wp2_with fail
    go_ret
    exact ⟨rfl, HBW.out⟩

end Go.Proofs.Ytpkadofgmhninaa
