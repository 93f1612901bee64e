/- LetterLaid, walked. The closures of LetterOut: what is left of a word. What 'Left' tells. 'own', whose widths may still be written. A case with one more letter. -/
import Derived.Test.YtaekibilldjnmaaGreatMaAL
set_option linter.unusedVariables false
set_option linter.unusedSimpArgs false
set_option linter.unusedSectionVars false
namespace Go.Proofs.YtaekibilldjnmaaGreat
open Go.Proofs

theorem fmin_le : ∀ (ys : List Int) (a : Int), ys.foldl fmin a ≤ a ∧ ∀ y ∈ ys, ys.foldl fmin a ≤ y
  | [], a => ⟨Int.le_refl _, by simp⟩
  | y :: ys, a => by
    obtain ⟨h1, h2⟩ := fmin_le ys (fmin a y)
    have : fmin a y ≤ a ∧ fmin a y ≤ y := by unfold fmin; split <;> omega
    rw [List.foldl_cons]
    refine ⟨by omega, fun z hz => ?_⟩
    rcases List.mem_cons.1 hz with rfl | hz
    · omega
    · exact h2 z hz
theorem fmax_ge : ∀ (ys : List Int) (a : Int), a ≤ ys.foldl fmax a ∧ ∀ y ∈ ys, y ≤ ys.foldl fmax a
  | [], a => ⟨Int.le_refl _, by simp⟩
  | y :: ys, a => by
    obtain ⟨h1, h2⟩ := fmax_ge ys (fmax a y)
    have : a ≤ fmax a y ∧ y ≤ fmax a y := by unfold fmax; split <;> omega
    rw [List.foldl_cons]
    refine ⟨by omega, fun z hz => ?_⟩
    rcases List.mem_cons.1 hz with rfl | hz
    · omega
    · exact h2 z hz
theorem lo_hi : ∀ (xs : List Int) (x : Int), x ∈ xs → loF xs ≤ x ∧ x ≤ hiF xs
  | [], x, h => by simp at h
  | y :: ys, x, h => by
    have h1 := fmin_le ys y
    have h2 := fmax_ge ys y
    unfold loF hiF
    rcases List.mem_cons.1 h with rfl | h
    · exact ⟨h1.1, h2.1⟩
    · exact ⟨h1.2 x h, h2.2 x h⟩
theorem wide_alike (c : Cs) (w g : List Int) : Alike c w (c.wideF w g) g := fun i j hi hj => (wideN_spec (c.lookN w g) g.length g.length).2.1 i j hi hj
/-- What is to be known of laid gaps. -/
structure Best (c : Cs) (w : List Int) (room : Int) (g : List Int) (s : Nat) : Prop where
  fills : FillsB c w room g
  wide : c.wideF w g = s
  spread : spreadF (c.looksF w g) = s
  other : ∀ o, FillsB c w room o → (s : Int) ≤ c.wideF w o ∧ (c.wideF w o = s → lessF o g = false)
theorem lay_Best {c : Cs} (hc : c.Fair) {w : List Int} (hw : c.Word w) (h2 : 2 ≤ w.length) {n : Int} (hn : 1 ≤ n ∧ n ≤ 400) (hgo : c.needF [w] ≤ n) {g : List Int} {s : Nat} (h : c.layF w n = some (g, s)) : Best c w (c.roomF w n) g s := by
  obtain ⟨h1, h3, h4, h5⟩ := lay_best hc hw h2 hn hgo h
  have hw0 := wideN_spec (c.lookN w g) g.length g.length
  have hws : (s : Int) ≤ c.wideF w g := h4 g _ h1 (wide_alike c w g) hw0.1
  have hgl := h1.len
  have hxl : (c.looksF w g).length = w.length - 1 := Cs.looks_len hgl
  have hmem : ∀ i, i < g.length → g.getD i 0 + (c.mores w).getD i 0 ∈ c.looksF w g := fun i hi => by
    have := Cs.looks_at (c := c) hgl (k := i) (by omega)
    rw [Int.add_comm, ← this]
    exact getD_mem (by omega)
  refine ⟨h1, ?_, ?_, fun o ho => ⟨h4 o _ ho (wide_alike c w o) (wideN_spec (c.lookN w o) o.length o.length).1, fun e => ?_⟩⟩
  · rcases hw0.2.2 with e | ⟨i, j, hi, hj, e⟩
    · have e' : c.wideF w g = 0 := e
      omega
    · have := h3 i j hi hj
      have e' : c.wideF w g = c.lookN w g i - c.lookN w g j := e
      unfold Cs.lookN at e'
      omega
  · have h6 : (s : Int) ≤ spreadF (c.looksF w g) := by
      refine h4 g _ h1 (fun i j hi hj => ?_) ?_
      · have a := lo_hi _ _ (hmem i hi)
        have b := lo_hi _ _ (hmem j hj)
        rw [spread_eq]; omega
      · have a := lo_hi _ _ (hmem 0 (by omega))
        rw [spread_eq]; omega
    have h7 : spreadF (c.looksF w g) ≤ s := by
      obtain ⟨k, hk, hmin⟩ := least_look c w g g.length (by omega)
      refine spread_le (lo := g.getD k 0 + (c.mores w).getD k 0) (by omega) fun x hx => ?_
      obtain ⟨i, hi, rfl⟩ := List.getElem_of_mem hx
      have e := Cs.looks_at (c := c) hgl (k := i) (by omega)
      rw [List.getD_eq_getElem?_getD, List.getElem?_eq_getElem hi] at e
      simp only [Option.getD_some] at e
      rw [e]
      have a := hmin i (by omega)
      have b := h3 i k (by omega) hk
      omega
    omega
  · refine less_no _ _ (h5 o ho fun i j hi hj => ?_)
    have := wide_alike c w o i j hi hj
    rw [e] at this; exact this

/-- The closest gaps, and some units more, wherever. -/
structure Oth (c : Cs) (w : List Int) (j : Nat) (ys : List Int) : Prop where
  len : ys.length = w.length - 1
  ge : ∀ i, i < ys.length → (c.closest w).getD i 0 ≤ ys.getD i 0 ∧ ys.getD i 0 ≤ 15 + j
  sum : ys.sum = (c.closest w).sum + j
theorem oth_zero {c : Cs} (hc : c.Fair) (w : List Int) : Oth c w 0 (c.closest w) :=
  ⟨Cs.closest_len c w, fun i hi => ⟨Int.le_refl _, by have := (Cs.closest_le hc w _ (getD_mem hi)).2; omega⟩, by omega⟩
theorem oth_succ {c : Cs} {w : List Int} {j : Nat} {ys : List Int} (h : Oth c w j ys) {a : Nat} (ha : a < ys.length) : Oth c w (j + 1) (ys.set a (ys.getD a 0 + 1)) := by
  refine ⟨by rw [List.length_set]; exact h.len, fun i hi => ?_, ?_⟩
  · rw [List.length_set] at hi
    have := h.ge i hi
    rw [getD_set ha]
    split
    · rename_i e; subst e; omega
    · omega
  · rw [sum_set ys a 1 ha, h.sum]; omega
theorem layR_any (o : Option (List Int × Nat)) : ∃ (g : List Int) (s : Nat) (nl cl : Bool), layR o = .tup [vints nl cl g, vint (s : Int), vint 0] := by
  rcases o with _ | ⟨g, s⟩
  · exact ⟨[], 0, true, true, rfl⟩
  · exact ⟨g, s, false, false, rfl⟩

set_option maxRecDepth 100000 in
set_option maxHeartbeats 16000000 in
theorem Laid_any (H : Hp) (x : TyA) (hx : x.Ok) (nl clip : Bool) (l : List Int) (hl : l.length ≤ 9223372036854775807) (hlb : ∀ n ∈ l, 0 ≤ n ∧ n ≤ 255) (nl0 cl0 nl1 cl1 : Bool) (l0 l1 : List Int) (hl0m : l0.length ≤ 9223372036854775807) (hl1m : l1.length ≤ 9223372036854775807) (hb0 : ∀ n ∈ l0, Byte n) (hb1 : ∀ n ∈ l1, Byte n) :
    CallV Tryz.prog 3 [.agg x.cells, .sl nl clip l.length (l.map vbyte), .agg [.sl nl0 cl0 l0.length (l0.map vbyte), .sl nl1 cl1 l1.length (l1.map vbyte)]] H (fun r H' => r = .bool true ∧ H' = H) := by
  have hone : (x.cells.all AV.one) = true := by
    unfold TyA.cells
    rw [List.all_append]
    simp [AV.one]
  have hone2 : (([.sl nl0 cl0 l0.length (l0.map vbyte), .sl nl1 cl1 l1.length (l1.map vbyte)] : List AV).all AV.one) = true := by simp [AV.one]
  have hmk := made_any H x hx
  have hcV := made_valid hx
  have hc6 := made_len hx
  have htk : x.cells.take 10 = x.cells := List.take_of_length_le (by unfold TyA.cells; simp [hx.wd])
  have hlen : x.cells.length = 10 := by unfold TyA.cells; simp [hx.wd]
  generalize x.made = c at hmk hcV hc6
  have hw := wordF_word hlb hc6
  have hwd := word_bytes H nl clip l hl hlb
  generalize hfl : decide (l.length = 0) = fl at hwd
  generalize wordF l = w at hw hwd
  have hwl := hw.2.1
  have hw1 := hw.1
  have hF := hcV.fair
  have hv0 : ([.sl nl0 cl0 l0.length (l0.map vbyte), .sl nl1 cl1 l1.length (l1.map vbyte)] : List AV)[0]? = some (.sl nl0 cl0 l0.length (l0.map vbyte)) := rfl
  have hv1 : ([.sl nl0 cl0 l0.length (l0.map vbyte), .sl nl1 cl1 l1.length (l1.map vbyte)] : List AV)[1]? = some (.sl nl1 cl1 l1.length (l1.map vbyte)) := rfl
  have hvl : ([.sl nl0 cl0 l0.length (l0.map vbyte), .sl nl1 cl1 l1.length (l1.map vbyte)] : List AV).length = 2 := rfl
  generalize ([.sl nl0 cl0 l0.length (l0.map vbyte), .sl nl1 cl1 l1.length (l1.map vbyte)] : List AV) = vc at *
  have hnd := needs_any H c hcV false fl w hw
  obtain ⟨hn340, hcl90⟩ := need_le hF hw
  have hn1 := need_pos hcV hw
  have z0 : (0 : Int) ≤ 0 ∧ (0 : Int) < ((2 : Nat) : Int) := by decide
  have z1 : (0 : Int) ≤ 1 ∧ (1 : Int) < ((2 : Nat) : Int) := by decide
  have t0 : Int.toNat 0 = 0 := rfl
  have t1 : Int.toNat 1 = 1 := rfl
  have n0 : ((0 : Int) != 0) = false := rfl
  have hiw := ints_any H false fl w (by omega)
  have hdn := own_any H c hcV.ok
  have hNd := Need_any H c.own (own_valid hcV) false (decide (w.length = 0)) w (Cs.word_iff.2 hw)
  rw [show c.own.needF [w] = c.needF [w] from rfl] at hNd
  have hrmE : ∀ m : Int, c.roomF w (c.needF [w] + m) = (c.closest w).sum + m := fun m => by
    rw [Cs.need_one]; unfold Cs.roomF Cs.need1 Cs.longF; simp only [List.sum_nil]; omega
  have hLy := fun n hn => Lay_any H c.own (own_valid hcV) false (decide (w.length = 0)) w n (Cs.word_iff.2 hw) hn
  have hLV : ∀ n, c.own.LayV w n = c.LayV w n := fun _ => rfl
  have hbestE : ∀ n, 1 ≤ n ∧ n ≤ 400 → c.needF [w] ≤ n → ∀ (g : List Int) (s : Nat), c.layF w n = some (g, s) → 2 ≤ w.length → Best c w (c.roomF w n) g s := fun n hn hgo g s h h2 => lay_Best hF hw h2 hn hgo h
  have hlaidE : ∀ n, 1 ≤ n ∧ n ≤ 400 → c.needF [w] ≤ n → 2 ≤ w.length → ∃ g s, c.layF w n = some (g, s) ∧ Laid c w n g s := fun n hn hgo h2 => by
    obtain ⟨g, s, h1, -, h3⟩ := lay_laid hF hw h2 hn hgo; exact ⟨g, s, h1, h3⟩
  generalize hN : c.needF [w] = nd at *
  have nn : (nd != nd) = false := by simp
  refine CallV.body Tryz.func3 rfl Tryz.ntmps3 (by rfl) ?_
  refine WpV.seq (WpV.regionE (by simp only [go_sem, reduceCtorEq, Nat.reduceAdd, Nat.reduceMul, Nat.reduceSub, Nat.reduceLT, Nat.reduceLeDiff, Nat.reduceEqDiff, Nat.reduceBEq, Nat.reducePow, hone, hone2]; rfl) (Marks.nil _) ?_)
  simp only [Vthen, VinBlock, if_true, if_false, Nat.reduceEqDiff, reduceCtorEq]
  refine WpV.seq (WpV.region ?_)
  refine WpOps.take 1 (by simp only [go_sem, reduceCtorEq, Nat.reduceAdd, Nat.reduceMul, Nat.reduceSub, Nat.reduceLT, Nat.reduceLeDiff, Nat.reduceEqDiff, Nat.reduceBEq, Nat.reducePow, htk, hlen]; rfl) ?_
  refine WpOps.step (by rfl) (by rfl) (OpW.callY rfl (by rfl) (by rfl) (by rfl) (enters_of Tryz.func8 (by kernel_rfl) rfl) ((hmk).mono ?_))
  rintro _ _ ⟨rfl, hH⟩
  replace hH := hH.symm
  subst hH
  refine WpOps.take 1 (by simp only [go_sem, reduceCtorEq, Nat.reduceAdd, Nat.reduceMul, Nat.reduceSub, Nat.reduceLT, Nat.reduceLeDiff, Nat.reduceEqDiff, Nat.reduceBEq, Nat.reducePow]; rfl) ?_
  refine WpOps.step (by rfl) (by rfl) (OpW.callY rfl (by rfl) (by rfl) (by rfl) (enters_of Tryz.func9 (by kernel_rfl) rfl) ((hwd).mono ?_))
  rintro _ _ ⟨rfl, hH⟩
  replace hH := hH.symm
  subst hH
  refine WpOps.step (by rfl) (by rfl) (OpW.alloc rfl (Tryz.ze32) (fun i7 f7 => ?_))
  refine WpOps.step (by rfl) (by rfl) (OpW.store (ty := 32) (id := i7) (ver := 0) (off := 0) rfl (by simp only [go_sem, reduceCtorEq, Nat.reduceAdd, Nat.reduceMul, Nat.reduceSub, Nat.reduceLT, Nat.reduceLeDiff, Nat.reduceEqDiff, Nat.reduceBEq, Nat.reducePow]; try rfl) (by simp only [go_sem, reduceCtorEq, Nat.reduceAdd, Nat.reduceMul, Nat.reduceSub, Nat.reduceLT, Nat.reduceLeDiff, Nat.reduceEqDiff, Nat.reduceBEq, Nat.reducePow]; try rfl) (Hp.set_eq _ _ _) (by simp only [go_sem, reduceCtorEq, Nat.reduceAdd, Nat.reduceMul, Nat.reduceSub, Nat.reduceLT, Nat.reduceLeDiff, Nat.reduceEqDiff, Nat.reduceBEq, Nat.reducePow]; try rfl) (by exact Tryz.sz32) (by simp) ?_)
  rw [Hp.set_set]
  refine WpOps.take 1 (by simp only [go_sem, reduceCtorEq, Nat.reduceAdd, Nat.reduceMul, Nat.reduceSub, Nat.reduceLT, Nat.reduceLeDiff, Nat.reduceEqDiff, Nat.reduceBEq, Nat.reducePow]; rfl) (WpOps.nil ⟨Marks.nil _, ?_⟩)
  simp only [Vthen, VinBlock, if_true, if_false, Nat.reduceEqDiff, reduceCtorEq]
  refine WpV.pre (Frz.ptr (t := 7) (id := i7) rfl (Hp.set_eq _ _ _)) (Marks.nil _) ?_
  rw [Hp.set_set, Hp.set_same _ _ _ f7]
  refine WpV.seq (WpV.region ?_)
  refine WpOps.take 1 (by simp only [go_sem, reduceCtorEq, Nat.reduceAdd, Nat.reduceMul, Nat.reduceSub, Nat.reduceLT, Nat.reduceLeDiff, Nat.reduceEqDiff, Nat.reduceBEq, Nat.reducePow]; rfl) ?_
  refine WpOps.step (by rfl) (by rfl) (OpW.callY rfl (by rfl) (by rfl) (by rfl) (enters_of Tryz.func11 (by kernel_rfl) rfl) ((hdn).mono ?_))
  rintro _ _ ⟨rfl, hH⟩
  replace hH := hH.symm
  subst hH
  refine WpOps.take 1 (by simp only [go_sem, reduceCtorEq, Nat.reduceAdd, Nat.reduceMul, Nat.reduceSub, Nat.reduceLT, Nat.reduceLeDiff, Nat.reduceEqDiff, Nat.reduceBEq, Nat.reducePow]; rfl) ?_
  refine WpOps.step (by rfl) (by rfl) (OpW.callY rfl (by rfl) (by rfl) (by rfl) (enters_of Tryz.func12 (by kernel_rfl) rfl) ((hiw).mono ?_))
  rintro _ _ ⟨rfl, hH⟩
  replace hH := hH.symm
  subst hH
  refine WpOps.step (by rfl) (by rfl) (OpW.callY rfl (by rfl) (by rfl) (by rfl) (enters_of Tryz.func10 (by kernel_rfl) rfl) ((hNd).mono ?_))
  rintro _ _ ⟨rfl, hH⟩
  replace hH := hH.symm
  subst hH
  refine WpOps.take 5 (by simp only [go_sem, reduceCtorEq, Nat.reduceAdd, Nat.reduceMul, Nat.reduceSub, Nat.reduceLT, Nat.reduceLeDiff, Nat.reduceEqDiff, Nat.reduceBEq, Nat.reducePow]; rfl) (WpOps.nil ⟨Marks.nil _, ?_⟩)
  simp only [Vthen, VinBlock, if_true, if_false, Nat.reduceEqDiff, reduceCtorEq]
  refine WpV.seq ?_
  refine WpV.seq (WpV.region ?_)
  refine WpOps.take 6 (by simp only [go_sem, reduceCtorEq, Nat.reduceAdd, Nat.reduceMul, Nat.reduceSub, Nat.reduceLT, Nat.reduceLeDiff, Nat.reduceEqDiff, Nat.reduceBEq, Nat.reducePow, n0, nn]; rfl) ?_
  refine WpOps.step (by rfl) (by rfl) (OpW.callY rfl (by rfl) (by rfl) (by rfl) (enters_of Tryz.func13 (by kernel_rfl) rfl) ((hnd).mono ?_))
  rintro _ _ ⟨rfl, hH⟩
  replace hH := hH.symm
  subst hH
  refine WpOps.take 2 (by simp only [go_sem, reduceCtorEq, Nat.reduceAdd, Nat.reduceMul, Nat.reduceSub, Nat.reduceLT, Nat.reduceLeDiff, Nat.reduceEqDiff, Nat.reduceBEq, Nat.reducePow, n0, nn]; rfl) (WpOps.nil ⟨Marks.nil _, ?_⟩)
  simp only [Vthen, VinBlock, if_true, if_false, Nat.reduceEqDiff, reduceCtorEq]
  refine WpV.cond rfl (fun hb => by cases hb) (fun hb => WpV.skip ?_)
  simp only [Vthen, VinBlock, if_true, if_false, Nat.reduceEqDiff, reduceCtorEq]
  refine WpV.seq (WpV.regionE (by simp only [go_sem, reduceCtorEq, Nat.reduceAdd, Nat.reduceMul, Nat.reduceSub, Nat.reduceLT, Nat.reduceLeDiff, Nat.reduceEqDiff, Nat.reduceBEq, Nat.reducePow]; rfl) (Marks.nil _) ?_)
  simp only [Vthen, VinBlock, if_true, if_false, Nat.reduceEqDiff, reduceCtorEq]
  obtain ⟨m, hm40, hmE⟩ : ∃ m : Nat, m < 40 ∧ (if l0.length = 0 then (0 : Int) else l0.getD 0 0 % 40) = (m : Int) := by
    split
    · exact ⟨0, by omega, rfl⟩
    · exact ⟨(l0.getD 0 0 % 40).toNat, by omega, by omega⟩
  refine WpV.seqS [(5, .cp vc 0), (7, .cp c.cells 0), (8, vints false fl w), (9, vint nd), (11, vint (m : Int))] ?_ ?_
  · by_cases hl0 : l0.length = 0
    · rw [if_pos hl0] at hmE
      have hg : ¬ ((l0.length : Int) > 0) := by omega
      refine WpV.seq (WpV.regionE (by simp only [go_sem, reduceCtorEq, Nat.reduceAdd, Nat.reduceMul, Nat.reduceSub, Nat.reduceLT, Nat.reduceLeDiff, Nat.reduceEqDiff, Nat.reduceBEq, Nat.reducePow, z0, t0, hv0, hvl, hg]; rfl) (Marks.nil _) ?_)
      simp only [Vthen, VinBlock, if_true, if_false, Nat.reduceEqDiff, reduceCtorEq]
      refine WpV.cond rfl (fun hb => by cases hb) (fun hb => WpV.skip ?_)
      simp only [Vthen, VinBlock, if_true, if_false, Nat.reduceEqDiff, reduceCtorEq]
      exact ⟨by first | rfl | trivial, by first | rfl | trivial, Sub.cons rfl rfl (Sub.cons rfl rfl (Sub.cons rfl rfl (Sub.cons rfl rfl (Sub.cons rfl (by rw [hmE]) (Sub.nil _)))))⟩
    · rw [if_neg hl0] at hmE
      have hg : (l0.length : Int) > 0 := by omega
      have hg' : (0 : Int) < (l0.length : Int) := by omega
      have hb := hb0 _ (getD_mem (xs := l0) (k := 0) (by omega))
      have hgt : (l0.map vbyte)[0]? = some (vbyte (l0.getD 0 0)) := by
        rw [List.getElem?_map, List.getElem?_eq_getElem (show 0 < l0.length by omega), List.getD_eq_getElem?_getD, List.getElem?_eq_getElem (show 0 < l0.length by omega)]; rfl
      generalize l0.getD 0 0 = b at hmE hb hgt
      have wb := byte_wrap hb
      have mb := byte_mod hb 40
      refine WpV.seq (WpV.regionE (by simp only [go_sem, reduceCtorEq, Nat.reduceAdd, Nat.reduceMul, Nat.reduceSub, Nat.reduceLT, Nat.reduceLeDiff, Nat.reduceEqDiff, Nat.reduceBEq, Nat.reducePow, z0, t0, hv0, hvl, hg]; rfl) (Marks.nil _) ?_)
      simp only [Vthen, VinBlock, if_true, if_false, Nat.reduceEqDiff, reduceCtorEq]
      refine WpV.cond rfl (fun hb => ?_) (fun hb => by cases hb)
      refine WpV.regionE (by simp only [go_sem, reduceCtorEq, Nat.reduceAdd, Nat.reduceMul, Nat.reduceSub, Nat.reduceLT, Nat.reduceLeDiff, Nat.reduceEqDiff, Nat.reduceBEq, Nat.reducePow, z0, t0, hv0, hvl, hg', hgt, wb, mb, hmE, Int.reduceEq]; rfl) (Marks.nil _) ?_
      simp only [Vthen, VinBlock, if_true, if_false, Nat.reduceEqDiff, reduceCtorEq]
      exact ⟨by first | rfl | trivial, by first | rfl | trivial, Sub.cons rfl rfl (Sub.cons rfl rfl (Sub.cons rfl rfl (Sub.cons rfl rfl (Sub.cons rfl rfl (Sub.nil _)))))⟩
  clear hmE
  generalize hNn : nd + (m : Int) = n
  have hn : 1 ≤ n ∧ n ≤ 400 := by omega
  have hnw : IntKind.i64.wrap (nd + (m : Int)) = n := by rw [wrap64 (by omega)]; exact hNn
  have hn1w : IntKind.i64.wrap (n + 1) = n + 1 := wrap64 (by omega)
  have hly := hLy n hn
  have hly1 := hLy (n + 1) (by omega)
  rw [hLV] at hly hly1
  unfold Cs.LayV at hly hly1
  rw [hN] at hly hly1
  rw [if_pos (by omega)] at hly hly1
  obtain ⟨g1, s1, nlA, clA, e1⟩ := layR_any (c.layF w (n + 1))
  rw [e1] at hly1
  obtain ⟨g, s, nlg, clg, e2, hgl, hgw, hgb, hBest⟩ : ∃ (g : List Int) (s : Nat) (nl cl : Bool), layR (c.layF w n) = .tup [vints nl cl g, vint (s : Int), vint 0] ∧ g.length = w.length - 1 ∧ c.wideF w g = s ∧ (∀ x ∈ g, 0 ≤ x ∧ x ≤ 400) ∧ (2 ≤ w.length → Best c w ((c.closest w).sum + m) g s) := by
    by_cases h2 : 2 ≤ w.length
    · obtain ⟨g, s, h1, h3⟩ := hlaidE n hn (by omega) h2
      have hB := hbestE n hn (by omega) g s h1 h2
      rw [← hNn, hrmE] at hB
      refine ⟨g, s, false, false, by rw [h1]; rfl, h3.len, hB.wide, fun y hy => ?_, fun _ => hB⟩
      obtain ⟨i, hi, rfl⟩ := List.getElem_of_mem hy
      have := h3.le i hi
      rw [List.getD_eq_getElem?_getD, List.getElem?_eq_getElem hi] at this
      exact this
    · have hw1' : w.length = 1 := by omega
      refine ⟨[], 0, true, true, ?_, by rw [hw1']; rfl, rfl, by simp, fun h => by omega⟩
      unfold Cs.layF
      rw [if_pos hw1']; rfl
  rw [e2] at hly
  clear e1 e2 hLy hLV hbestE hlaidE
  refine WpV.seq (WpV.regionE (by simp only [go_sem, reduceCtorEq, Nat.reduceAdd, Nat.reduceMul, Nat.reduceSub, Nat.reduceLT, Nat.reduceLeDiff, Nat.reduceEqDiff, Nat.reduceBEq, Nat.reducePow, hnw]; rfl) (Marks.nil _) ?_)
  simp only [Vthen, VinBlock, if_true, if_false, Nat.reduceEqDiff, reduceCtorEq]
  refine WpV.seq (WpV.region ?_)
  refine WpOps.take 1 (by simp only [go_sem, reduceCtorEq, Nat.reduceAdd, Nat.reduceMul, Nat.reduceSub, Nat.reduceLT, Nat.reduceLeDiff, Nat.reduceEqDiff, Nat.reduceBEq, Nat.reducePow]; rfl) ?_
  refine WpOps.step (by rfl) (by rfl) (OpW.callY rfl (by rfl) (by rfl) (by rfl) (enters_of Tryz.func11 (by kernel_rfl) rfl) ((hdn).mono ?_))
  rintro _ _ ⟨rfl, hH⟩
  replace hH := hH.symm
  subst hH
  refine WpOps.take 1 (by simp only [go_sem, reduceCtorEq, Nat.reduceAdd, Nat.reduceMul, Nat.reduceSub, Nat.reduceLT, Nat.reduceLeDiff, Nat.reduceEqDiff, Nat.reduceBEq, Nat.reducePow]; rfl) ?_
  refine WpOps.step (by rfl) (by rfl) (OpW.callY rfl (by rfl) (by rfl) (by rfl) (enters_of Tryz.func12 (by kernel_rfl) rfl) ((hiw).mono ?_))
  rintro _ _ ⟨rfl, hH⟩
  replace hH := hH.symm
  subst hH
  refine WpOps.take 1 (by simp only [go_sem, reduceCtorEq, Nat.reduceAdd, Nat.reduceMul, Nat.reduceSub, Nat.reduceLT, Nat.reduceLeDiff, Nat.reduceEqDiff, Nat.reduceBEq, Nat.reducePow]; rfl) ?_
  refine WpOps.step (by rfl) (by rfl) (OpW.callY rfl (by rfl) (by rfl) (by rfl) (enters_of Tryz.func14 (by kernel_rfl) rfl) ((hly).mono ?_))
  rintro _ _ ⟨rfl, hH⟩
  replace hH := hH.symm
  subst hH
  refine WpOps.take 7 (by simp only [go_sem, reduceCtorEq, Nat.reduceAdd, Nat.reduceMul, Nat.reduceSub, Nat.reduceLT, Nat.reduceLeDiff, Nat.reduceEqDiff, Nat.reduceBEq, Nat.reducePow]; rfl) (WpOps.nil ⟨Marks.nil _, ?_⟩)
  simp only [Vthen, VinBlock, if_true, if_false, Nat.reduceEqDiff, reduceCtorEq]
  refine WpV.seq (WpV.region ?_)
  refine WpOps.take 1 (by simp only [go_sem, reduceCtorEq, Nat.reduceAdd, Nat.reduceMul, Nat.reduceSub, Nat.reduceLT, Nat.reduceLeDiff, Nat.reduceEqDiff, Nat.reduceBEq, Nat.reducePow, hn1w]; rfl) ?_
  refine WpOps.step (by rfl) (by rfl) (OpW.callY rfl (by rfl) (by rfl) (by rfl) (enters_of Tryz.func11 (by kernel_rfl) rfl) ((hdn).mono ?_))
  rintro _ _ ⟨rfl, hH⟩
  replace hH := hH.symm
  subst hH
  refine WpOps.take 1 (by simp only [go_sem, reduceCtorEq, Nat.reduceAdd, Nat.reduceMul, Nat.reduceSub, Nat.reduceLT, Nat.reduceLeDiff, Nat.reduceEqDiff, Nat.reduceBEq, Nat.reducePow, hn1w]; rfl) ?_
  refine WpOps.step (by rfl) (by rfl) (OpW.callY rfl (by rfl) (by rfl) (by rfl) (enters_of Tryz.func12 (by kernel_rfl) rfl) ((hiw).mono ?_))
  rintro _ _ ⟨rfl, hH⟩
  replace hH := hH.symm
  subst hH
  refine WpOps.take 2 (by simp only [go_sem, reduceCtorEq, Nat.reduceAdd, Nat.reduceMul, Nat.reduceSub, Nat.reduceLT, Nat.reduceLeDiff, Nat.reduceEqDiff, Nat.reduceBEq, Nat.reducePow, hn1w]; rfl) ?_
  refine WpOps.step (by rfl) (by rfl) (OpW.callY rfl (by rfl) (by rfl) (by rfl) (enters_of Tryz.func14 (by kernel_rfl) rfl) ((hly1).mono ?_))
  rintro _ _ ⟨rfl, hH⟩
  replace hH := hH.symm
  subst hH
  refine WpOps.take 7 (by simp only [go_sem, reduceCtorEq, Nat.reduceAdd, Nat.reduceMul, Nat.reduceSub, Nat.reduceLT, Nat.reduceLeDiff, Nat.reduceEqDiff, Nat.reduceBEq, Nat.reducePow, hn1w]; rfl) (WpOps.nil ⟨Marks.nil _, ?_⟩)
  simp only [Vthen, VinBlock, if_true, if_false, Nat.reduceEqDiff, reduceCtorEq]
  refine WpV.seq ?_
  have hwm : IntKind.i64.wrap ((w.length : Int) - 1) = ((w.length - 1 : Nat) : Int) := by rw [wrap64 (by omega)]; omega
  have e0 : (((g.length : Nat) : Int) != ((w.length - 1 : Nat) : Int)) = false := by rw [hgl]; simp
  have hgb' : ∀ x ∈ g, 0 ≤ x ∧ x ≤ 1000 := fun x hx => by have := hgb x hx; omega
  have hwi := wide_any H c hcV false fl nlg clg w g hw hgl hgb'
  rw [hgw] at hwi
  have ss : ((s : Int) != (s : Int)) = false := by simp
  refine WpV.seq (WpV.region ?_)
  refine WpOps.take 8 (by simp only [go_sem, reduceCtorEq, Nat.reduceAdd, Nat.reduceMul, Nat.reduceSub, Nat.reduceLT, Nat.reduceLeDiff, Nat.reduceEqDiff, Nat.reduceBEq, Nat.reducePow, n0, hwm, e0, ss]; rfl) ?_
  refine WpOps.take 8 (by simp only [go_sem, reduceCtorEq, Nat.reduceAdd, Nat.reduceMul, Nat.reduceSub, Nat.reduceLT, Nat.reduceLeDiff, Nat.reduceEqDiff, Nat.reduceBEq, Nat.reducePow, n0, hwm, e0, ss]; rfl) ?_
  refine WpOps.take 2 (by simp only [go_sem, reduceCtorEq, Nat.reduceAdd, Nat.reduceMul, Nat.reduceSub, Nat.reduceLT, Nat.reduceLeDiff, Nat.reduceEqDiff, Nat.reduceBEq, Nat.reducePow, n0, hwm, e0, ss]; rfl) ?_
  refine WpOps.step (by rfl) (by rfl) (OpW.callY rfl (by rfl) (by rfl) (by rfl) (enters_of Tryz.func15 (by kernel_rfl) rfl) ((hwi).mono ?_))
  rintro _ _ ⟨rfl, hH⟩
  replace hH := hH.symm
  subst hH
  refine WpOps.take 3 (by simp only [go_sem, reduceCtorEq, Nat.reduceAdd, Nat.reduceMul, Nat.reduceSub, Nat.reduceLT, Nat.reduceLeDiff, Nat.reduceEqDiff, Nat.reduceBEq, Nat.reducePow, n0, hwm, e0, ss]; rfl) (WpOps.nil ⟨Marks.nil _, ?_⟩)
  simp only [Vthen, VinBlock, if_true, if_false, Nat.reduceEqDiff, reduceCtorEq]
  refine WpV.cond rfl (fun hb => by cases hb) (fun hb => WpV.skip ?_)
  simp only [Vthen, VinBlock, if_true, if_false, Nat.reduceEqDiff, reduceCtorEq]
  refine WpV.seqS [(5, .cp vc 0), (7, .cp c.cells 0), (8, vints false fl w), (11, vint (m : Int)), (12, vint n), (13, vints nlg clg g), (14, vint (s : Int))] ?_ ?_
  · by_cases hnd1 : nd > 1
    · have hndw : IntKind.i64.wrap (nd - 1) = nd - 1 := wrap64 (by omega)
      have hly2 := Lay_any H c.own (own_valid hcV) false (decide (w.length = 0)) w (nd - 1) (Cs.word_iff.2 hw) (by omega)
      rw [show c.own.LayV w (nd - 1) = c.LayV w (nd - 1) from rfl] at hly2
      unfold Cs.LayV at hly2
      rw [hN, if_neg (by omega)] at hly2
      have n8 : ((8 : Int) != 8) = false := rfl
      have n00 : (((0 : Nat) : Int) != 0) = false := rfl
      refine WpV.seq (WpV.regionE (by simp only [go_sem, reduceCtorEq, Nat.reduceAdd, Nat.reduceMul, Nat.reduceSub, Nat.reduceLT, Nat.reduceLeDiff, Nat.reduceEqDiff, Nat.reduceBEq, Nat.reducePow, hnd1]; rfl) (Marks.nil _) ?_)
      simp only [Vthen, VinBlock, if_true, if_false, Nat.reduceEqDiff, reduceCtorEq]
      refine WpV.cond rfl (fun hb => ?_) (fun hb => by cases hb)
      refine WpV.seq (WpV.region ?_)
      refine WpOps.take 1 (by simp only [go_sem, reduceCtorEq, Nat.reduceAdd, Nat.reduceMul, Nat.reduceSub, Nat.reduceLT, Nat.reduceLeDiff, Nat.reduceEqDiff, Nat.reduceBEq, Nat.reducePow, hndw]; rfl) ?_
      refine WpOps.step (by rfl) (by rfl) (OpW.callY rfl (by rfl) (by rfl) (by rfl) (enters_of Tryz.func11 (by kernel_rfl) rfl) ((hdn).mono ?_))
      rintro _ _ ⟨rfl, hH⟩
      replace hH := hH.symm
      subst hH
      refine WpOps.take 1 (by simp only [go_sem, reduceCtorEq, Nat.reduceAdd, Nat.reduceMul, Nat.reduceSub, Nat.reduceLT, Nat.reduceLeDiff, Nat.reduceEqDiff, Nat.reduceBEq, Nat.reducePow, hndw]; rfl) ?_
      refine WpOps.step (by rfl) (by rfl) (OpW.callY rfl (by rfl) (by rfl) (by rfl) (enters_of Tryz.func12 (by kernel_rfl) rfl) ((hiw).mono ?_))
      rintro _ _ ⟨rfl, hH⟩
      replace hH := hH.symm
      subst hH
      refine WpOps.take 2 (by simp only [go_sem, reduceCtorEq, Nat.reduceAdd, Nat.reduceMul, Nat.reduceSub, Nat.reduceLT, Nat.reduceLeDiff, Nat.reduceEqDiff, Nat.reduceBEq, Nat.reducePow, hndw]; rfl) ?_
      refine WpOps.step (by rfl) (by rfl) (OpW.callY rfl (by rfl) (by rfl) (by rfl) (enters_of Tryz.func14 (by kernel_rfl) rfl) ((hly2).mono ?_))
      rintro _ _ ⟨rfl, hH⟩
      replace hH := hH.symm
      subst hH
      refine WpOps.take 7 (by simp only [go_sem, reduceCtorEq, Nat.reduceAdd, Nat.reduceMul, Nat.reduceSub, Nat.reduceLT, Nat.reduceLeDiff, Nat.reduceEqDiff, Nat.reduceBEq, Nat.reducePow, hndw]; rfl) (WpOps.nil ⟨Marks.nil _, ?_⟩)
      simp only [Vthen, VinBlock, if_true, if_false, Nat.reduceEqDiff, reduceCtorEq]
      refine WpV.seq (WpV.regionE (by simp only [go_sem, reduceCtorEq, Nat.reduceAdd, Nat.reduceMul, Nat.reduceSub, Nat.reduceLT, Nat.reduceLeDiff, Nat.reduceEqDiff, Nat.reduceBEq, Nat.reducePow, n8, n0, n00]; rfl) (Marks.nil _) ?_)
      simp only [Vthen, VinBlock, if_true, if_false, Nat.reduceEqDiff, reduceCtorEq]
      refine WpV.cond rfl (fun hb => by cases hb) (fun hb => WpV.skip ?_)
      simp only [Vthen, VinBlock, if_true, if_false, Nat.reduceEqDiff, reduceCtorEq]
      exact ⟨by first | rfl | trivial, by first | rfl | trivial, Sub.cons rfl rfl (Sub.cons rfl rfl (Sub.cons rfl rfl (Sub.cons rfl rfl (Sub.cons rfl rfl (Sub.cons rfl rfl (Sub.cons rfl rfl (Sub.nil _)))))))⟩
    · refine WpV.seq (WpV.regionE (by simp only [go_sem, reduceCtorEq, Nat.reduceAdd, Nat.reduceMul, Nat.reduceSub, Nat.reduceLT, Nat.reduceLeDiff, Nat.reduceEqDiff, Nat.reduceBEq, Nat.reducePow, hnd1]; rfl) (Marks.nil _) ?_)
      simp only [Vthen, VinBlock, if_true, if_false, Nat.reduceEqDiff, reduceCtorEq]
      refine WpV.cond rfl (fun hb => by cases hb) (fun hb => WpV.skip ?_)
      simp only [Vthen, VinBlock, if_true, if_false, Nat.reduceEqDiff, reduceCtorEq]
      exact ⟨by first | rfl | trivial, by first | rfl | trivial, Sub.cons rfl rfl (Sub.cons rfl rfl (Sub.cons rfl rfl (Sub.cons rfl rfl (Sub.cons rfl rfl (Sub.cons rfl rfl (Sub.cons rfl rfl (Sub.nil _)))))))⟩
  have hsub : IntKind.i64.wrap (n - nd) = (m : Int) := by rw [wrap64 (by omega)]; omega
  refine WpV.seq (WpV.region ?_)
  refine WpOps.take 3 (by simp only [go_sem, reduceCtorEq, Nat.reduceAdd, Nat.reduceMul, Nat.reduceSub, Nat.reduceLT, Nat.reduceLeDiff, Nat.reduceEqDiff, Nat.reduceBEq, Nat.reducePow, hsub]; rfl) ?_
  refine WpOps.step (by rfl) (by rfl) (OpW.callY rfl (by rfl) (by rfl) (by rfl) (enters_of Tryz.func13 (by kernel_rfl) rfl) ((hnd).mono ?_))
  rintro _ _ ⟨rfl, hH⟩
  replace hH := hH.symm
  subst hH
  refine WpOps.take 2 (by simp only [go_sem, reduceCtorEq, Nat.reduceAdd, Nat.reduceMul, Nat.reduceSub, Nat.reduceLT, Nat.reduceLeDiff, Nat.reduceEqDiff, Nat.reduceBEq, Nat.reducePow, hsub]; rfl) (WpOps.nil ⟨Marks.nil _, ?_⟩)
  simp only [Vthen, VinBlock, if_true, if_false, Nat.reduceEqDiff, reduceCtorEq]
  have hcl := Cs.closest_len c w
  have hcle := Cs.closest_le hF w
  have hgt := fun k (h : k < g.length) => int_at' (L := g) h
  refine WpV.seqS [(5, .cp vc 0), (7, .cp c.cells 0), (8, vints false fl w), (11, vint (m : Int)), (13, vints nlg clg g), (14, vint (s : Int)), (22, vint ((m : Int) - (pre g.length g - pre g.length (c.closest w))))] ?_ ?_
  · refine WpV.seq (WpV.regionE (by simp only [go_sem, reduceCtorEq, Nat.reduceAdd, Nat.reduceMul, Nat.reduceSub, Nat.reduceLT, Nat.reduceLeDiff, Nat.reduceEqDiff, Nat.reduceBEq, Nat.reducePow]; rfl) (Marks.nil _) ?_)
    simp only [Vthen, VinBlock, if_true, if_false, Nat.reduceEqDiff, reduceCtorEq]
    refine WpV.block (WpV.loopN g.length (fun k => [(5, .cp vc 0), (7, .cp c.cells 0), (8, vints false fl w), (11, vint (m : Int)), (13, vints nlg clg g), (14, vint (s : Int)), (22, vint ((m : Int) - (pre k g - pre k (c.closest w)))), (23, vint k)]) (fun _ => H) ?_ rfl ?_)
    · exact .cons rfl rfl (.cons rfl rfl (.cons rfl rfl (.cons rfl rfl (.cons rfl rfl (.cons rfl rfl (.cons rfl (by rw [pre_zero, pre_zero]; first | done | (congr 1; omega) | simp) (.cons rfl rfl (.nil _))))))))
    · intro k hk
      refine WpV.seq ?_
      refine WpV.seq (WpV.regionE (by simp only [go_sem, reduceCtorEq, Nat.reduceAdd, Nat.reduceMul, Nat.reduceSub, Nat.reduceLT, Nat.reduceLeDiff, Nat.reduceEqDiff, Nat.reduceBEq, Nat.reducePow]; rfl) (Marks.nil _) ?_)
      simp only [Vthen, VinBlock, if_true, if_false, Nat.reduceEqDiff, reduceCtorEq]
      refine WpV.cond rfl (fun hb => WpV.skip ?_) (fun hb => WpV.exit ?_)
      · have hlt : (k : Int) < (g.length : Int) := of_decide_eq_true ‹_›
        have hlt' : k < g.length := by omega
        have hgk := hgt k hlt'
        have hB := hBest (by omega)
        have hge := hB.fills.ge k hlt'
        have hls := least_any H c hcV false fl w hw k (by omega)
        have hg400 := hgb _ (getD_mem (xs := g) hlt')
        have hc15 := hcle _ (getD_mem (xs := c.closest w) (k := k) (by omega))
        have hp1 := pre_succ k g
        have hp2 := pre_succ k (c.closest w)
        have hb1 := sum_bound (xs := g.take k) (a := 0) (b := 400) (fun y hy => hgb y (List.mem_of_mem_take hy))
        have hb2 := sum_bound (xs := (c.closest w).take k) (a := 0) (b := 15) (fun y hy => hcle y (List.mem_of_mem_take hy))
        have hl1 : (g.take k).length ≤ 7 := by rw [List.length_take]; omega
        have hl2 : ((c.closest w).take k).length ≤ 7 := by rw [List.length_take]; omega
        rw [hp1, hp2]
        change _ ∧ pre k g ≤ _ at hb1
        change _ ∧ pre k (c.closest w) ≤ _ at hb2
        have hb1' : 0 ≤ pre k g ∧ pre k g ≤ 2800 := ⟨by have := hb1.1; change _ ≤ pre k g at this; omega, by omega⟩
        have hb2' : 0 ≤ pre k (c.closest w) ∧ pre k (c.closest w) ≤ 105 := ⟨by have := hb2.1; change _ ≤ pre k (c.closest w) at this; omega, by omega⟩
        clear hb1 hb2 hp1 hp2
        generalize pre k g = p1 at *
        generalize pre k (c.closest w) = p2 at *
        generalize g.getD k 0 = gk at *
        generalize (c.closest w).getD k 0 = ck at *
        have hnl : ¬ (gk < ck) := by omega
        have hr1 : IntKind.i64.wrap (gk - ck) = gk - ck := wrap64 (by omega)
        have hr2 : IntKind.i64.wrap ((m : Int) - (p1 - p2) - (gk - ck)) = (m : Int) - (p1 - p2) - (gk - ck) := wrap64 (by omega)
        have hnk : IntKind.i64.wrap ((k : Int) + 1) = ((k + 1 : Nat) : Int) := by rw [wrap64 (by omega)]; rfl
        simp only [Vthen, VinBlock, if_true, if_false, Nat.reduceEqDiff, reduceCtorEq]
        refine WpV.seq (WpV.block ?_)
        refine WpV.seq ?_
        refine WpV.seq (WpV.regionD Tryz.mixed (by kernel_rfl) (by kernel_rfl) ?_)
        refine LexD.take 7 (by rfl) (by simp only [go_sem, reduceCtorEq, Nat.reduceAdd, Nat.reduceMul, Nat.reduceSub, Nat.reduceLT, Nat.reduceLeDiff, Nat.reduceEqDiff, Nat.reduceBEq, Nat.reducePow, hlt, hgk, hnl]; rfl) ?_
        refine LexD.step (by rfl) (by rfl) (OpW.callY rfl (by rfl) (by rfl) (by rfl) (enters_of Tryz.func16 (by kernel_rfl) rfl) (hls)) ?_
        refine LexD.take 1 (by rfl) (by simp only [go_sem, reduceCtorEq, Nat.reduceAdd, Nat.reduceMul, Nat.reduceSub, Nat.reduceLT, Nat.reduceLeDiff, Nat.reduceEqDiff, Nat.reduceBEq, Nat.reducePow, hlt, hgk, hnl]; rfl) (LexD.nilE ⟨Marks.nil _, ?_⟩)
        simp only [Vthen, VinBlock, if_true, if_false, Nat.reduceEqDiff, reduceCtorEq]
        refine WpV.cond rfl (fun hb => by cases hb) (fun hb => WpV.skip ?_)
        simp only [Vthen, VinBlock, if_true, if_false, Nat.reduceEqDiff, reduceCtorEq]
        refine WpV.regionTN 11 Tryz.mixed (by kernel_rfl) (by kernel_rfl) (by kernel_rfl) ?_
        refine LexD.take 8 (by rfl) (by simp only [go_sem, reduceCtorEq, Nat.reduceAdd, Nat.reduceMul, Nat.reduceSub, Nat.reduceLT, Nat.reduceLeDiff, Nat.reduceEqDiff, Nat.reduceBEq, Nat.reducePow, hlt, hgk, hr1, hr2]; rfl) ?_
        refine LexD.step (by rfl) (by rfl) (OpW.callY rfl (by rfl) (by rfl) (by rfl) (enters_of Tryz.func16 (by kernel_rfl) rfl) (hls)) ?_
        refine LexD.take 2 (by rfl) (by simp only [go_sem, reduceCtorEq, Nat.reduceAdd, Nat.reduceMul, Nat.reduceSub, Nat.reduceLT, Nat.reduceLeDiff, Nat.reduceEqDiff, Nat.reduceBEq, Nat.reducePow, hlt, hgk, hr1, hr2]; rfl) ?_
        refine LexD.nilE ?_
        refine LexT.take 1 (by simp only [go_sem, reduceCtorEq, Nat.reduceAdd, Nat.reduceMul, Nat.reduceSub, Nat.reduceLT, Nat.reduceLeDiff, Nat.reduceEqDiff, Nat.reduceBEq, Nat.reducePow, hlt, hgk, hr1, hr2]; rfl) (LexT.nilE ⟨Marks.nil _, ?_⟩)
        simp only [Vthen, VinBlock, if_true, if_false, Nat.reduceEqDiff, reduceCtorEq]
        refine WpV.regionE (by simp only [go_sem, reduceCtorEq, Nat.reduceAdd, Nat.reduceMul, Nat.reduceSub, Nat.reduceLT, Nat.reduceLeDiff, Nat.reduceEqDiff, Nat.reduceBEq, Nat.reducePow, hnk]; rfl) (Marks.nil _) ?_
        simp only [Vthen, VinBlock, if_true, if_false, Nat.reduceEqDiff, reduceCtorEq]
        exact ⟨by first | rfl | trivial, hlt', .cons rfl rfl (.cons rfl rfl (.cons rfl rfl (.cons rfl rfl (.cons rfl rfl (.cons rfl rfl (.cons rfl (by congr 1; omega) (.cons rfl rfl (.nil _)))))))), by first | rfl | trivial⟩
      · have hge : k = g.length := by have := of_decide_eq_false ‹_›; omega
        subst hge
        simp only [Vthen, VinBlock, if_true, if_false, Nat.reduceEqDiff, reduceCtorEq]
        exact ⟨by first | rfl | trivial, by first | rfl | trivial, Sub.cons rfl rfl (Sub.cons rfl rfl (Sub.cons rfl rfl (Sub.cons rfl rfl (Sub.cons rfl rfl (Sub.cons rfl rfl (Sub.cons rfl rfl (Sub.nil _)))))))⟩
  refine WpV.seq ?_
  by_cases hg0 : g.length = 0
  · have e1 : ((g.length : Int) == 0) = true := by rw [hg0]; rfl
    refine WpV.seq (WpV.regionE (by simp only [go_sem, reduceCtorEq, Nat.reduceAdd, Nat.reduceMul, Nat.reduceSub, Nat.reduceLT, Nat.reduceLeDiff, Nat.reduceEqDiff, Nat.reduceBEq, Nat.reducePow, e1]; rfl) (Marks.nil _) ?_)
    simp only [Vthen, VinBlock, if_true, if_false, Nat.reduceEqDiff, reduceCtorEq]
    refine WpV.cond rfl (fun hb => ?_) (fun hb => by cases hb)
    refine WpV.seq (WpV.region ?_)
    refine WpOps.step (by rfl) (by rfl) (OpW.callY rfl (by rfl) (by rfl) (by rfl) (enters_of Tryz.func17 (by kernel_rfl) rfl) ((known_any H).mono ?_))
    rintro _ _ ⟨rfl, hH⟩
    replace hH := hH.symm
    subst hH
    refine WpOps.take 1 (by simp only [go_sem, reduceCtorEq, Nat.reduceAdd, Nat.reduceMul, Nat.reduceSub, Nat.reduceLT, Nat.reduceLeDiff, Nat.reduceEqDiff, Nat.reduceBEq, Nat.reducePow]; rfl) (WpOps.nil ⟨Marks.nil _, ?_⟩)
    simp only [Vthen, VinBlock, if_true, if_false, Nat.reduceEqDiff, reduceCtorEq]
    refine WpV.ret ⟨Marks.nil _, List.nodup_nil, _, by simp only [Tryz.results3]; simp only [go_sem, reduceCtorEq, Nat.reduceAdd, Nat.reduceMul, Nat.reduceSub, Nat.reduceLT, Nat.reduceLeDiff, Nat.reduceEqDiff, Nat.reduceBEq, Nat.reducePow]; rfl, ?_⟩
    exact ⟨rfl, rfl⟩
  have e1 : ((g.length : Int) == 0) = false := by simp; intro e; exact hg0 (by rw [e]; rfl)
  have hB := hBest (by omega)
  clear hBest
  have hzero : (m : Int) - (pre g.length g - pre g.length (c.closest w)) = 0 := by
    have h1 := hB.fills.sum
    have h2 := pre_len g
    have h3 := pre_len (c.closest w)
    rw [hcl, ← hgl] at h3
    omega
  rw [hzero]
  refine WpV.seq (WpV.regionE (by simp only [go_sem, reduceCtorEq, Nat.reduceAdd, Nat.reduceMul, Nat.reduceSub, Nat.reduceLT, Nat.reduceLeDiff, Nat.reduceEqDiff, Nat.reduceBEq, Nat.reducePow, e1]; rfl) (Marks.nil _) ?_)
  simp only [Vthen, VinBlock, if_true, if_false, Nat.reduceEqDiff, reduceCtorEq]
  refine WpV.cond rfl (fun hb => by cases hb) (fun hb => WpV.skip ?_)
  simp only [Vthen, VinBlock, if_true, if_false, Nat.reduceEqDiff, reduceCtorEq]
  refine WpV.seq ?_
  refine WpV.seq (WpV.regionE (by simp only [go_sem, reduceCtorEq, Nat.reduceAdd, Nat.reduceMul, Nat.reduceSub, Nat.reduceLT, Nat.reduceLeDiff, Nat.reduceEqDiff, Nat.reduceBEq, Nat.reducePow, n0]; rfl) (Marks.nil _) ?_)
  simp only [Vthen, VinBlock, if_true, if_false, Nat.reduceEqDiff, reduceCtorEq]
  refine WpV.cond rfl (fun hb => by cases hb) (fun hb => WpV.skip ?_)
  simp only [Vthen, VinBlock, if_true, if_false, Nat.reduceEqDiff, reduceCtorEq]
  refine WpV.seqS [(7, .cp c.cells 0), (8, vints false fl w), (13, vints nlg clg g), (14, vint (s : Int))] ?_ ?_
  · refine WpV.seq (WpV.regionE (by simp only [go_sem, reduceCtorEq, Nat.reduceAdd, Nat.reduceMul, Nat.reduceSub, Nat.reduceLT, Nat.reduceLeDiff, Nat.reduceEqDiff, Nat.reduceBEq, Nat.reducePow]; rfl) (Marks.nil _) ?_)
    simp only [Vthen, VinBlock, if_true, if_false, Nat.reduceEqDiff, reduceCtorEq]
    refine WpV.block (WpV.loopN 2 (fun k => [(5, .cp vc 0), (7, .cp c.cells 0), (8, vints false fl w), (11, vint (m : Int)), (13, vints nlg clg g), (14, vint (s : Int)), (24, vint k)]) (fun _ => H) ?_ rfl ?_)
    · exact .cons rfl rfl (.cons rfl rfl (.cons rfl rfl (.cons rfl rfl (.cons rfl rfl (.cons rfl rfl (.cons rfl rfl (.nil _)))))))
    · intro k hk
      refine WpV.seq ?_
      refine WpV.seq (WpV.regionE (by simp only [go_sem, reduceCtorEq, Nat.reduceAdd, Nat.reduceMul, Nat.reduceSub, Nat.reduceLT, Nat.reduceLeDiff, Nat.reduceEqDiff, Nat.reduceBEq, Nat.reducePow]; rfl) (Marks.nil _) ?_)
      simp only [Vthen, VinBlock, if_true, if_false, Nat.reduceEqDiff, reduceCtorEq]
      refine WpV.cond rfl (fun hb => WpV.skip ?_) (fun hb => WpV.exit ?_)
      · have hk2 : (k : Int) < 2 := of_decide_eq_true ‹_›
        have hk2' : k < 2 := by omega
        have hnkk : IntKind.i64.wrap ((k : Int) + 1) = ((k + 1 : Nat) : Int) := by rw [wrap64 (by omega)]; rfl
        have hgp : 0 < g.length := by omega
        simp only [Vthen, VinBlock, if_true, if_false, Nat.reduceEqDiff, reduceCtorEq]
        refine WpV.seq (WpV.block ?_)
        refine WpV.seq (WpV.regionE (by simp only [go_sem, reduceCtorEq, Nat.reduceAdd, Nat.reduceMul, Nat.reduceSub, Nat.reduceLT, Nat.reduceLeDiff, Nat.reduceEqDiff, Nat.reduceBEq, Nat.reducePow]; rfl) (Marks.nil _) ?_)
        simp only [Vthen, VinBlock, if_true, if_false, Nat.reduceEqDiff, reduceCtorEq]
        refine WpV.seq ?_
        refine WpV.seq (WpV.regionE (by simp only [go_sem, reduceCtorEq, Nat.reduceAdd, Nat.reduceMul, Nat.reduceSub, Nat.reduceLT, Nat.reduceLeDiff, Nat.reduceEqDiff, Nat.reduceBEq, Nat.reducePow]; rfl) (Marks.nil _) ?_)
        simp only [Vthen, VinBlock, if_true, if_false, Nat.reduceEqDiff, reduceCtorEq]
        refine WpV.block (WpV.loopB 3 1 false g.length (fun _ => True) (fun j => j) (fun j => ((c.closest w).take j).map vint) (fun j v => [(5, .cp vc 0), (7, .cp c.cells 0), (8, vints false fl w), (11, vint (m : Int)), (13, vints nlg clg g), (14, vint (s : Int)), (24, vint k), (25, v), (26, vint j)]) trivial (Bld.nil H 3 1 false) ?_ ?_)
        · exact .cons rfl rfl (.cons rfl rfl (.cons rfl rfl (.cons rfl rfl (.cons rfl rfl (.cons rfl rfl (.cons rfl rfl (.cons rfl rfl (.cons rfl rfl (.nil _)))))))))
        intro j hj _ v H1 hBl
        refine WpV.seq ?_
        refine WpV.seq (WpV.regionE (by simp only [go_sem, reduceCtorEq, Nat.reduceAdd, Nat.reduceMul, Nat.reduceSub, Nat.reduceLT, Nat.reduceLeDiff, Nat.reduceEqDiff, Nat.reduceBEq, Nat.reducePow]; rfl) (Marks.nil _) ?_)
        simp only [Vthen, VinBlock, if_true, if_false, Nat.reduceEqDiff, reduceCtorEq]
        refine WpV.cond rfl (fun hb => WpV.skip ?_) (fun hb => WpV.exit ?_)
        · have hlt : (j : Int) < (g.length : Int) := of_decide_eq_true ‹_›
          have hlt' : j < g.length := by omega
          have hls := least_any H1 c hcV false fl w hw j (by omega)
          have hnj : IntKind.i64.wrap ((j : Int) + 1) = ((j + 1 : Nat) : Int) := by rw [wrap64 (by omega)]; rfl
          have htk : (c.closest w).take (j + 1) = (c.closest w).take j ++ [(c.closest w).getD j 0] := by
            rw [List.take_add_one, List.getElem?_eq_getElem (show j < (c.closest w).length by omega), List.getD_eq_getElem?_getD, List.getElem?_eq_getElem (show j < (c.closest w).length by omega)]; rfl
          generalize (c.closest w).getD j 0 = cj at *
          simp only [Vthen, VinBlock, if_true, if_false, Nat.reduceEqDiff, reduceCtorEq]
          refine WpV.seq (WpV.block ?_)
          refine WpV.region ?_
          refine WpOps.take 4 (by simp only [go_sem, reduceCtorEq, Nat.reduceAdd, Nat.reduceMul, Nat.reduceSub, Nat.reduceLT, Nat.reduceLeDiff, Nat.reduceEqDiff, Nat.reduceBEq, Nat.reducePow]; rfl) ?_
          refine WpOps.step (by rfl) (by rfl) (OpW.callY rfl (by rfl) (by rfl) (by rfl) (enters_of Tryz.func16 (by kernel_rfl) rfl) ((hls).mono ?_))
          rintro _ _ ⟨rfl, hH⟩
          replace hH := hH.symm
          subst hH
          refine WpOps.take 1 (by simp only [go_sem, reduceCtorEq, Nat.reduceAdd, Nat.reduceMul, Nat.reduceSub, Nat.reduceLT, Nat.reduceLeDiff, Nat.reduceEqDiff, Nat.reduceBEq, Nat.reducePow]; rfl) ?_
          refine WpOps.step (by rfl) (by rfl) (OpW.appendB (m := 1) (ys := [vint cj]) rfl hBl rfl rfl rfl (Tryz.el29 (by omega)) Tryz.underlying29 rfl rfl (by decide) (fun v' H' hB' => ?_))
          refine WpOps.take 1 (by simp only [go_sem, reduceCtorEq, Nat.reduceAdd, Nat.reduceMul, Nat.reduceSub, Nat.reduceLT, Nat.reduceLeDiff, Nat.reduceEqDiff, Nat.reduceBEq, Nat.reducePow]; rfl) (WpOps.nil ⟨Marks.nil _, ?_⟩)
          simp only [Vthen, VinBlock, if_true, if_false, Nat.reduceEqDiff, reduceCtorEq]
          refine WpV.regionE (by simp only [go_sem, reduceCtorEq, Nat.reduceAdd, Nat.reduceMul, Nat.reduceSub, Nat.reduceLT, Nat.reduceLeDiff, Nat.reduceEqDiff, Nat.reduceBEq, Nat.reducePow, hnj]; rfl) (Marks.nil _) ?_
          simp only [Vthen, VinBlock, if_true, if_false, Nat.reduceEqDiff, reduceCtorEq]
          refine ⟨by first | rfl | trivial, hlt', trivial, v', ?_, .cons rfl rfl (.cons rfl rfl (.cons rfl rfl (.cons rfl rfl (.cons rfl rfl (.cons rfl rfl (.cons rfl rfl (.cons rfl rfl (.cons rfl rfl (.nil _)))))))))⟩
          rw [htk, List.map_append]; exact hB'
        have hge : j = g.length := by have := of_decide_eq_false ‹_›; omega
        subst hge
        rw [List.take_of_length_le (by omega)] at hBl
        obtain ⟨-, ⟨h0, -⟩ | ⟨-, idp, verp, hidp, rfl, rfl⟩⟩ := hBl
        · omega
        simp only [Vthen, VinBlock, if_true, if_false, Nat.reduceEqDiff, reduceCtorEq]
        refine WpV.seq ?_
        refine WpV.seq (WpV.regionE (by simp only [go_sem, reduceCtorEq, Nat.reduceAdd, Nat.reduceMul, Nat.reduceSub, Nat.reduceLT, Nat.reduceLeDiff, Nat.reduceEqDiff, Nat.reduceBEq, Nat.reducePow]; rfl) (Marks.nil _) ?_)
        simp only [Vthen, VinBlock, if_true, if_false, Nat.reduceEqDiff, reduceCtorEq]
        refine WpV.block (WpV.loop (ι := { p : Nat × List Int // p.1 ≤ m ∧ Oth c w p.1 p.2 }) (fun p => [(5, .cp vc 0), (7, .cp c.cells 0), (8, vints false fl w), (11, vint (m : Int)), (13, vints nlg clg g), (14, vint (s : Int)), (24, vint k), (25, .rs idp verp 1 0 g.length false), (27, vint p.1.1)]) (fun p => H.set idp (some (.cells 3 verp (p.1.2.map vint)))) (fun p => m - p.1.1) ⟨(0, c.closest w), Nat.zero_le _, oth_zero hF w⟩ ?_ rfl ?_)
        · exact Sub.cons rfl rfl (Sub.cons rfl rfl (Sub.cons rfl rfl (Sub.cons rfl rfl (Sub.cons rfl rfl (Sub.cons rfl rfl (Sub.cons rfl rfl (Sub.cons rfl rfl (Sub.cons rfl rfl (Sub.nil _)))))))))
        rintro ⟨⟨j, ys⟩, hj, hO⟩
        simp only at hj hO ⊢
        have hyl := hO.len
        have hib2 : (H.set idp (some (.cells 3 verp (ys.map vint)))) idp = some (.cells 3 verp (ys.map vint)) := Hp.set_eq _ _ _
        refine WpV.seq ?_
        refine WpV.seq (WpV.regionE (by simp only [go_sem, reduceCtorEq, Nat.reduceAdd, Nat.reduceMul, Nat.reduceSub, Nat.reduceLT, Nat.reduceLeDiff, Nat.reduceEqDiff, Nat.reduceBEq, Nat.reducePow]; rfl) (Marks.nil _) ?_)
        simp only [Vthen, VinBlock, if_true, if_false, Nat.reduceEqDiff, reduceCtorEq]
        refine WpV.cond rfl (fun hb => WpV.skip ?_) (fun hb => WpV.exit ?_)
        · have hlt : (j : Int) < (m : Int) := of_decide_eq_true ‹_›
          have hlt' : j < m := by omega
          have hnj : IntKind.i64.wrap ((j : Int) + 1) = ((j + 1 : Nat) : Int) := by rw [wrap64 (by omega)]; rfl
          simp only [Vthen, VinBlock, if_true, if_false, Nat.reduceEqDiff, reduceCtorEq]
          refine WpV.seq (WpV.block ?_)
          refine WpV.seq (WpV.regionE (by simp only [go_sem, reduceCtorEq, Nat.reduceAdd, Nat.reduceMul, Nat.reduceSub, Nat.reduceLT, Nat.reduceLeDiff, Nat.reduceEqDiff, Nat.reduceBEq, Nat.reducePow]; rfl) (Marks.nil _) ?_)
          simp only [Vthen, VinBlock, if_true, if_false, Nat.reduceEqDiff, reduceCtorEq]
          obtain ⟨at', hat, hatE⟩ : ∃ at' : Int, Byte at' ∧ at' = (if k = 1 ∧ 0 < l1.length then l1.getD (j % l1.length) 0 else (j : Int)) := by
            refine ⟨_, ?_, rfl⟩
            split
            · rename_i h; exact hb1 _ (getD_mem (Nat.mod_lt _ h.2))
            · unfold Byte; omega
          refine WpV.seqS [(5, .cp vc 0), (7, .cp c.cells 0), (8, vints false fl w), (11, vint (m : Int)), (13, vints nlg clg g), (14, vint (s : Int)), (24, vint k), (25, .rs idp verp 1 0 g.length false), (27, vint j), (28, vint at')] ?_ ?_
          · by_cases hk1 : k = 1
            · have hkb : ((k : Int) == 1) = true := by rw [hk1]; rfl
              by_cases hl1 : 0 < l1.length
              · rw [if_pos ⟨hk1, hl1⟩] at hatE
                have hl1g : (l1.length : Int) > 0 := by omega
                have hl1n : ¬ ((l1.length : Int) = 0) := by omega
                have hq : ((j : Int).tmod (l1.length : Int)) = ((j % l1.length : Nat) : Int) := by rw [Int.tmod_eq_emod_of_nonneg (by omega)]; rfl
                have hqn := Nat.mod_lt j hl1
                generalize j % l1.length = q at hq hqn hatE
                have hqlt : (q : Int) < (l1.length : Int) := by omega
                have hgq : (l1.map vbyte)[q]? = some (vbyte at') := by
                  rw [List.getElem?_map, List.getElem?_eq_getElem hqn, hatE, List.getD_eq_getElem?_getD, List.getElem?_eq_getElem hqn]; rfl
                have wb := byte_wrap hat
                refine WpV.seq (WpV.regionE (by simp only [go_sem, reduceCtorEq, Nat.reduceAdd, Nat.reduceMul, Nat.reduceSub, Nat.reduceLT, Nat.reduceLeDiff, Nat.reduceEqDiff, Nat.reduceBEq, Nat.reducePow, hkb, z1, t1, hv1, hvl, hl1g]; rfl) (Marks.nil _) ?_)
                simp only [Vthen, VinBlock, if_true, if_false, Nat.reduceEqDiff, reduceCtorEq]
                refine WpV.cond rfl (fun hb => ?_) (fun hb => by cases hb)
                refine WpV.regionDE Tryz.mixed (by kernel_rfl) (by kernel_rfl) (by rfl) (by simp only [go_sem, reduceCtorEq, Nat.reduceAdd, Nat.reduceMul, Nat.reduceSub, Nat.reduceLT, Nat.reduceLeDiff, Nat.reduceEqDiff, Nat.reduceBEq, Nat.reducePow, z1, t1, hv1, hvl, hl1n, hq, hqlt, hgq, wb]; rfl) (Marks.nil _) ?_
                simp only [Vthen, VinBlock, if_true, if_false, Nat.reduceEqDiff, reduceCtorEq]
                exact ⟨by first | rfl | trivial, by first | rfl | trivial, Sub.cons rfl rfl (Sub.cons rfl rfl (Sub.cons rfl rfl (Sub.cons rfl rfl (Sub.cons rfl rfl (Sub.cons rfl rfl (Sub.cons rfl rfl (Sub.cons rfl rfl (Sub.cons rfl rfl (Sub.cons rfl rfl (Sub.nil _))))))))))⟩
              · rw [if_neg (fun h => hl1 h.2)] at hatE
                have hl1g : ¬ ((l1.length : Int) > 0) := by omega
                refine WpV.seq (WpV.regionE (by simp only [go_sem, reduceCtorEq, Nat.reduceAdd, Nat.reduceMul, Nat.reduceSub, Nat.reduceLT, Nat.reduceLeDiff, Nat.reduceEqDiff, Nat.reduceBEq, Nat.reducePow, hkb, z1, t1, hv1, hvl, hl1g]; rfl) (Marks.nil _) ?_)
                simp only [Vthen, VinBlock, if_true, if_false, Nat.reduceEqDiff, reduceCtorEq]
                refine WpV.cond rfl (fun hb => by cases hb) (fun hb => WpV.skip ?_)
                simp only [Vthen, VinBlock, if_true, if_false, Nat.reduceEqDiff, reduceCtorEq]
                exact ⟨by first | rfl | trivial, by first | rfl | trivial, Sub.cons rfl rfl (Sub.cons rfl rfl (Sub.cons rfl rfl (Sub.cons rfl rfl (Sub.cons rfl rfl (Sub.cons rfl rfl (Sub.cons rfl rfl (Sub.cons rfl rfl (Sub.cons rfl rfl (Sub.cons rfl (by rw [hatE]) (Sub.nil _))))))))))⟩
            · rw [if_neg (fun h => hk1 h.1)] at hatE
              have hkb : ((k : Int) == 1) = false := by simp; omega
              refine WpV.seq (WpV.regionE (by simp only [go_sem, reduceCtorEq, Nat.reduceAdd, Nat.reduceMul, Nat.reduceSub, Nat.reduceLT, Nat.reduceLeDiff, Nat.reduceEqDiff, Nat.reduceBEq, Nat.reducePow, hkb]; rfl) (Marks.nil _) ?_)
              simp only [Vthen, VinBlock, if_true, if_false, Nat.reduceEqDiff, reduceCtorEq]
              refine WpV.cond rfl (fun hb => by cases hb) (fun hb => WpV.skip ?_)
              simp only [Vthen, VinBlock, if_true, if_false, Nat.reduceEqDiff, reduceCtorEq]
              exact ⟨by first | rfl | trivial, by first | rfl | trivial, Sub.cons rfl rfl (Sub.cons rfl rfl (Sub.cons rfl rfl (Sub.cons rfl rfl (Sub.cons rfl rfl (Sub.cons rfl rfl (Sub.cons rfl rfl (Sub.cons rfl rfl (Sub.cons rfl rfl (Sub.cons rfl (by rw [hatE]) (Sub.nil _))))))))))⟩
          have hgn : ¬ ((g.length : Int) = 0) := by omega
          obtain ⟨a, ha, hva⟩ : ∃ a : Nat, a < g.length ∧ at' % (g.length : Int) = (a : Int) := by
            have h1 := Int.emod_nonneg at' hgn
            have h2 := Int.emod_lt_of_pos at' (b := (g.length : Int)) (by omega)
            exact ⟨(at' % (g.length : Int)).toNat, by omega, by omega⟩
          have hmo := byte_mod hat (g.length : Int)
          rw [hva] at hmo
          have hag : (a : Int) < (g.length : Int) := by omega
          have hya := int_at' (L := ys) (k := a) (by omega)
          have hyb := hO.ge a (by omega)
          have hcb := (hcle _ (getD_mem (xs := c.closest w) (k := a) (by omega))).1
          have hya1 : IntKind.i64.wrap (ys.getD a 0 + 1) = ys.getD a 0 + 1 := wrap64 (by omega)
          have hO2 := oth_succ hO (a := a) (by omega)
          generalize ys.getD a 0 = ya at *
          refine WpV.region ?_
          refine WpOps.take 5 (by simp only [go_sem, reduceCtorEq, Nat.reduceAdd, Nat.reduceMul, Nat.reduceSub, Nat.reduceLT, Nat.reduceLeDiff, Nat.reduceEqDiff, Nat.reduceBEq, Nat.reducePow, hgn, hmo]; rfl) ?_
          refine WpOps.take 3 (by simp only [go_sem, reduceCtorEq, Nat.reduceAdd, Nat.reduceMul, Nat.reduceSub, Nat.reduceLT, Nat.reduceLeDiff, Nat.reduceEqDiff, Nat.reduceBEq, Nat.reducePow, hib2, hag, hya, hya1]; rfl) ?_
          refine WpOps.take 1 (by simp only [go_sem, reduceCtorEq, Nat.reduceAdd, Nat.reduceMul, Nat.reduceSub, Nat.reduceLT, Nat.reduceLeDiff, Nat.reduceEqDiff, Nat.reduceBEq, Nat.reducePow, hib2, hag]; rfl) ?_
          refine WpOps.step (by rfl) (by rfl) (OpW.store (ty := 3) (cs := ys.map vint) (id := idp) (ver := verp) (off := a) rfl (by simp only [go_sem, reduceCtorEq, Nat.reduceAdd, Nat.reduceMul, Nat.reduceSub, Nat.reduceLT, Nat.reduceLeDiff, Nat.reduceEqDiff, Nat.reduceBEq, Nat.reducePow]; try rfl) (by simp only [go_sem, reduceCtorEq, Nat.reduceAdd, Nat.reduceMul, Nat.reduceSub, Nat.reduceLT, Nat.reduceLeDiff, Nat.reduceEqDiff, Nat.reduceBEq, Nat.reducePow]; try rfl) hib2 (by simp only [go_sem, reduceCtorEq, Nat.reduceAdd, Nat.reduceMul, Nat.reduceSub, Nat.reduceLT, Nat.reduceLeDiff, Nat.reduceEqDiff, Nat.reduceBEq, Nat.reducePow]; try rfl) (by exact Tryz.sz3) (by simp; omega) ?_)
          rw [Hp.set_set, show putC (ys.map vint) a [vint (ya + 1)] = (ys.set a (ya + 1)).map vint by rw [putC_set _ _ _ (by simp; omega), ← List.map_set]]
          refine WpOps.nil ⟨Marks.nil _, ?_⟩
          simp only [Vthen, VinBlock, if_true, if_false, Nat.reduceEqDiff, reduceCtorEq]
          refine WpV.regionE (by simp only [go_sem, reduceCtorEq, Nat.reduceAdd, Nat.reduceMul, Nat.reduceSub, Nat.reduceLT, Nat.reduceLeDiff, Nat.reduceEqDiff, Nat.reduceBEq, Nat.reducePow, hnj]; rfl) (Marks.nil _) ?_
          simp only [Vthen, VinBlock, if_true, if_false, Nat.reduceEqDiff, reduceCtorEq]
          exact ⟨by first | rfl | trivial, ⟨(j + 1, ys.set a (ya + 1)), by simp only; omega, hO2⟩, by simp only; omega, Sub.cons rfl rfl (Sub.cons rfl rfl (Sub.cons rfl rfl (Sub.cons rfl rfl (Sub.cons rfl rfl (Sub.cons rfl rfl (Sub.cons rfl rfl (Sub.cons rfl rfl (Sub.cons rfl rfl (Sub.nil _))))))))), by first | rfl | trivial⟩
        have hjm : j = m := by have := of_decide_eq_false ‹_›; omega
        subst hjm
        simp only [Vthen, VinBlock, if_true, if_false, Nat.reduceEqDiff, reduceCtorEq]
        refine WpV.pre (Frz.slice (t := 25) rfl hib2) (Marks.nil _) ?_
        rw [Hp.set_set, Hp.set_same _ _ _ hidp]
        rw [show AV.sl false false g.length (((ys.map vint).drop 0).take (g.length * 1)) = vints false false ys by rw [List.drop_zero, List.take_of_length_le (by simp; omega), show g.length = ys.length by omega]]
        have hcg : ∀ i, i < ys.length → 0 ≤ (c.closest w).getD i 0 := fun i hi => (hcle _ (getD_mem (xs := c.closest w) (k := i) (by omega))).1
        have hfo : FillsB c w ((c.closest w).sum + (j : Int)) ys := ⟨hyl, fun i hi => (hO.ge i hi).1, hO.sum⟩
        obtain ⟨ho1, ho2⟩ := hB.other ys hfo
        have hwo := wide_any H c hcV false fl false false w ys hw hyl (fun y hy => by
          obtain ⟨i, hi, rfl⟩ := List.getElem_of_mem hy
          have h1 := hO.ge i hi
          have h2 := hcg i hi
          rw [List.getD_eq_getElem?_getD (l := ys), List.getElem?_eq_getElem hi] at h1
          simp only [Option.getD_some] at h1
          omega)
        have hle := less_any H false false nlg clg ys g (by omega) (by omega)
        generalize c.wideF w ys = wo at *
        have hnl : ¬ (wo < (s : Int)) := by omega
        refine WpV.seq (WpV.region ?_)
        refine WpOps.take 3 (by simp only [go_sem, reduceCtorEq, Nat.reduceAdd, Nat.reduceMul, Nat.reduceSub, Nat.reduceLT, Nat.reduceLeDiff, Nat.reduceEqDiff, Nat.reduceBEq, Nat.reducePow]; rfl) ?_
        refine WpOps.step (by rfl) (by rfl) (OpW.callY rfl (by rfl) (by rfl) (by rfl) (enters_of Tryz.func15 (by kernel_rfl) rfl) ((hwo).mono ?_))
        rintro _ _ ⟨rfl, hH⟩
        replace hH := hH.symm
        subst hH
        refine WpOps.take 1 (by simp only [go_sem, reduceCtorEq, Nat.reduceAdd, Nat.reduceMul, Nat.reduceSub, Nat.reduceLT, Nat.reduceLeDiff, Nat.reduceEqDiff, Nat.reduceBEq, Nat.reducePow]; rfl) (WpOps.nil ⟨Marks.nil _, ?_⟩)
        simp only [Vthen, VinBlock, if_true, if_false, Nat.reduceEqDiff, reduceCtorEq]
        by_cases heq : wo = (s : Int)
        · rw [ho2 heq] at hle
          have heb : (wo == (s : Int)) = true := by simp [heq]
          refine WpV.seq (WpV.region ?_)
          refine WpOps.take 8 (by simp only [go_sem, reduceCtorEq, Nat.reduceAdd, Nat.reduceMul, Nat.reduceSub, Nat.reduceLT, Nat.reduceLeDiff, Nat.reduceEqDiff, Nat.reduceBEq, Nat.reducePow, hnl, heb]; rfl) ?_
          refine WpOps.take 2 (by simp only [go_sem, reduceCtorEq, Nat.reduceAdd, Nat.reduceMul, Nat.reduceSub, Nat.reduceLT, Nat.reduceLeDiff, Nat.reduceEqDiff, Nat.reduceBEq, Nat.reducePow, hnl, heb]; rfl) ?_
          refine WpOps.step (by rfl) (by rfl) (OpW.callY rfl (by rfl) (by rfl) (by rfl) (enters_of Tryz.func18 (by kernel_rfl) rfl) ((hle).mono ?_))
          rintro _ _ ⟨rfl, hH⟩
          replace hH := hH.symm
          subst hH
          refine WpOps.take 2 (by simp only [go_sem, reduceCtorEq, Nat.reduceAdd, Nat.reduceMul, Nat.reduceSub, Nat.reduceLT, Nat.reduceLeDiff, Nat.reduceEqDiff, Nat.reduceBEq, Nat.reducePow, hnl, heb]; rfl) (WpOps.nil ⟨Marks.nil _, ?_⟩)
          simp only [Vthen, VinBlock, if_true, if_false, Nat.reduceEqDiff, reduceCtorEq]
          refine WpV.cond rfl (fun hb => by cases hb) (fun hb => WpV.skip ?_)
          simp only [Vthen, VinBlock, if_true, if_false, Nat.reduceEqDiff, reduceCtorEq]
          refine WpV.regionE (by simp only [go_sem, reduceCtorEq, Nat.reduceAdd, Nat.reduceMul, Nat.reduceSub, Nat.reduceLT, Nat.reduceLeDiff, Nat.reduceEqDiff, Nat.reduceBEq, Nat.reducePow, hnkk]; rfl) (Marks.nil _) ?_
          simp only [Vthen, VinBlock, if_true, if_false, Nat.reduceEqDiff, reduceCtorEq]
          exact ⟨by first | rfl | trivial, hk2', .cons rfl rfl (.cons rfl rfl (.cons rfl rfl (.cons rfl rfl (.cons rfl rfl (.cons rfl rfl (.cons rfl rfl (.nil _))))))), by first | rfl | trivial⟩
        · have heb : (wo == (s : Int)) = false := by simp [heq]
          refine WpV.seq (WpV.region ?_)
          refine WpOps.take 8 (by simp only [go_sem, reduceCtorEq, Nat.reduceAdd, Nat.reduceMul, Nat.reduceSub, Nat.reduceLT, Nat.reduceLeDiff, Nat.reduceEqDiff, Nat.reduceBEq, Nat.reducePow, hnl, heb]; rfl) ?_
          refine WpOps.take 5 (by simp only [go_sem, reduceCtorEq, Nat.reduceAdd, Nat.reduceMul, Nat.reduceSub, Nat.reduceLT, Nat.reduceLeDiff, Nat.reduceEqDiff, Nat.reduceBEq, Nat.reducePow, hnl, heb]; rfl) (WpOps.nil ⟨Marks.nil _, ?_⟩)
          simp only [Vthen, VinBlock, if_true, if_false, Nat.reduceEqDiff, reduceCtorEq]
          refine WpV.cond rfl (fun hb => by cases hb) (fun hb => WpV.skip ?_)
          simp only [Vthen, VinBlock, if_true, if_false, Nat.reduceEqDiff, reduceCtorEq]
          refine WpV.regionE (by simp only [go_sem, reduceCtorEq, Nat.reduceAdd, Nat.reduceMul, Nat.reduceSub, Nat.reduceLT, Nat.reduceLeDiff, Nat.reduceEqDiff, Nat.reduceBEq, Nat.reducePow, hnkk]; rfl) (Marks.nil _) ?_
          simp only [Vthen, VinBlock, if_true, if_false, Nat.reduceEqDiff, reduceCtorEq]
          exact ⟨by first | rfl | trivial, hk2', .cons rfl rfl (.cons rfl rfl (.cons rfl rfl (.cons rfl rfl (.cons rfl rfl (.cons rfl rfl (.cons rfl rfl (.nil _))))))), by first | rfl | trivial⟩
      · simp only [Vthen, VinBlock, if_true, if_false, Nat.reduceEqDiff, reduceCtorEq]
        exact ⟨by first | rfl | trivial, by first | rfl | trivial, Sub.cons rfl rfl (Sub.cons rfl rfl (Sub.cons rfl rfl (Sub.cons rfl rfl (Sub.nil _))))⟩
  have hig := ints_any H nlg clg g (by omega)
  have hLk := Looks_any H c.own (own_valid hcV) false (decide (w.length = 0)) false (decide (g.length = 0)) w g (Cs.word_iff.2 hw) (by
    unfold gapsB
    rw [Bool.and_eq_true, insB_iff]
    exact ⟨by simp only [beq_iff_eq]; omega, fun x hx => hgb x hx⟩)
  rw [show c.own.looksF w g = c.looksF w g from rfl, hB.spread] at hLk
  have hLl : (c.looksF w g).length = g.length := by rw [Cs.looks_len hgl, hgl]
  have hLat : ∀ i, i < g.length → (c.looksF w g).getD i 0 = g.getD i 0 + (c.mores w).getD i 0 := fun i hi => by rw [Cs.looks_at hgl (by omega), Int.add_comm]
  have hge : ∀ i, i < g.length → c.least ≤ g.getD i 0 + (c.mores w).getD i 0 := fun i hi => by
    have h1 := hB.fills.ge i hi
    rw [Cs.close_at c w (by omega)] at h1
    unfold Cs.close at h1
    split at h1 <;> omega
  have hLt : ∀ i, i < g.length → ((c.looksF w g).map vint)[i]? = some (vint (g.getD i 0 + (c.mores w).getD i 0)) := fun i hi => by
    rw [← hLat i hi]; exact int_at' (by omega)
  generalize (true && decide ((c.looksF w g).length = 0)) = f1 at hLk
  generalize decide ((c.looksF w g).length = 0) = f2 at hLk
  generalize c.looksF w g = lk at *
  have ll : (((lk.length : Nat) : Int) != ((g.length : Nat) : Int)) = false := by rw [hLl]; simp
  refine WpV.seq (WpV.region ?_)
  refine WpOps.take 1 (by simp only [go_sem, reduceCtorEq, Nat.reduceAdd, Nat.reduceMul, Nat.reduceSub, Nat.reduceLT, Nat.reduceLeDiff, Nat.reduceEqDiff, Nat.reduceBEq, Nat.reducePow]; rfl) ?_
  refine WpOps.step (by rfl) (by rfl) (OpW.callY rfl (by rfl) (by rfl) (by rfl) (enters_of Tryz.func11 (by kernel_rfl) rfl) ((hdn).mono ?_))
  rintro _ _ ⟨rfl, hH⟩
  replace hH := hH.symm
  subst hH
  refine WpOps.take 1 (by simp only [go_sem, reduceCtorEq, Nat.reduceAdd, Nat.reduceMul, Nat.reduceSub, Nat.reduceLT, Nat.reduceLeDiff, Nat.reduceEqDiff, Nat.reduceBEq, Nat.reducePow]; rfl) ?_
  refine WpOps.step (by rfl) (by rfl) (OpW.callY rfl (by rfl) (by rfl) (by rfl) (enters_of Tryz.func12 (by kernel_rfl) rfl) ((hiw).mono ?_))
  rintro _ _ ⟨rfl, hH⟩
  replace hH := hH.symm
  subst hH
  refine WpOps.take 1 (by simp only [go_sem, reduceCtorEq, Nat.reduceAdd, Nat.reduceMul, Nat.reduceSub, Nat.reduceLT, Nat.reduceLeDiff, Nat.reduceEqDiff, Nat.reduceBEq, Nat.reducePow]; rfl) ?_
  refine WpOps.step (by rfl) (by rfl) (OpW.callY rfl (by rfl) (by rfl) (by rfl) (enters_of Tryz.func12 (by kernel_rfl) rfl) ((hig).mono ?_))
  rintro _ _ ⟨rfl, hH⟩
  replace hH := hH.symm
  subst hH
  refine WpOps.step (by rfl) (by rfl) (OpW.callY rfl (by rfl) (by rfl) (by rfl) (enters_of Tryz.func19 (by kernel_rfl) rfl) ((hLk).mono ?_))
  rintro _ _ ⟨rfl, hH⟩
  replace hH := hH.symm
  subst hH
  refine WpOps.take 7 (by simp only [go_sem, reduceCtorEq, Nat.reduceAdd, Nat.reduceMul, Nat.reduceSub, Nat.reduceLT, Nat.reduceLeDiff, Nat.reduceEqDiff, Nat.reduceBEq, Nat.reducePow]; rfl) (WpOps.nil ⟨Marks.nil _, ?_⟩)
  simp only [Vthen, VinBlock, if_true, if_false, Nat.reduceEqDiff, reduceCtorEq]
  refine WpV.seq ?_
  refine WpV.seq (WpV.region ?_)
  refine WpOps.take 8 (by simp only [go_sem, reduceCtorEq, Nat.reduceAdd, Nat.reduceMul, Nat.reduceSub, Nat.reduceLT, Nat.reduceLeDiff, Nat.reduceEqDiff, Nat.reduceBEq, Nat.reducePow, n0, ss, ll]; rfl) ?_
  refine WpOps.take 6 (by simp only [go_sem, reduceCtorEq, Nat.reduceAdd, Nat.reduceMul, Nat.reduceSub, Nat.reduceLT, Nat.reduceLeDiff, Nat.reduceEqDiff, Nat.reduceBEq, Nat.reducePow, n0, ss, ll]; rfl) (WpOps.nil ⟨Marks.nil _, ?_⟩)
  simp only [Vthen, VinBlock, if_true, if_false, Nat.reduceEqDiff, reduceCtorEq]
  refine WpV.cond rfl (fun hb => by cases hb) (fun hb => WpV.skip ?_)
  simp only [Vthen, VinBlock, if_true, if_false, Nat.reduceEqDiff, reduceCtorEq]
  refine WpV.seq ?_
  refine WpV.seq (WpV.regionE (by simp only [go_sem, reduceCtorEq, Nat.reduceAdd, Nat.reduceMul, Nat.reduceSub, Nat.reduceLT, Nat.reduceLeDiff, Nat.reduceEqDiff, Nat.reduceBEq, Nat.reducePow]; rfl) (Marks.nil _) ?_)
  simp only [Vthen, VinBlock, if_true, if_false, Nat.reduceEqDiff, reduceCtorEq]
  refine WpV.block (WpV.loopN g.length (fun k => [(7, .cp c.cells 0), (8, vints false fl w), (13, vints nlg clg g), (30, vints f1 f2 lk), (33, vint k)]) (fun _ => H) ?_ rfl ?_)
  · exact .cons rfl rfl (.cons rfl rfl (.cons rfl rfl (.cons rfl rfl (.cons rfl rfl (.nil _)))))
  · intro k hk
    refine WpV.seq ?_
    refine WpV.seq (WpV.regionE (by simp only [go_sem, reduceCtorEq, Nat.reduceAdd, Nat.reduceMul, Nat.reduceSub, Nat.reduceLT, Nat.reduceLeDiff, Nat.reduceEqDiff, Nat.reduceBEq, Nat.reducePow]; rfl) (Marks.nil _) ?_)
    simp only [Vthen, VinBlock, if_true, if_false, Nat.reduceEqDiff, reduceCtorEq]
    refine WpV.cond rfl (fun hb => WpV.skip ?_) (fun hb => WpV.exit ?_)
    · have hltl : (k : Int) < (lk.length : Int) := of_decide_eq_true ‹_›
      have hlt' : k < g.length := by omega
      have hlt : (k : Int) < (g.length : Int) := by omega
      have hgk := hgt k hlt'
      have hlk := hLt k hlt'
      have hgek := hge k hlt'
      have hlo := look_any H c hcV false fl w hw k (by omega) (g.getD k 0) (by have := hgb _ (getD_mem (xs := g) hlt'); omega)
      have hnk : IntKind.i64.wrap ((k : Int) + 1) = ((k + 1 : Nat) : Int) := by rw [wrap64 (by omega)]; rfl
      generalize g.getD k 0 + (c.mores w).getD k 0 = y at hlk hgek hlo
      have hyy : (y != y) = false := by simp
      have hyl : ¬ (y < c.least) := by omega
      simp only [Vthen, VinBlock, if_true, if_false, Nat.reduceEqDiff, reduceCtorEq]
      refine WpV.seq (WpV.block ?_)
      refine WpV.seq (WpV.regionD Tryz.mixed (by kernel_rfl) (by kernel_rfl) ?_)
      refine LexD.take 8 (by rfl) (by simp only [go_sem, reduceCtorEq, Nat.reduceAdd, Nat.reduceMul, Nat.reduceSub, Nat.reduceLT, Nat.reduceLeDiff, Nat.reduceEqDiff, Nat.reduceBEq, Nat.reducePow, hlt, hltl, hgk, hlk, hyy, hyl]; rfl) ?_
      refine LexD.take 3 (by rfl) (by simp only [go_sem, reduceCtorEq, Nat.reduceAdd, Nat.reduceMul, Nat.reduceSub, Nat.reduceLT, Nat.reduceLeDiff, Nat.reduceEqDiff, Nat.reduceBEq, Nat.reducePow, hlt, hltl, hgk, hlk, hyy, hyl]; rfl) ?_
      refine LexD.step (by rfl) (by rfl) (OpW.callY rfl (by rfl) (by rfl) (by rfl) (enters_of Tryz.func20 (by kernel_rfl) rfl) (hlo)) ?_
      refine LexD.take 8 (by rfl) (by simp only [go_sem, reduceCtorEq, Nat.reduceAdd, Nat.reduceMul, Nat.reduceSub, Nat.reduceLT, Nat.reduceLeDiff, Nat.reduceEqDiff, Nat.reduceBEq, Nat.reducePow, hlt, hltl, hgk, hlk, hyy, hyl]; rfl) ?_
      refine LexD.take 2 (by rfl) (by simp only [go_sem, reduceCtorEq, Nat.reduceAdd, Nat.reduceMul, Nat.reduceSub, Nat.reduceLT, Nat.reduceLeDiff, Nat.reduceEqDiff, Nat.reduceBEq, Nat.reducePow, hlt, hltl, hgk, hlk, hyy, hyl]; rfl) (LexD.nilE ⟨Marks.nil _, ?_⟩)
      simp only [Vthen, VinBlock, if_true, if_false, Nat.reduceEqDiff, reduceCtorEq]
      refine WpV.cond rfl (fun hb => by cases hb) (fun hb => WpV.skip ?_)
      simp only [Vthen, VinBlock, if_true, if_false, Nat.reduceEqDiff, reduceCtorEq]
      refine WpV.regionE (by simp only [go_sem, reduceCtorEq, Nat.reduceAdd, Nat.reduceMul, Nat.reduceSub, Nat.reduceLT, Nat.reduceLeDiff, Nat.reduceEqDiff, Nat.reduceBEq, Nat.reducePow, hnk]; rfl) (Marks.nil _) ?_
      simp only [Vthen, VinBlock, if_true, if_false, Nat.reduceEqDiff, reduceCtorEq]
      exact ⟨by first | rfl | trivial, hlt', .cons rfl rfl (.cons rfl rfl (.cons rfl rfl (.cons rfl rfl (.cons rfl rfl (.nil _))))), by first | rfl | trivial⟩
    · simp only [Vthen, VinBlock, if_true, if_false, Nat.reduceEqDiff, reduceCtorEq]
      refine WpV.seq (WpV.region ?_)
      refine WpOps.step (by rfl) (by rfl) (OpW.callY rfl (by rfl) (by rfl) (by rfl) (enters_of Tryz.func17 (by kernel_rfl) rfl) ((known_any H).mono ?_))
      rintro _ _ ⟨rfl, hH⟩
      replace hH := hH.symm
      subst hH
      refine WpOps.take 1 (by simp only [go_sem, reduceCtorEq, Nat.reduceAdd, Nat.reduceMul, Nat.reduceSub, Nat.reduceLT, Nat.reduceLeDiff, Nat.reduceEqDiff, Nat.reduceBEq, Nat.reducePow]; rfl) (WpOps.nil ⟨Marks.nil _, ?_⟩)
      simp only [Vthen, VinBlock, if_true, if_false, Nat.reduceEqDiff, reduceCtorEq]
      refine WpV.ret ⟨Marks.nil _, List.nodup_nil, _, by simp only [Tryz.results3]; simp only [go_sem, reduceCtorEq, Nat.reduceAdd, Nat.reduceMul, Nat.reduceSub, Nat.reduceLT, Nat.reduceLeDiff, Nat.reduceEqDiff, Nat.reduceBEq, Nat.reducePow]; rfl, ?_⟩
      exact ⟨rfl, rfl⟩
end Go.Proofs.YtaekibilldjnmaaGreat
namespace Go.Proofs.YtaekibilldjnmaaGreat
open Go.Proofs

def restN (w : List Int) (q : Nat → Bool) (k : Nat) : List Int := ((List.range k).filter fun i => !q i).map fun i => w.getD i 0
theorem restN_succ (w : List Int) (q : Nat → Bool) (k : Nat) : restN w q (k + 1) = if q k = true then restN w q k else restN w q k ++ [w.getD k 0] := by
  unfold restN
  rw [List.range_succ, List.filter_append, List.map_append]
  cases h : q k <;> simp [h]
theorem restN_len (w : List Int) (q : Nat → Bool) (k : Nat) : (restN w q k).length ≤ k := by
  unfold restN
  rw [List.length_map]
  exact Nat.le_trans (List.length_filter_le _ _) (by simp)
theorem restN_mem {w : List Int} {q : Nat → Bool} {k : Nat} (hk : k ≤ w.length) {x : Int} (h : x ∈ restN w q k) : x ∈ w := by
  unfold restN at h
  obtain ⟨i, hi, rfl⟩ := List.mem_map.1 h
  have := (List.mem_filter.1 hi).1
  rw [List.mem_range] at this
  exact getD_mem (by omega)

set_option maxHeartbeats 4000000 in
theorem rest_any (H : Hp) (g : FuncId) (fs cs : List AV) (q : Nat → Bool) (nl clip : Bool) (w : List Int) (hl : w.length ≤ 1000) (eg : EntersF Tryz.prog g)
    (hq : ∀ H k, k < w.length → CallV Tryz.prog g (fs ++ [vint k] ++ cs) H (fun r H' => r = .bool (q k) ∧ H' = H)) :
    CallV Tryz.prog 22 [.fn (.func g) fs cs, .cp [vints nl clip w] 0] H (fun r H' => r = vints false (decide ((restN w q w.length).length = 0)) (restN w q w.length) ∧ H' = H) := by
  refine CallV.body Tryz.func22 rfl Tryz.ntmps22 (by rfl) ?_
  refine WpV.seq (WpV.regionE (by simp only [go_sem, reduceCtorEq, Nat.reduceAdd, Nat.reduceMul, Nat.reduceSub, Nat.reduceLT, Nat.reduceLeDiff, Nat.reduceEqDiff, Nat.reduceBEq, Nat.reducePow]; rfl) (Marks.nil _) ?_)
  simp only [Vthen, VinBlock, if_true, if_false, Nat.reduceEqDiff, reduceCtorEq]
  refine WpV.seq (WpV.regionE (by simp only [go_sem, reduceCtorEq, Nat.reduceAdd, Nat.reduceMul, Nat.reduceSub, Nat.reduceLT, Nat.reduceLeDiff, Nat.reduceEqDiff, Nat.reduceBEq, Nat.reducePow]; rfl) (Marks.nil _) ?_)
  simp only [Vthen, VinBlock, if_true, if_false, Nat.reduceEqDiff, reduceCtorEq]
  refine WpV.seq ?_
  refine WpV.seq (WpV.regionE (by simp only [go_sem, reduceCtorEq, Nat.reduceAdd, Nat.reduceMul, Nat.reduceSub, Nat.reduceLT, Nat.reduceLeDiff, Nat.reduceEqDiff, Nat.reduceBEq, Nat.reducePow]; rfl) (Marks.nil _) ?_)
  simp only [Vthen, VinBlock, if_true, if_false, Nat.reduceEqDiff, reduceCtorEq]
  refine WpV.block (WpV.loopB 3 1 false w.length (fun _ => True) (fun k => (restN w q k).length) (fun k => (restN w q k).map vint) (fun k v => [(0, .fn (.func g) fs cs), (1, .cp [vints nl clip w] 0), (4, v), (5, vint k)]) trivial (Bld.nil H 3 1 false) ?_ ?_)
  · exact .cons rfl rfl (.cons rfl rfl (.cons rfl rfl (.cons rfl rfl (.nil _))))
  intro k hk _ v H1 hBl
  refine WpV.seq ?_
  refine WpV.seq (WpV.regionE (by simp only [go_sem, reduceCtorEq, Nat.reduceAdd, Nat.reduceMul, Nat.reduceSub, Nat.reduceLT, Nat.reduceLeDiff, Nat.reduceEqDiff, Nat.reduceBEq, Nat.reducePow]; rfl) (Marks.nil _) ?_)
  simp only [Vthen, VinBlock, if_true, if_false, Nat.reduceEqDiff, reduceCtorEq]
  refine WpV.cond rfl (fun hb => WpV.skip ?_) (fun hb => WpV.exit ?_)
  · have hlt : (k : Int) < (w.length : Int) := of_decide_eq_true ‹_›
    have hlt' : k < w.length := by omega
    have hg := int_at' (L := w) hlt'
    have hnk : IntKind.i64.wrap ((k : Int) + 1) = ((k + 1 : Nat) : Int) := by rw [wrap64 (by omega)]; rfl
    have hsu := restN_succ w q k
    have hrl := restN_len w q k
    simp only [Vthen, VinBlock, if_true, if_false, Nat.reduceEqDiff, reduceCtorEq]
    refine WpV.seq (WpV.block ?_)
    refine WpV.seq (WpV.region ?_)
    refine WpOps.take 2 (by simp only [go_sem, reduceCtorEq, Nat.reduceAdd, Nat.reduceMul, Nat.reduceSub, Nat.reduceLT, Nat.reduceLeDiff, Nat.reduceEqDiff, Nat.reduceBEq, Nat.reducePow]; rfl) ?_
    refine WpOps.step (by rfl) (by rfl) (OpW.callY rfl (by rfl) (by rfl) (by rfl) eg ((hq H1 k hlt').mono ?_))
    rintro _ _ ⟨rfl, hH⟩
    replace hH := hH.symm
    subst hH
    refine WpOps.take 1 (by simp only [go_sem, reduceCtorEq, Nat.reduceAdd, Nat.reduceMul, Nat.reduceSub, Nat.reduceLT, Nat.reduceLeDiff, Nat.reduceEqDiff, Nat.reduceBEq, Nat.reducePow]; rfl) (WpOps.nil ⟨Marks.nil _, ?_⟩)
    simp only [Vthen, VinBlock, if_true, if_false, Nat.reduceEqDiff, reduceCtorEq]
    cases hqk : q k
    · rw [hqk, if_neg (by decide)] at hsu
      refine WpV.cond rfl (fun hb => ?_) (fun hb => by cases hb)
      refine WpV.region ?_
      refine WpOps.take 6 (by simp only [go_sem, reduceCtorEq, Nat.reduceAdd, Nat.reduceMul, Nat.reduceSub, Nat.reduceLT, Nat.reduceLeDiff, Nat.reduceEqDiff, Nat.reduceBEq, Nat.reducePow, hlt, hg]; rfl) ?_
      refine WpOps.step (by rfl) (by rfl) (OpW.appendB (m := 1) (ys := [vint (w.getD k 0)]) rfl hBl rfl rfl rfl (Tryz.el29 (by omega)) Tryz.underlying29 rfl rfl (by decide) (fun v' H' hB' => ?_))
      refine WpOps.take 1 (by simp only [go_sem, reduceCtorEq, Nat.reduceAdd, Nat.reduceMul, Nat.reduceSub, Nat.reduceLT, Nat.reduceLeDiff, Nat.reduceEqDiff, Nat.reduceBEq, Nat.reducePow]; rfl) (WpOps.nil ⟨Marks.nil _, ?_⟩)
      simp only [Vthen, VinBlock, if_true, if_false, Nat.reduceEqDiff, reduceCtorEq]
      refine WpV.regionE (by simp only [go_sem, reduceCtorEq, Nat.reduceAdd, Nat.reduceMul, Nat.reduceSub, Nat.reduceLT, Nat.reduceLeDiff, Nat.reduceEqDiff, Nat.reduceBEq, Nat.reducePow, hnk]; rfl) (Marks.nil _) ?_
      simp only [Vthen, VinBlock, if_true, if_false, Nat.reduceEqDiff, reduceCtorEq]
      refine ⟨by first | rfl | trivial, hlt', trivial, v', ?_, .cons rfl rfl (.cons rfl rfl (.cons rfl rfl (.cons rfl rfl (.nil _))))⟩
      rw [hsu, List.map_append, List.length_append]; exact hB'
    · rw [hqk, if_pos rfl] at hsu
      refine WpV.cond rfl (fun hb => by cases hb) (fun hb => WpV.skip ?_)
      simp only [Vthen, VinBlock, if_true, if_false, Nat.reduceEqDiff, reduceCtorEq]
      refine WpV.regionE (by simp only [go_sem, reduceCtorEq, Nat.reduceAdd, Nat.reduceMul, Nat.reduceSub, Nat.reduceLT, Nat.reduceLeDiff, Nat.reduceEqDiff, Nat.reduceBEq, Nat.reducePow, hnk]; rfl) (Marks.nil _) ?_
      simp only [Vthen, VinBlock, if_true, if_false, Nat.reduceEqDiff, reduceCtorEq]
      refine ⟨by first | rfl | trivial, hlt', trivial, v, ?_, .cons rfl rfl (.cons rfl rfl (.cons rfl rfl (.cons rfl rfl (.nil _))))⟩
      rw [hsu]; exact hBl
  · have hge : k = w.length := by have := of_decide_eq_false ‹_›; omega
    subst hge
    simp only [Vthen, VinBlock, if_true, if_false, Nat.reduceEqDiff, reduceCtorEq]
    refine WpV.pre (hBl.frz (t := 4) rfl) (Marks.nil _) ?_
    refine WpV.seq (WpV.regionE (by simp only [go_sem, reduceCtorEq, Nat.reduceAdd, Nat.reduceMul, Nat.reduceSub, Nat.reduceLT, Nat.reduceLeDiff, Nat.reduceEqDiff, Nat.reduceBEq, Nat.reducePow]; rfl) (Marks.nil _) ?_)
    simp only [Vthen, VinBlock, if_true, if_false, Nat.reduceEqDiff, reduceCtorEq]
    refine WpV.ret ⟨Marks.nil _, List.nodup_nil, _, by simp only [Tryz.results22]; simp only [go_sem, reduceCtorEq, Nat.reduceAdd, Nat.reduceMul, Nat.reduceSub, Nat.reduceLT, Nat.reduceLeDiff, Nat.reduceEqDiff, Nat.reduceBEq, Nat.reducePow]; rfl, ?_⟩
    exact ⟨rfl, rfl⟩

theorem but1 (nl clip : Bool) (out : List Int) (hl : out.length < 1000000) (H : Hp) (k : Nat) : CallV Tryz.prog 23 [vint k, .cp [vints nl clip out] 0] H (fun r H' => r = .bool (contB out (k : Int)) ∧ H' = H) := by
  have h := has_any H nl clip out hl (k : Int)
  rw [any_cont] at h
  refine CallV.body Tryz.func23 rfl Tryz.ntmps23 (by rfl) ?_
  refine WpV.seq (WpV.regionE (by simp only [go_sem, reduceCtorEq, Nat.reduceAdd, Nat.reduceMul, Nat.reduceSub, Nat.reduceLT, Nat.reduceLeDiff, Nat.reduceEqDiff, Nat.reduceBEq, Nat.reducePow]; rfl) (Marks.nil _) ?_)
  simp only [Vthen, VinBlock, if_true, if_false, Nat.reduceEqDiff, reduceCtorEq]
  refine WpV.seq (WpV.region ?_)
  refine WpOps.take 2 (by simp only [go_sem, reduceCtorEq, Nat.reduceAdd, Nat.reduceMul, Nat.reduceSub, Nat.reduceLT, Nat.reduceLeDiff, Nat.reduceEqDiff, Nat.reduceBEq, Nat.reducePow]; rfl) ?_
  refine WpOps.step (by rfl) (by rfl) (OpW.callY rfl (by rfl) (by rfl) (by rfl) (enters_of Tryz.func24 (by kernel_rfl) rfl) ((h).mono ?_))
  rintro _ _ ⟨rfl, hH⟩
  replace hH := hH.symm
  subst hH
  refine WpOps.take 1 (by simp only [go_sem, reduceCtorEq, Nat.reduceAdd, Nat.reduceMul, Nat.reduceSub, Nat.reduceLT, Nat.reduceLeDiff, Nat.reduceEqDiff, Nat.reduceBEq, Nat.reducePow]; rfl) (WpOps.nil ⟨Marks.nil _, ?_⟩)
  simp only [Vthen, VinBlock, if_true, if_false, Nat.reduceEqDiff, reduceCtorEq]
  refine WpV.ret ⟨Marks.nil _, List.nodup_nil, _, by simp only [Tryz.results23]; simp only [go_sem, reduceCtorEq, Nat.reduceAdd, Nat.reduceMul, Nat.reduceSub, Nat.reduceLT, Nat.reduceLeDiff, Nat.reduceEqDiff, Nat.reduceBEq, Nat.reducePow]; rfl, ?_⟩
  exact ⟨rfl, rfl⟩
theorem but2 (nl clip : Bool) (out : List Int) (hl : out.length < 1000000) (j : Nat) (hj : j < out.length) (H : Hp) (k : Nat) :
    CallV Tryz.prog 25 [vint k, .cp [vints nl clip out] 0, .cp [vint j] 0] H (fun r H' => r = .bool (contB out (k : Int) && ((k : Int) != out.getD j 0)) ∧ H' = H) := by
  have h := has_any H nl clip out hl (k : Int)
  rw [any_cont] at h
  have hlt : (j : Int) < (out.length : Int) := by omega
  have hg := int_at' (L := out) hj
  refine CallV.body Tryz.func25 rfl Tryz.ntmps25 (by rfl) ?_
  refine WpV.seq (WpV.regionE (by simp only [go_sem, reduceCtorEq, Nat.reduceAdd, Nat.reduceMul, Nat.reduceSub, Nat.reduceLT, Nat.reduceLeDiff, Nat.reduceEqDiff, Nat.reduceBEq, Nat.reducePow]; rfl) (Marks.nil _) ?_)
  simp only [Vthen, VinBlock, if_true, if_false, Nat.reduceEqDiff, reduceCtorEq]
  cases hc : contB out (k : Int)
  · rw [hc] at h
    refine WpV.seq (WpV.region ?_)
    refine WpOps.take 2 (by simp only [go_sem, reduceCtorEq, Nat.reduceAdd, Nat.reduceMul, Nat.reduceSub, Nat.reduceLT, Nat.reduceLeDiff, Nat.reduceEqDiff, Nat.reduceBEq, Nat.reducePow]; rfl) ?_
    refine WpOps.step (by rfl) (by rfl) (OpW.callY rfl (by rfl) (by rfl) (by rfl) (enters_of Tryz.func24 (by kernel_rfl) rfl) ((h).mono ?_))
    rintro _ _ ⟨rfl, hH⟩
    replace hH := hH.symm
    subst hH
    refine WpOps.take 8 (by simp only [go_sem, reduceCtorEq, Nat.reduceAdd, Nat.reduceMul, Nat.reduceSub, Nat.reduceLT, Nat.reduceLeDiff, Nat.reduceEqDiff, Nat.reduceBEq, Nat.reducePow]; rfl) ?_
    refine WpOps.take 1 (by simp only [go_sem, reduceCtorEq, Nat.reduceAdd, Nat.reduceMul, Nat.reduceSub, Nat.reduceLT, Nat.reduceLeDiff, Nat.reduceEqDiff, Nat.reduceBEq, Nat.reducePow]; rfl) (WpOps.nil ⟨Marks.nil _, ?_⟩)
    simp only [Vthen, VinBlock, if_true, if_false, Nat.reduceEqDiff, reduceCtorEq]
    refine WpV.ret ⟨Marks.nil _, List.nodup_nil, _, by simp only [Tryz.results25]; simp only [go_sem, reduceCtorEq, Nat.reduceAdd, Nat.reduceMul, Nat.reduceSub, Nat.reduceLT, Nat.reduceLeDiff, Nat.reduceEqDiff, Nat.reduceBEq, Nat.reducePow]; rfl, ?_⟩
    exact ⟨rfl, rfl⟩
  · rw [hc] at h
    refine WpV.seq (WpV.region ?_)
    refine WpOps.take 2 (by simp only [go_sem, reduceCtorEq, Nat.reduceAdd, Nat.reduceMul, Nat.reduceSub, Nat.reduceLT, Nat.reduceLeDiff, Nat.reduceEqDiff, Nat.reduceBEq, Nat.reducePow, hlt, hg]; rfl) ?_
    refine WpOps.step (by rfl) (by rfl) (OpW.callY rfl (by rfl) (by rfl) (by rfl) (enters_of Tryz.func24 (by kernel_rfl) rfl) ((h).mono ?_))
    rintro _ _ ⟨rfl, hH⟩
    replace hH := hH.symm
    subst hH
    refine WpOps.take 8 (by simp only [go_sem, reduceCtorEq, Nat.reduceAdd, Nat.reduceMul, Nat.reduceSub, Nat.reduceLT, Nat.reduceLeDiff, Nat.reduceEqDiff, Nat.reduceBEq, Nat.reducePow, hlt, hg]; rfl) ?_
    refine WpOps.take 1 (by simp only [go_sem, reduceCtorEq, Nat.reduceAdd, Nat.reduceMul, Nat.reduceSub, Nat.reduceLT, Nat.reduceLeDiff, Nat.reduceEqDiff, Nat.reduceBEq, Nat.reducePow, hlt, hg]; rfl) (WpOps.nil ⟨Marks.nil _, ?_⟩)
    simp only [Vthen, VinBlock, if_true, if_false, Nat.reduceEqDiff, reduceCtorEq]
    refine WpV.ret ⟨Marks.nil _, List.nodup_nil, _, by simp only [Tryz.results25]; simp only [go_sem, reduceCtorEq, Nat.reduceAdd, Nat.reduceMul, Nat.reduceSub, Nat.reduceLT, Nat.reduceLeDiff, Nat.reduceEqDiff, Nat.reduceBEq, Nat.reducePow]; rfl, ?_⟩
    exact ⟨rfl, rfl⟩
theorem but3 (nl clip nl2 clip2 : Bool) (w out : List Int) (hw : 0 < w.length ∧ w.length ≤ 1000) (hl : out.length ≤ 1000) (from' : Nat) (hf : from' < w.length) (H : Hp) (k : Nat) (hk : k < w.length) :
    CallV Tryz.prog 26 [vint k, .cp [vint from'] 0, .cp [vints nl clip w] 0, .cp [vints nl2 clip2 out] 0] H (fun r H' => r = .bool (decide ((((k + w.length - from') % w.length : Nat) : Int) < (out.length : Int) - 1)) ∧ H' = H) := by
  have h1 : IntKind.i64.wrap ((k : Int) - (from' : Int)) = (k : Int) - from' := wrap64 (by omega)
  have h2 : IntKind.i64.wrap ((k : Int) - (from' : Int) + (w.length : Int)) = ((k + w.length - from' : Nat) : Int) := by rw [wrap64 (by omega)]; omega
  have h3 : (((k + w.length - from' : Nat) : Int)).tmod (w.length : Int) = (((k + w.length - from') % w.length : Nat) : Int) := by rw [Int.tmod_eq_emod_of_nonneg (by omega)]; rfl
  have h4 : IntKind.i64.wrap ((out.length : Int) - 1) = (out.length : Int) - 1 := wrap64 (by omega)
  have h5 : ¬ ((w.length : Int) = 0) := by omega
  generalize (k + w.length - from') % w.length = m1 at *
  generalize k + w.length - from' = m2 at *
  refine CallV.body Tryz.func26 rfl Tryz.ntmps26 (by rfl) ?_
  refine WpV.seq (WpV.regionE (by simp only [go_sem, reduceCtorEq, Nat.reduceAdd, Nat.reduceMul, Nat.reduceSub, Nat.reduceLT, Nat.reduceLeDiff, Nat.reduceEqDiff, Nat.reduceBEq, Nat.reducePow]; rfl) (Marks.nil _) ?_)
  simp only [Vthen, VinBlock, if_true, if_false, Nat.reduceEqDiff, reduceCtorEq]
  refine WpV.seq (WpV.regionD Tryz.mixed (by kernel_rfl) (by kernel_rfl) ?_)
  refine LexD.take 8 (by rfl) (by simp only [go_sem, reduceCtorEq, Nat.reduceAdd, Nat.reduceMul, Nat.reduceSub, Nat.reduceLT, Nat.reduceLeDiff, Nat.reduceEqDiff, Nat.reduceBEq, Nat.reducePow, h1, h2, h3, h4, h5]; rfl) ?_
  refine LexD.take 6 (by rfl) (by simp only [go_sem, reduceCtorEq, Nat.reduceAdd, Nat.reduceMul, Nat.reduceSub, Nat.reduceLT, Nat.reduceLeDiff, Nat.reduceEqDiff, Nat.reduceBEq, Nat.reducePow, h1, h2, h3, h4, h5]; rfl) (LexD.nilE ⟨Marks.nil _, ?_⟩)
  simp only [Vthen, VinBlock, if_true, if_false, Nat.reduceEqDiff, reduceCtorEq]
  refine WpV.ret ⟨Marks.nil _, List.nodup_nil, _, by simp only [Tryz.results26]; simp only [go_sem, reduceCtorEq, Nat.reduceAdd, Nat.reduceMul, Nat.reduceSub, Nat.reduceLT, Nat.reduceLeDiff, Nat.reduceEqDiff, Nat.reduceBEq, Nat.reducePow]; rfl, ?_⟩
  exact ⟨rfl, rfl⟩
end Go.Proofs.YtaekibilldjnmaaGreat
namespace Go.Proofs.YtaekibilldjnmaaGreat
open Go.Proofs

theorem rest_without (w b : List Int) (k : Nat) : restN w (fun i => contB b (i : Int)) k = withoutN w b k := rfl
theorem rest_congr {w : List Int} {q q' : Nat → Bool} {k : Nat} (h : ∀ i, i < k → q i = q' i) : restN w q k = restN w q' k := by
  unfold restN
  congr 1
  exact List.filter_congr fun i hi => by rw [h i (List.mem_range.1 hi)]
theorem filter_two {A : Type} (f : A → Bool) : ∀ l : List A, l.length = (l.filter f).length + (l.filter fun x => !f x).length
  | [] => rfl
  | x :: l => by
    have := filter_two f l
    cases h : f x <;> simp [h] <;> omega
theorem casts_nodup {l : List Nat} (h : l.Nodup) : (l.map fun (i : Nat) => (i : Int)).Nodup := by
  rw [List.nodup_iff_pairwise_ne, List.pairwise_map]
  exact (List.nodup_iff_pairwise_ne.1 h).imp fun h e => h (by omega)
theorem drops_le (b : List Int) (n : Nat) (f : Nat → Bool) (hf : ∀ i, i < n → f i = true → (i : Int) ∈ b) : ((List.range n).filter f).length ≤ b.length := by
  have h := nodup_len (((List.range n).filter f).map fun (i : Nat) => (i : Int)) b ?_ ?_
  · simpa using h
  · exact casts_nodup (List.Nodup.sublist List.filter_sublist List.nodup_range)
  · intro x hx
    obtain ⟨i, hi, rfl⟩ := List.mem_map.1 hx
    obtain ⟨h1, h2⟩ := List.mem_filter.1 hi
    exact hf i (List.mem_range.1 h1) h2
theorem without_len_ge (w b : List Int) : w.length ≤ (withoutF w b).length + b.length := by
  have h1 := filter_two (fun i : Nat => contB b (i : Int)) (List.range w.length)
  rw [List.length_range] at h1
  have h2 := drops_le b w.length (fun i => contB b (i : Int)) (fun i _ h => contB_iff.1 h)
  have h3 : (withoutF w b).length = ((List.range w.length).filter fun (i : Nat) => !contB b (i : Int)).length := by unfold withoutF withoutN; rw [List.length_map]
  omega
theorem without_len_le {w b : List Int} (hb : b.Sublist (numsF 0 w.length)) : (withoutF w b).length + b.length ≤ w.length := by
  have h1 := filter_two (fun i : Nat => contB b (i : Int)) (List.range w.length)
  rw [List.length_range] at h1
  have h2 : b.length ≤ ((List.range w.length).filter fun (i : Nat) => contB b (i : Int)).length := by
    have h := nodup_len b (((List.range w.length).filter fun (i : Nat) => contB b (i : Int)).map fun (i : Nat) => (i : Int)) (up_nodup ((nums_up _).sublist hb)) fun x hx => by
      have hm := nums_mem.1 (hb.subset hx)
      exact List.mem_map.2 ⟨x.toNat, List.mem_filter.2 ⟨List.mem_range.2 (by omega), contB_iff.2 (by rw [show ((x.toNat : Nat) : Int) = x by omega]; exact hx)⟩, by omega⟩
    simpa using h
  have h3 : (withoutF w b).length = ((List.range w.length).filter fun (i : Nat) => !contB b (i : Int)).length := by unfold withoutF withoutN; rw [List.length_map]
  omega
theorem without_word {c : Cs} {w b : List Int} (hw : c.Word w) (h : 0 < (withoutF w b).length) : c.Word (withoutF w b) :=
  ⟨h, Nat.le_trans (withoutN_len w b w.length) hw.2.1, fun x hx => hw.2.2 x (withoutF_mem hx)⟩
/-- What is left out is the least. -/
theorem left_some {c : Cs} {w b : List Int} {n : Int} (hw : c.Word w) (h : fewestF w (c.leftP n) = some b) :
    b.Sublist (numsF 0 w.length) ∧ b.length < w.length ∧ c.Word (withoutF w b) ∧ c.needF [withoutF w b] ≤ n ∧ ∀ b' : List Int, b'.Sublist (numsF 0 w.length) → b'.length < b.length → c.Word (withoutF w b') ∧ n < c.needF [withoutF w b'] := by
  have hex : ∃ b0 : List Int, b0.Sublist (numsF 0 w.length) ∧ c.leftP n (withoutF w b0) = true := by
    unfold fewestF at h
    obtain ⟨s, _, hs⟩ := List.exists_of_findSome?_eq_some h
    have h1 := List.find?_some hs
    have h2 := List.mem_of_find?_eq_some hs
    exact ⟨b, (sets_iff.1 h2).1, h1⟩
  obtain ⟨b2, e, h1, h2, h3⟩ := fewest_spec w (c.leftP n) hex
  rw [h] at e
  cases e
  unfold Cs.leftP at h2
  rw [Bool.and_eq_true, decide_eq_true_eq, decide_eq_true_eq] at h2
  have hl := without_len_le h1
  refine ⟨h1, by omega, without_word hw (by omega), h2.2, fun b' hb' hlt => ?_⟩
  have h4 := h3 b' hb' hlt
  have h5 := without_len_ge w b'
  have h6 : 0 < (withoutF w b').length := by omega
  unfold Cs.leftP at h4
  rw [decide_eq_true (by omega), Bool.true_and, decide_eq_false_iff_not] at h4
  exact ⟨without_word hw h6, by omega⟩
/-- Where nothing goes, no letter goes. -/
theorem left_none {c : Cs} {w : List Int} {n : Int} (h : fewestF w (c.leftP n) = none) (i : Nat) (hi : i < w.length) : n < c.needF [[w.getD i 0]] := by
  by_cases hc : n < c.needF [[w.getD i 0]]
  · exact hc
  exfalso
  have hwo : withoutF w ((numsF 0 w.length).filter fun x => x != (i : Int)) = [w.getD i 0] := by
    unfold withoutF withoutN
    have : ((List.range w.length).filter fun (j : Nat) => !contB ((numsF 0 w.length).filter fun x => x != (i : Int)) (j : Int)) = (List.range w.length).filter fun j => j == i := by
      refine List.filter_congr fun j hj => ?_
      rw [List.mem_range] at hj
      by_cases e : j = i
      · subst e
        have : contB ((numsF 0 w.length).filter fun x => x != (j : Int)) (j : Int) = false := by
          rw [Bool.eq_false_iff]; intro hh
          have := (List.mem_filter.1 (contB_iff.1 hh)).2
          simp at this
        rw [this]; simp
      · have : contB ((numsF 0 w.length).filter fun x => x != (i : Int)) (j : Int) = true :=
          contB_iff.2 (List.mem_filter.2 ⟨nums_mem.2 (by omega), by simp; omega⟩)
        rw [this]; simp [e]
    rw [this]
    have h2 : (List.range w.length).filter (fun j => j == i) = [i] := by
      have hn : (List.range w.length).Nodup := List.nodup_range
      rw [List.filter_beq, hn.count, if_pos (List.mem_range.2 hi)]; rfl
    rw [h2]; rfl
  obtain ⟨b, e, -⟩ := fewest_spec w (c.leftP n) ⟨_, List.filter_sublist, by
    rw [hwo]; unfold Cs.leftP
    rw [decide_eq_true (by simp), Bool.true_and, decide_eq_true_eq]; omega⟩
  rw [h] at e; cases e
/-- Others, as many less one, do not do. -/
theorem left_other {c : Cs} {w b : List Int} {n : Int} (hw : c.Word w) (h : fewestF w (c.leftP n) = some b) (from' : Nat) (hf : from' < w.length) (h0 : 0 < b.length) (q : Nat → Bool)
    (hq : ∀ i, i < w.length → q i = decide ((((i + w.length - from') % w.length : Nat) : Int) < (b.length : Int) - 1)) : c.Word (restN w q w.length) ∧ n < c.needF [restN w q w.length] := by
  obtain ⟨-, hbl, -, -, hmin⟩ := left_some hw h
  have e : restN w q w.length = withoutF w ((numsF 0 w.length).filter fun x => q x.toNat) := by
    rw [withoutF, ← rest_without]
    refine rest_congr fun i hi => ?_
    cases hqi : q i
    · rw [eq_comm, Bool.eq_false_iff]; intro hh
      have := (List.mem_filter.1 (contB_iff.1 hh)).2
      rw [Int.toNat_natCast, hqi] at this; cases this
    · rw [eq_comm]
      exact contB_iff.2 (List.mem_filter.2 ⟨nums_mem.2 (by omega), by rw [Int.toNat_natCast]; exact hqi⟩)
  rw [e]
  refine hmin _ List.filter_sublist ?_
  have hl := nodup_len (((numsF 0 w.length).filter fun x => q x.toNat).map fun x => (x + w.length - from') % (w.length : Int)) (numsF 0 (b.length - 1)) ?_ ?_
  · rw [List.length_map, numsF_len] at hl; omega
  · rw [List.nodup_iff_pairwise_ne, List.pairwise_map]
    refine List.Pairwise.imp_of_mem (R := fun x y => x < y) (fun {x y} hx hy hlt => ?_) ((nums_up w.length).sublist List.filter_sublist)
    have hx1 := nums_mem.1 (List.mem_filter.1 hx).1
    have hy1 := nums_mem.1 (List.mem_filter.1 hy).1
    intro he
    have h1 := Int.emod_add_mul_ediv (x + w.length - from') w.length
    have h2 := Int.emod_add_mul_ediv (y + w.length - from') w.length
    have hd : (w.length : Int) * ((y + w.length - from') / (w.length : Int) - (x + w.length - from') / (w.length : Int)) = y - x := by rw [Int.mul_sub]; omega
    generalize (y + w.length - from') / (w.length : Int) - (x + w.length - from') / (w.length : Int) = z at hd
    rcases Int.lt_or_le z 1 with hz | hz
    · have : (w.length : Int) * z ≤ 0 := Int.mul_nonpos_of_nonneg_of_nonpos (by omega) (by omega)
      omega
    · have : (w.length : Int) * 1 ≤ (w.length : Int) * z := Int.mul_le_mul_of_nonneg_left hz (by omega)
      omega
  · intro x hx
    obtain ⟨y, hy, rfl⟩ := List.mem_map.1 hx
    obtain ⟨h1, h2⟩ := List.mem_filter.1 hy
    have hm := nums_mem.1 h1
    rw [hq _ (by omega), decide_eq_true_eq] at h2
    rw [nums_mem]
    have e2 : (y + w.length - from') % (w.length : Int) = (((y.toNat + w.length - from') % w.length : Nat) : Int) := by
      rw [Int.natCast_emod]; congr 1; omega
    rw [e2]; omega
end Go.Proofs.YtaekibilldjnmaaGreat
namespace Go.Proofs.YtaekibilldjnmaaGreat
open Go.Proofs

def ownG (H : Hp) (i1 : Nat) (c : Cs) (ids : Nat → Nat) (b : Nat → Bool) : Hp :=
  (if b 2 = true then H.set (ids 2) (some (.cells 3 0 (c.ws.map vint))) else H).set i1 (some (.cells 32 0 [if (b 8 && b 2) = true then .rs (ids 2) 0 1 0 c.ws.length false else vints c.wn c.wc c.ws, if b 10 = true then .sl c.own.pn c.own.pc c.ps.length (c.ps.flatMap pairC) else .sl c.pn c.pc c.ps.length (c.ps.flatMap pairC), vint c.rim, vint c.least, vint c.blank]))
def isnG (j : Nat) : Bool := j == 2
/-- The cells of a case whose widths lie in an object. -/
def Cs.cellsG (c : Cs) (idw : Nat) : List AV := [.rs idw 0 1 0 c.ws.length false, .sl c.own.pn c.own.pc c.ps.length (c.ps.flatMap pairC), vint c.rim, vint c.least, vint c.blank]

set_option maxHeartbeats 4000000 in
theorem own_own (H : Hp) (c : Cs) (hc : c.Ok) (h0 : 0 < c.ws.length) : CallV Tryz.prog 11 [.agg c.cells] H (fun r H' => ∃ idw, H idw = none ∧ r = .agg (c.cellsG idw) ∧ H' = H.set idw (some (.cells 3 0 (c.ws.map vint)))) := by
  have hws := hc.ws
  have hps := hc.ps
  refine CallV.body Tryz.func11 rfl Tryz.ntmps11 (by rfl) ?_
  refine WpV.seq (WpV.region ?_)
  refine WpOps.step (by rfl) (by rfl) (OpW.box rfl rfl rfl (fun i1 f1 => ?_))
  refine WpOps.step (by rfl) (by rfl) (OpW.alloc rfl (Tryz.ze32) (fun i2 f2 => ?_))
  refine WpOps.nil ⟨Marks.nil _, ?_⟩
  simp only [Vthen, VinBlock, if_true, if_false, Nat.reduceEqDiff, reduceCtorEq]
  obtain ⟨n21, f2'⟩ := fresh_ne f2
  rw [Hp.set_comm _ _ _ n21.symm]
  have g1 : (H.set i2 (some (.cells 32 0 [.sl true true 0 [], .sl true true 0 [], vint 0, vint 0, vint 0]))) i1 = none := by rw [Hp.set_ne _ _ n21.symm]; exact f1
  generalize hB : H.set i2 _ = B at g1 ⊢
  have hB' : B = B := rfl
  refine WpV.seq (WpV.regionB Tryz.mixed (by kernel_rfl) (by kernel_rfl) isnG (ownG B i1 c) (fun ids => ?_) (fun ids ids' b h => ?_) (fun ids b j hj hb => ?_) (fun ids b id hf h => ?_) ?_)
  · simp [ownG]
  · unfold ownG
    cases e2 : b 2
    · simp
    · rw [h 2 rfl e2]
  · have : j = 2 := by simpa [isnG] using hj
    subst this
    unfold ownG
    rw [if_pos hb]
    by_cases e : ids 2 = i1
    · rw [e, Hp.set_eq]; simp
    · rw [Hp.set_ne _ _ e, Hp.set_eq]; simp
  · unfold ownG at h
    by_cases e : id = i1
    · subst e; rw [Hp.set_eq] at h; cases h
    · rw [Hp.set_ne _ _ e] at h ⊢
      cases e2 : b 2
      · rw [e2] at h; exact h
      · rw [e2, if_pos rfl] at h
        by_cases e3 : id = ids 2
        · subst e3; rw [Hp.set_eq] at h; cases h
        · rw [Hp.set_ne _ _ e3] at h; exact h
  refine LexB.pure (by rfl) (by rfl) (fun _ => rfl) (fun ids b _ => by simp [ownG, upd]) (fun ids b g => OpW.evX (by simp only [go_sem, reduceCtorEq, Nat.reduceAdd, Nat.reduceMul, Nat.reduceSub, Nat.reduceLT, Nat.reduceLeDiff, Nat.reduceEqDiff, Nat.reduceBEq, Nat.reducePow, ownG]; rfl)) ?_
  refine LexB.pure (by rfl) (by rfl) (fun _ => rfl) (fun ids b _ => by simp [ownG, upd]) (fun ids b g => OpW.evX (by have e8 := g.wait 8 _ rfl (by decide); simp only [go_sem, reduceCtorEq, Nat.reduceAdd, Nat.reduceMul, Nat.reduceSub, Nat.reduceLT, Nat.reduceLeDiff, Nat.reduceEqDiff, Nat.reduceBEq, Nat.reducePow, ownG, e8, Bool.false_and, Bool.false_eq_true]; rfl)) ?_
  refine LexB.new (fun id => .rs id 0 1 0 c.ws.length false) (.cells 3 0 (c.ws.map vint)) rfl (by rfl) (by rfl) (fun _ => rfl) (fun ids b _ => OpW.callY rfl (by rfl) (by rfl) (by rfl) (enters_of Tryz.func12 (by kernel_rfl) rfl) ((ints_own _ c.wn c.wc c.ws hws h0).mono (fun r H' h => ?_))) (fun ids b g hn => ?_) ?_
  · obtain ⟨id, h1, h2, h3⟩ := h; exact ⟨id, h1, h2, h3⟩
  · have e2 := g.not
    have e8 := g.wait 8 _ rfl (by decide)
    have hne : ids 2 ≠ i1 := fun e => by unfold ownG at hn; rw [e, Hp.set_eq] at hn; cases hn
    unfold ownG
    simp only [upd, e2, e8]
    simp only [Nat.reduceEqDiff, if_true, if_false, e8, Bool.false_and, Bool.false_eq_true]
    rw [Hp.set_comm _ _ _ hne]
  refine LexB.pure (by rfl) (by rfl) (fun _ => rfl) (fun ids b _ => by simp [ownG, upd]) (fun ids b g => OpW.evX (by simp only [go_sem, reduceCtorEq, Nat.reduceAdd, Nat.reduceMul, Nat.reduceSub, Nat.reduceLT, Nat.reduceLeDiff, Nat.reduceEqDiff, Nat.reduceBEq, Nat.reducePow, ownG]; rfl)) ?_
  refine LexB.pure (by rfl) (by rfl) (fun _ => rfl) (fun ids b _ => by simp [ownG, upd]) (fun ids b g => OpW.evX (by simp only [go_sem, reduceCtorEq, Nat.reduceAdd, Nat.reduceMul, Nat.reduceSub, Nat.reduceLT, Nat.reduceLeDiff, Nat.reduceEqDiff, Nat.reduceBEq, Nat.reducePow, ownG]; rfl)) ?_
  refine LexB.pure (by rfl) (by rfl) (fun _ => rfl) (fun ids b _ => by simp [ownG, upd]) (fun ids b g => OpW.evX (by have e10 := g.wait 10 _ rfl (by decide); simp only [go_sem, reduceCtorEq, Nat.reduceAdd, Nat.reduceMul, Nat.reduceSub, Nat.reduceLT, Nat.reduceLeDiff, Nat.reduceEqDiff, Nat.reduceBEq, Nat.reducePow, ownG, e10, Bool.false_eq_true]; rfl)) ?_
  refine LexB.pure (x := .sl false (decide (c.ps.length = 0)) c.ps.length (c.ps.flatMap pairC)) (by rfl) (by rfl) (fun _ => rfl) (fun ids b _ => by simp [ownG, upd]) (fun ids b g => ?_) ?_
  · by_cases h0 : c.ps.length = 0
    · have hx : c.ps = [] := List.length_eq_zero_iff.1 h0
      rw [hx]
      exact OpW.append0 (nl := false) (len := 0) (cells := []) rfl (by rfl) (by simp only [go_sem, reduceCtorEq, Nat.reduceAdd, Nat.reduceMul, Nat.reduceSub, Nat.reduceLT, Nat.reduceLeDiff, Nat.reduceEqDiff, Nat.reduceBEq, Nat.reducePow]; rfl) (by rfl) (Tryz.el30 (by omega)) Tryz.underlying30 ⟨rfl, rfl⟩
    · rw [decide_eq_false h0]
      refine OpW.frzS (e := 74) (s := 3) ?_ (pairs_len _)
      refine OpW.append (nl := false) (len := 0) (cells := []) (m := c.ps.length) (ys := c.ps.flatMap pairC) rfl (by rfl) (by simp only [go_sem, reduceCtorEq, Nat.reduceAdd, Nat.reduceMul, Nat.reduceSub, Nat.reduceLT, Nat.reduceLeDiff, Nat.reduceEqDiff, Nat.reduceBEq, Nat.reducePow]; rfl) (by simp only [viewS]) (Tryz.el30 (by omega)) Tryz.underlying30 (by simp) (pairs_len _) (all_one_pairs _) (by omega) (fun id hid => ⟨id, 0, hid, by rw [Nat.zero_add], by rw [List.nil_append]⟩)
  refine LexB.pure (by rfl) (by rfl) (fun _ => rfl) (fun ids b _ => by simp [ownG, upd]) (fun ids b g => OpW.evX (by simp only [go_sem, reduceCtorEq, Nat.reduceAdd, Nat.reduceMul, Nat.reduceSub, Nat.reduceLT, Nat.reduceLeDiff, Nat.reduceEqDiff, Nat.reduceBEq, Nat.reducePow, ownG]; rfl)) ?_
  refine LexB.eff (x := .any) (by rfl) (by rfl) (fun _ => rfl) (fun ids b g => ?_) ?_
  · have e8 : b 8 = false := g.not
    have e2 := g.done 2 (by decide)
    refine OpW.store (ty := 32) (id := i1) (ver := 0) (off := 0) rfl (by simp only [go_sem, reduceCtorEq, Nat.reduceAdd, Nat.reduceMul, Nat.reduceSub, Nat.reduceLT, Nat.reduceLeDiff, Nat.reduceEqDiff, Nat.reduceBEq, Nat.reducePow]; try rfl) (by simp only [go_sem, reduceCtorEq, Nat.reduceAdd, Nat.reduceMul, Nat.reduceSub, Nat.reduceLT, Nat.reduceLeDiff, Nat.reduceEqDiff, Nat.reduceBEq, Nat.reducePow]; try rfl) (Hp.set_eq _ _ _) (by simp only [go_sem, reduceCtorEq, Nat.reduceAdd, Nat.reduceMul, Nat.reduceSub, Nat.reduceLT, Nat.reduceLeDiff, Nat.reduceEqDiff, Nat.reduceBEq, Nat.reducePow]; try rfl) (by exact Tryz.sz29) (by simp) ⟨rfl, ?_⟩
    unfold ownG
    rw [Hp.set_set]
    simp [upd, e8, e2, putC, Cs.own]
  refine LexB.pure (by rfl) (by rfl) (fun _ => rfl) (fun ids b _ => by simp [ownG, upd]) (fun ids b g => OpW.evX (by simp only [go_sem, reduceCtorEq, Nat.reduceAdd, Nat.reduceMul, Nat.reduceSub, Nat.reduceLT, Nat.reduceLeDiff, Nat.reduceEqDiff, Nat.reduceBEq, Nat.reducePow, ownG]; rfl)) ?_
  refine LexB.eff (x := .any) (by rfl) (by rfl) (fun _ => rfl) (fun ids b g => ?_) ?_
  · have e10 : b 10 = false := g.not
    refine OpW.store (ty := 32) (id := i1) (ver := 0) (off := 1) rfl (by simp only [go_sem, reduceCtorEq, Nat.reduceAdd, Nat.reduceMul, Nat.reduceSub, Nat.reduceLT, Nat.reduceLeDiff, Nat.reduceEqDiff, Nat.reduceBEq, Nat.reducePow]; try rfl) (by simp only [go_sem, reduceCtorEq, Nat.reduceAdd, Nat.reduceMul, Nat.reduceSub, Nat.reduceLT, Nat.reduceLeDiff, Nat.reduceEqDiff, Nat.reduceBEq, Nat.reducePow]; try rfl) (Hp.set_eq _ _ _) (by simp only [go_sem, reduceCtorEq, Nat.reduceAdd, Nat.reduceMul, Nat.reduceSub, Nat.reduceLT, Nat.reduceLeDiff, Nat.reduceEqDiff, Nat.reduceBEq, Nat.reducePow]; try rfl) (by exact Tryz.sz30) (by simp) ⟨rfl, ?_⟩
    unfold ownG
    rw [Hp.set_set]
    simp [upd, e10, putC, Cs.own]
  intro ids hf _
  simp only [ownG, List.length_cons, List.length_nil, Nat.reduceAdd, Nat.reduceLT, decide_true, if_true, Bool.and_self]
  have hfw := hf 2
  generalize ids 2 = iw at hfw ⊢
  have n1 : iw ≠ i1 := fun e => by rw [e, Hp.set_eq] at hfw; cases hfw
  rw [Hp.set_ne _ _ n1] at hfw
  have n2 : iw ≠ i2 := fun e => by rw [e, ← hB, Hp.set_eq] at hfw; cases hfw
  have hwn : H iw = none := by rw [← hB, Hp.set_ne _ _ n2] at hfw; exact hfw
  refine ⟨Marks.nil _, ?_⟩
  have o2 : ((B.set iw (some (.cells 3 0 (c.ws.map vint)))).set i1 (some (.cells 32 0 (c.cellsG iw)))) i2 = some (.cells 32 0 [.sl true true 0 [], .sl true true 0 [], vint 0, vint 0, vint 0]) := by
    rw [Hp.set_ne _ _ n21, Hp.set_ne _ _ n2.symm, ← hB]; exact Hp.set_eq _ _ _
  show Vthen _ _ _ _ _ ((B.set iw (some (.cells 3 0 (c.ws.map vint)))).set i1 (some (.cells 32 0 (c.cellsG iw))))
  simp only [Vthen, VinBlock, if_true, if_false, Nat.reduceEqDiff, reduceCtorEq]
  refine WpV.seq (WpV.region ?_)
  refine WpOps.take 1 (by simp only [go_sem, reduceCtorEq, Nat.reduceAdd, Nat.reduceMul, Nat.reduceSub, Nat.reduceLT, Nat.reduceLeDiff, Nat.reduceEqDiff, Nat.reduceBEq, Nat.reducePow]; rfl) ?_
  refine WpOps.step (by rfl) (by rfl) (OpW.store (ty := 32) (id := i2) (ver := 0) (off := 0) rfl (by simp only [go_sem, reduceCtorEq, Nat.reduceAdd, Nat.reduceMul, Nat.reduceSub, Nat.reduceLT, Nat.reduceLeDiff, Nat.reduceEqDiff, Nat.reduceBEq, Nat.reducePow]; try rfl) (by simp only [go_sem, reduceCtorEq, Nat.reduceAdd, Nat.reduceMul, Nat.reduceSub, Nat.reduceLT, Nat.reduceLeDiff, Nat.reduceEqDiff, Nat.reduceBEq, Nat.reducePow]; try rfl) o2 (by simp only [go_sem, reduceCtorEq, Nat.reduceAdd, Nat.reduceMul, Nat.reduceSub, Nat.reduceLT, Nat.reduceLeDiff, Nat.reduceEqDiff, Nat.reduceBEq, Nat.reducePow]; try rfl) (by exact Tryz.sz32) (by simp [Cs.cellsG]) ?_)
  refine WpOps.nil ⟨Marks.nil _, ?_⟩
  simp only [Vthen, VinBlock, if_true, if_false, Nat.reduceEqDiff, reduceCtorEq]
  refine WpV.pre (Frz.ptr (t := 2) (id := i2) (ver := 0) (off := 0) rfl (Hp.set_eq _ _ _)) (Marks.nil _) ?_
  refine WpV.pre (Frz.drop _ _ i1) (Marks.nil _) ?_
  refine WpV.ret ⟨Marks.nil _, List.nodup_nil, _, by simp only [Tryz.results11]; simp only [go_sem, reduceCtorEq, Nat.reduceAdd, Nat.reduceMul, Nat.reduceSub, Nat.reduceLT, Nat.reduceLeDiff, Nat.reduceEqDiff, Nat.reduceBEq, Nat.reducePow]; rfl, ?_⟩
  refine ⟨iw, hwn, rfl, ?_⟩
  rw [← hB]
  funext j
  simp only [killA, Hp.set]
  by_cases e1 : j = i1
  · subst e1; simp [f1, n1.symm]
  · by_cases e2 : j = i2
    · subst e2; simp [e1, f2', n2.symm]
    · simp [e1, e2]
end Go.Proofs.YtaekibilldjnmaaGreat
namespace Go.Proofs.YtaekibilldjnmaaGreat
open Go.Proofs

def Cs.plus (c : Cs) (y : Int) : Cs := { c.own with wn := false, wc := false, ws := c.ws ++ [y] }
theorem plus_valid {c : Cs} (hc : c.Valid) (h6 : c.ws.length = 6) {y : Int} (hy : 1 ≤ y ∧ y ≤ 30) : (c.plus y).Valid := by
  have hb := Cs.base_iff.1 hc.base
  refine ⟨Cs.base_iff.2 ⟨by simp [Cs.plus], by simp [Cs.plus]; omega, fun x hx => ?_, hb.rim, hb.least, hb.blank⟩, hc.few, ?_, hc.nodup⟩
  · rcases List.mem_append.1 hx with h | h
    · exact hb.ws x h
    · have : x = y := by simpa using h
      omega
  · rw [List.all_eq_true]
    intro p hp
    have hv := hc.pair hp
    have hl : ((c.plus y).ws.length : Int) = c.ws.length + 1 := by simp [Cs.plus]
    unfold Cs.pairOk Cs.letters
    rw [Bool.and_eq_true, insB_iff, insB_iff]
    refine ⟨fun x hx => ?_, fun x hx => ?_⟩
    · simp only [List.mem_cons, List.not_mem_nil, or_false] at hx
      rcases hx with rfl | rfl <;> omega
    · simp only [List.mem_singleton] at hx
      subst hx; exact hv.2.2
theorem plus_word {c : Cs} {w : List Int} (hw : c.Word w) (k : Nat) (y : Int) : (c.plus y).Word (w.set k (c.ws.length : Int)) := by
  refine ⟨by simpa using hw.1, by simpa using hw.2.1, fun x hx => ?_⟩
  have hl : ((c.plus y).ws.length : Int) = c.ws.length + 1 := by simp [Cs.plus]
  rw [hl]
  rcases List.mem_or_eq_of_mem_set hx with h | rfl
  · have := hw.2.2 x h; omega
  · omega
theorem plus_width (c : Cs) (y : Int) : ∀ (w : List Int) (k : Nat), k < w.length → c.Letters w → ((w.set k (c.ws.length : Int)).map (c.plus y).widthOf).sum = ((w.set k (c.ws.length : Int)).map c.wider.widthOf).sum + y
  | [], _, h, _ => by simp at h
  | x :: w, 0, _, hl => by
    have e : ∀ z ∈ w, (c.plus y).widthOf z = c.wider.widthOf z := fun z hz => by
      have := hl z (by simp [hz])
      have hz' : z.toNat < c.ws.length := by omega
      simp [Cs.widthOf, Cs.plus, Cs.wider, List.getD_eq_getElem?_getD, List.getElem?_append_left hz']
    have e2 : w.map (c.plus y).widthOf = w.map c.wider.widthOf := List.map_congr_left e
    have h1 : (c.plus y).widthOf (c.ws.length : Int) = y := by simp [Cs.widthOf, Cs.plus, List.getD_eq_getElem?_getD]
    have h2 : c.wider.widthOf (c.ws.length : Int) = 0 := by simp [Cs.widthOf, Cs.wider, List.getD_eq_getElem?_getD]
    rw [List.set_cons_zero, List.map_cons, List.map_cons, List.sum_cons, List.sum_cons, e2, h1, h2]; omega
  | x :: w, k + 1, h, hl => by
    have ih := plus_width c y w k (by simpa using h) (fun z hz => hl z (by simp [hz]))
    have := hl x (by simp)
    have hz' : x.toNat < c.ws.length := by omega
    have e : (c.plus y).widthOf x = c.wider.widthOf x := by
      simp [Cs.widthOf, Cs.plus, Cs.wider, List.getD_eq_getElem?_getD, List.getElem?_append_left hz']
    rw [List.set_cons_succ, List.map_cons, List.map_cons, List.sum_cons, List.sum_cons, ih, e]; omega
theorem plus_need (c : Cs) (y : Int) {w : List Int} {k : Nat} (hk : k < w.length) (hl : c.Letters w) : (c.plus y).needF [w.set k (c.ws.length : Int)] = c.wider.needF [w.set k (c.ws.length : Int)] + y := by
  rw [Cs.need_one, Cs.need_one]
  unfold Cs.need1 Cs.longF
  rw [plus_width c y w k hk hl]
  have : (c.plus y).closest (w.set k (c.ws.length : Int)) = c.wider.closest (w.set k (c.ws.length : Int)) := rfl
  rw [this, show (c.plus y).rim = c.wider.rim from rfl]; omega
/-- What 'Widest' answers. -/
theorem width_cases (x : Int) : ∃ mo f : Int, widthV x = .tup [vint mo, vint f] ∧ ((mo = 0 ∧ f = 8 ∧ x < 1) ∨ (mo = x ∧ f = 0 ∧ 1 ≤ x)) := by
  unfold widthV
  by_cases h : x < 1
  · exact ⟨0, 8, by rw [if_pos h], .inl ⟨rfl, rfl, h⟩⟩
  · exact ⟨x, 0, by rw [if_neg h], .inr ⟨rfl, rfl, by omega⟩⟩
end Go.Proofs.YtaekibilldjnmaaGreat
