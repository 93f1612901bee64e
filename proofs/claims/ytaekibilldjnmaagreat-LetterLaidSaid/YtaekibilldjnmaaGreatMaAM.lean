/- LetterLaid: for every case in bytes, every word in bytes and every two lists of bytes the function returns true, and what it was handed reads as it did. No conditions. -/
import Derived.Test.YtaekibilldjnmaaGreatMaAL
set_option linter.unusedVariables false
set_option linter.unusedSimpArgs false
set_option linter.unusedSectionVars false
namespace Go.Proofs.YtaekibilldjnmaaGreat
open Go.Proofs

theorem fmin_le : ∀ (ys : List Int) (a : Int), ys.foldl fmin a ≤ a ∧ ∀ y ∈ ys, ys.foldl fmin a ≤ y
  | [], a => ⟨Int.le_refl _, by simp⟩
  | y :: ys, a => by
    obtain ⟨h1, h2⟩ := fmin_le ys (fmin a y)
    have : fmin a y ≤ a ∧ fmin a y ≤ y := by unfold fmin; split <;> omega
    rw [List.foldl_cons]
    refine ⟨by omega, fun z hz => ?_⟩
    rcases List.mem_cons.1 hz with rfl | hz
    · omega
    · exact h2 z hz
theorem fmax_ge : ∀ (ys : List Int) (a : Int), a ≤ ys.foldl fmax a ∧ ∀ y ∈ ys, y ≤ ys.foldl fmax a
  | [], a => ⟨Int.le_refl _, by simp⟩
  | y :: ys, a => by
    obtain ⟨h1, h2⟩ := fmax_ge ys (fmax a y)
    have : a ≤ fmax a y ∧ y ≤ fmax a y := by unfold fmax; split <;> omega
    rw [List.foldl_cons]
    refine ⟨by omega, fun z hz => ?_⟩
    rcases List.mem_cons.1 hz with rfl | hz
    · omega
    · exact h2 z hz
theorem lo_hi : ∀ (xs : List Int) (x : Int), x ∈ xs → loF xs ≤ x ∧ x ≤ hiF xs
  | [], x, h => by simp at h
  | y :: ys, x, h => by
    have h1 := fmin_le ys y
    have h2 := fmax_ge ys y
    unfold loF hiF
    rcases List.mem_cons.1 h with rfl | h
    · exact ⟨h1.1, h2.1⟩
    · exact ⟨h1.2 x h, h2.2 x h⟩
theorem wide_alike (c : Cs) (w g : List Int) : Alike c w (c.wideF w g) g := fun i j hi hj => (wideN_spec (c.lookN w g) g.length g.length).2.1 i j hi hj
/-- What is to be known of laid gaps. -/
structure Best (c : Cs) (w : List Int) (room : Int) (g : List Int) (s : Nat) : Prop where
  fills : FillsB c w room g
  wide : c.wideF w g = s
  spread : spreadF (c.looksF w g) = s
  other : ∀ o, FillsB c w room o → (s : Int) ≤ c.wideF w o ∧ (c.wideF w o = s → lessF o g = false)
theorem lay_Best {c : Cs} (hc : c.Fair) {w : List Int} (hw : c.Word w) (h2 : 2 ≤ w.length) {n : Int} (hn : 1 ≤ n ∧ n ≤ 400) (hgo : c.needF [w] ≤ n) {g : List Int} {s : Nat} (h : c.layF w n = some (g, s)) : Best c w (c.roomF w n) g s := by
  obtain ⟨h1, h3, h4, h5⟩ := lay_best hc hw h2 hn hgo h
  have hw0 := wideN_spec (c.lookN w g) g.length g.length
  have hws : (s : Int) ≤ c.wideF w g := h4 g _ h1 (wide_alike c w g) hw0.1
  have hgl := h1.len
  have hxl : (c.looksF w g).length = w.length - 1 := Cs.looks_len hgl
  have hmem : ∀ i, i < g.length → g.getD i 0 + (c.mores w).getD i 0 ∈ c.looksF w g := fun i hi => by
    have := Cs.looks_at (c := c) hgl (k := i) (by omega)
    rw [Int.add_comm, ← this]
    exact getD_mem (by omega)
  refine ⟨h1, ?_, ?_, fun o ho => ⟨h4 o _ ho (wide_alike c w o) (wideN_spec (c.lookN w o) o.length o.length).1, fun e => ?_⟩⟩
  · rcases hw0.2.2 with e | ⟨i, j, hi, hj, e⟩
    · have e' : c.wideF w g = 0 := e
      omega
    · have := h3 i j hi hj
      have e' : c.wideF w g = c.lookN w g i - c.lookN w g j := e
      unfold Cs.lookN at e'
      omega
  · have h6 : (s : Int) ≤ spreadF (c.looksF w g) := by
      refine h4 g _ h1 (fun i j hi hj => ?_) ?_
      · have a := lo_hi _ _ (hmem i hi)
        have b := lo_hi _ _ (hmem j hj)
        rw [spread_eq]; omega
      · have a := lo_hi _ _ (hmem 0 (by omega))
        rw [spread_eq]; omega
    have h7 : spreadF (c.looksF w g) ≤ s := by
      obtain ⟨k, hk, hmin⟩ := least_look c w g g.length (by omega)
      refine spread_le (lo := g.getD k 0 + (c.mores w).getD k 0) (by omega) fun x hx => ?_
      obtain ⟨i, hi, rfl⟩ := List.getElem_of_mem hx
      have e := Cs.looks_at (c := c) hgl (k := i) (by omega)
      rw [List.getD_eq_getElem?_getD, List.getElem?_eq_getElem hi] at e
      simp only [Option.getD_some] at e
      rw [e]
      have a := hmin i (by omega)
      have b := h3 i k (by omega) hk
      omega
    omega
  · refine less_no _ _ (h5 o ho fun i j hi hj => ?_)
    have := wide_alike c w o i j hi hj
    rw [e] at this; exact this

/-- The closest gaps, and some units more, wherever. -/
structure Oth (c : Cs) (w : List Int) (j : Nat) (ys : List Int) : Prop where
  len : ys.length = w.length - 1
  ge : ∀ i, i < ys.length → (c.closest w).getD i 0 ≤ ys.getD i 0 ∧ ys.getD i 0 ≤ 15 + j
  sum : ys.sum = (c.closest w).sum + j
theorem oth_zero {c : Cs} (hc : c.Fair) (w : List Int) : Oth c w 0 (c.closest w) :=
  ⟨Cs.closest_len c w, fun i hi => ⟨Int.le_refl _, by have := (Cs.closest_le hc w _ (getD_mem hi)).2; omega⟩, by omega⟩
theorem oth_succ {c : Cs} {w : List Int} {j : Nat} {ys : List Int} (h : Oth c w j ys) {a : Nat} (ha : a < ys.length) : Oth c w (j + 1) (ys.set a (ys.getD a 0 + 1)) := by
  refine ⟨by rw [List.length_set]; exact h.len, fun i hi => ?_, ?_⟩
  · rw [List.length_set] at hi
    have := h.ge i hi
    rw [getD_set ha]
    split
    · rename_i e; subst e; omega
    · omega
  · rw [sum_set ys a 1 ha, h.sum]; omega
theorem layR_any (o : Option (List Int × Nat)) : ∃ (g : List Int) (s : Nat) (nl cl : Bool), layR o = .tup [vints nl cl g, vint (s : Int), vint 0] := by
  rcases o with _ | ⟨g, s⟩
  · exact ⟨[], 0, true, true, rfl⟩
  · exact ⟨g, s, false, false, rfl⟩

set_option maxRecDepth 100000 in
set_option maxHeartbeats 16000000 in
theorem Laid_any (H : Hp) (x : TyA) (hx : x.Ok) (nl clip : Bool) (l : List Int) (hl : l.length ≤ 9223372036854775807) (hlb : ∀ n ∈ l, 0 ≤ n ∧ n ≤ 255) (nl0 cl0 nl1 cl1 : Bool) (l0 l1 : List Int) (hl0m : l0.length ≤ 9223372036854775807) (hl1m : l1.length ≤ 9223372036854775807) (hb0 : ∀ n ∈ l0, Byte n) (hb1 : ∀ n ∈ l1, Byte n) :
    CallV Tryz.prog 3 [.agg x.cells, .sl nl clip l.length (l.map vbyte), .agg [.sl nl0 cl0 l0.length (l0.map vbyte), .sl nl1 cl1 l1.length (l1.map vbyte)]] H (fun r H' => r = .bool true ∧ H' = H) := by
  have hone : (x.cells.all AV.one) = true := by
    unfold TyA.cells
    rw [List.all_append]
    simp [AV.one]
  have hone2 : (([.sl nl0 cl0 l0.length (l0.map vbyte), .sl nl1 cl1 l1.length (l1.map vbyte)] : List AV).all AV.one) = true := by simp [AV.one]
  have hmk := made_any H x hx
  have hcV := made_valid hx
  have hc6 := made_len hx
  have htk : x.cells.take 10 = x.cells := List.take_of_length_le (by unfold TyA.cells; simp [hx.wd])
  have hlen : x.cells.length = 10 := by unfold TyA.cells; simp [hx.wd]
  generalize x.made = c at hmk hcV hc6
  have hw := wordF_word hlb hc6
  have hwd := word_bytes H nl clip l hl hlb
  generalize hfl : decide (l.length = 0) = fl at hwd
  generalize wordF l = w at hw hwd
  have hwl := hw.2.1
  have hw1 := hw.1
  have hF := hcV.fair
  have hv0 : ([.sl nl0 cl0 l0.length (l0.map vbyte), .sl nl1 cl1 l1.length (l1.map vbyte)] : List AV)[0]? = some (.sl nl0 cl0 l0.length (l0.map vbyte)) := rfl
  have hv1 : ([.sl nl0 cl0 l0.length (l0.map vbyte), .sl nl1 cl1 l1.length (l1.map vbyte)] : List AV)[1]? = some (.sl nl1 cl1 l1.length (l1.map vbyte)) := rfl
  have hvl : ([.sl nl0 cl0 l0.length (l0.map vbyte), .sl nl1 cl1 l1.length (l1.map vbyte)] : List AV).length = 2 := rfl
  generalize ([.sl nl0 cl0 l0.length (l0.map vbyte), .sl nl1 cl1 l1.length (l1.map vbyte)] : List AV) = vc at *
  have hnd := needs_any H c hcV false fl w hw
  obtain ⟨hn340, hcl90⟩ := need_le hF hw
  have hn1 := need_pos hcV hw
  have z0 : (0 : Int) ≤ 0 ∧ (0 : Int) < ((2 : Nat) : Int) := by decide
  have z1 : (0 : Int) ≤ 1 ∧ (1 : Int) < ((2 : Nat) : Int) := by decide
  have t0 : Int.toNat 0 = 0 := rfl
  have t1 : Int.toNat 1 = 1 := rfl
  have n0 : ((0 : Int) != 0) = false := rfl
  have hiw := ints_any H false fl w (by omega)
  have hdn := own_any H c hcV.ok
  have hNd := Need_any H c.own (own_valid hcV) false (decide (w.length = 0)) w (Cs.word_iff.2 hw)
  rw [show c.own.needF [w] = c.needF [w] from rfl] at hNd
  have hrmE : ∀ m : Int, c.roomF w (c.needF [w] + m) = (c.closest w).sum + m := fun m => by
    rw [Cs.need_one]; unfold Cs.roomF Cs.need1 Cs.longF; simp only [List.sum_nil]; omega
  have hLy := fun n hn => Lay_any H c.own (own_valid hcV) false (decide (w.length = 0)) w n (Cs.word_iff.2 hw) hn
  have hLV : ∀ n, c.own.LayV w n = c.LayV w n := fun _ => rfl
  have hbestE : ∀ n, 1 ≤ n ∧ n ≤ 400 → c.needF [w] ≤ n → ∀ (g : List Int) (s : Nat), c.layF w n = some (g, s) → 2 ≤ w.length → Best c w (c.roomF w n) g s := fun n hn hgo g s h h2 => lay_Best hF hw h2 hn hgo h
  have hlaidE : ∀ n, 1 ≤ n ∧ n ≤ 400 → c.needF [w] ≤ n → 2 ≤ w.length → ∃ g s, c.layF w n = some (g, s) ∧ Laid c w n g s := fun n hn hgo h2 => by
    obtain ⟨g, s, h1, -, h3⟩ := lay_laid hF hw h2 hn hgo; exact ⟨g, s, h1, h3⟩
  generalize hN : c.needF [w] = nd at *
  have nn : (nd != nd) = false := by simp
  refine CallV.body Tryz.func3 rfl Tryz.ntmps3 (by rfl) ?_
  refine WpV.seq (WpV.regionE (by simp only [go_sem, reduceCtorEq, Nat.reduceAdd, Nat.reduceMul, Nat.reduceSub, Nat.reduceLT, Nat.reduceLeDiff, Nat.reduceEqDiff, Nat.reduceBEq, Nat.reducePow, hone, hone2]; rfl) (Marks.nil _) ?_)
  simp only [Vthen, VinBlock, if_true, if_false, Nat.reduceEqDiff, reduceCtorEq]
  refine WpV.seq (WpV.region ?_)
  refine WpOps.take 1 (by simp only [go_sem, reduceCtorEq, Nat.reduceAdd, Nat.reduceMul, Nat.reduceSub, Nat.reduceLT, Nat.reduceLeDiff, Nat.reduceEqDiff, Nat.reduceBEq, Nat.reducePow, htk, hlen]; rfl) ?_
  refine WpOps.step (by rfl) (by rfl) (OpW.callY rfl (by rfl) (by rfl) (by rfl) (enters_of Tryz.func8 (by kernel_rfl) rfl) ((hmk).mono ?_))
  rintro _ _ ⟨rfl, hH⟩
  replace hH := hH.symm
  subst hH
  refine WpOps.take 1 (by simp only [go_sem, reduceCtorEq, Nat.reduceAdd, Nat.reduceMul, Nat.reduceSub, Nat.reduceLT, Nat.reduceLeDiff, Nat.reduceEqDiff, Nat.reduceBEq, Nat.reducePow]; rfl) ?_
  refine WpOps.step (by rfl) (by rfl) (OpW.callY rfl (by rfl) (by rfl) (by rfl) (enters_of Tryz.func9 (by kernel_rfl) rfl) ((hwd).mono ?_))
  rintro _ _ ⟨rfl, hH⟩
  replace hH := hH.symm
  subst hH
  refine WpOps.step (by rfl) (by rfl) (OpW.alloc rfl (Tryz.ze32) (fun i7 f7 => ?_))
  refine WpOps.step (by rfl) (by rfl) (OpW.store (ty := 32) (id := i7) (ver := 0) (off := 0) rfl (by simp only [go_sem, reduceCtorEq, Nat.reduceAdd, Nat.reduceMul, Nat.reduceSub, Nat.reduceLT, Nat.reduceLeDiff, Nat.reduceEqDiff, Nat.reduceBEq, Nat.reducePow]; try rfl) (by simp only [go_sem, reduceCtorEq, Nat.reduceAdd, Nat.reduceMul, Nat.reduceSub, Nat.reduceLT, Nat.reduceLeDiff, Nat.reduceEqDiff, Nat.reduceBEq, Nat.reducePow]; try rfl) (Hp.set_eq _ _ _) (by simp only [go_sem, reduceCtorEq, Nat.reduceAdd, Nat.reduceMul, Nat.reduceSub, Nat.reduceLT, Nat.reduceLeDiff, Nat.reduceEqDiff, Nat.reduceBEq, Nat.reducePow]; try rfl) (by exact Tryz.sz32) (by simp) ?_)
  rw [Hp.set_set]
  refine WpOps.take 1 (by simp only [go_sem, reduceCtorEq, Nat.reduceAdd, Nat.reduceMul, Nat.reduceSub, Nat.reduceLT, Nat.reduceLeDiff, Nat.reduceEqDiff, Nat.reduceBEq, Nat.reducePow]; rfl) (WpOps.nil ⟨Marks.nil _, ?_⟩)
  simp only [Vthen, VinBlock, if_true, if_false, Nat.reduceEqDiff, reduceCtorEq]
  refine WpV.pre (Frz.ptr (t := 7) (id := i7) rfl (Hp.set_eq _ _ _)) (Marks.nil _) ?_
  rw [Hp.set_set, Hp.set_same _ _ _ f7]
  refine WpV.seq (WpV.region ?_)
  refine WpOps.take 1 (by simp only [go_sem, reduceCtorEq, Nat.reduceAdd, Nat.reduceMul, Nat.reduceSub, Nat.reduceLT, Nat.reduceLeDiff, Nat.reduceEqDiff, Nat.reduceBEq, Nat.reducePow]; rfl) ?_
  refine WpOps.step (by rfl) (by rfl) (OpW.callY rfl (by rfl) (by rfl) (by rfl) (enters_of Tryz.func11 (by kernel_rfl) rfl) ((hdn).mono ?_))
  rintro _ _ ⟨rfl, hH⟩
  replace hH := hH.symm
  subst hH
  refine WpOps.take 1 (by simp only [go_sem, reduceCtorEq, Nat.reduceAdd, Nat.reduceMul, Nat.reduceSub, Nat.reduceLT, Nat.reduceLeDiff, Nat.reduceEqDiff, Nat.reduceBEq, Nat.reducePow]; rfl) ?_
  refine WpOps.step (by rfl) (by rfl) (OpW.callY rfl (by rfl) (by rfl) (by rfl) (enters_of Tryz.func12 (by kernel_rfl) rfl) ((hiw).mono ?_))
  rintro _ _ ⟨rfl, hH⟩
  replace hH := hH.symm
  subst hH
  refine WpOps.step (by rfl) (by rfl) (OpW.callY rfl (by rfl) (by rfl) (by rfl) (enters_of Tryz.func10 (by kernel_rfl) rfl) ((hNd).mono ?_))
  rintro _ _ ⟨rfl, hH⟩
  replace hH := hH.symm
  subst hH
  refine WpOps.take 5 (by simp only [go_sem, reduceCtorEq, Nat.reduceAdd, Nat.reduceMul, Nat.reduceSub, Nat.reduceLT, Nat.reduceLeDiff, Nat.reduceEqDiff, Nat.reduceBEq, Nat.reducePow]; rfl) (WpOps.nil ⟨Marks.nil _, ?_⟩)
  simp only [Vthen, VinBlock, if_true, if_false, Nat.reduceEqDiff, reduceCtorEq]
  refine WpV.seq ?_
  refine WpV.seq (WpV.region ?_)
  refine WpOps.take 6 (by simp only [go_sem, reduceCtorEq, Nat.reduceAdd, Nat.reduceMul, Nat.reduceSub, Nat.reduceLT, Nat.reduceLeDiff, Nat.reduceEqDiff, Nat.reduceBEq, Nat.reducePow, n0, nn]; rfl) ?_
  refine WpOps.step (by rfl) (by rfl) (OpW.callY rfl (by rfl) (by rfl) (by rfl) (enters_of Tryz.func13 (by kernel_rfl) rfl) ((hnd).mono ?_))
  rintro _ _ ⟨rfl, hH⟩
  replace hH := hH.symm
  subst hH
  refine WpOps.take 2 (by simp only [go_sem, reduceCtorEq, Nat.reduceAdd, Nat.reduceMul, Nat.reduceSub, Nat.reduceLT, Nat.reduceLeDiff, Nat.reduceEqDiff, Nat.reduceBEq, Nat.reducePow, n0, nn]; rfl) (WpOps.nil ⟨Marks.nil _, ?_⟩)
  simp only [Vthen, VinBlock, if_true, if_false, Nat.reduceEqDiff, reduceCtorEq]
  refine WpV.cond rfl (fun hb => by cases hb) (fun hb => WpV.skip ?_)
  simp only [Vthen, VinBlock, if_true, if_false, Nat.reduceEqDiff, reduceCtorEq]
  refine WpV.seq (WpV.regionE (by simp only [go_sem, reduceCtorEq, Nat.reduceAdd, Nat.reduceMul, Nat.reduceSub, Nat.reduceLT, Nat.reduceLeDiff, Nat.reduceEqDiff, Nat.reduceBEq, Nat.reducePow]; rfl) (Marks.nil _) ?_)
  simp only [Vthen, VinBlock, if_true, if_false, Nat.reduceEqDiff, reduceCtorEq]
  obtain ⟨m, hm40, hmE⟩ : ∃ m : Nat, m < 40 ∧ (if l0.length = 0 then (0 : Int) else l0.getD 0 0 % 40) = (m : Int) := by
    split
    · exact ⟨0, by omega, rfl⟩
    · exact ⟨(l0.getD 0 0 % 40).toNat, by omega, by omega⟩
  refine WpV.seqS [(5, .cp vc 0), (7, .cp c.cells 0), (8, vints false fl w), (9, vint nd), (11, vint (m : Int))] ?_ ?_
  · by_cases hl0 : l0.length = 0
    · rw [if_pos hl0] at hmE
      have hg : ¬ ((l0.length : Int) > 0) := by omega
      refine WpV.seq (WpV.regionE (by simp only [go_sem, reduceCtorEq, Nat.reduceAdd, Nat.reduceMul, Nat.reduceSub, Nat.reduceLT, Nat.reduceLeDiff, Nat.reduceEqDiff, Nat.reduceBEq, Nat.reducePow, z0, t0, hv0, hvl, hg]; rfl) (Marks.nil _) ?_)
      simp only [Vthen, VinBlock, if_true, if_false, Nat.reduceEqDiff, reduceCtorEq]
      refine WpV.cond rfl (fun hb => by cases hb) (fun hb => WpV.skip ?_)
      simp only [Vthen, VinBlock, if_true, if_false, Nat.reduceEqDiff, reduceCtorEq]
      exact ⟨by first | rfl | trivial, by first | rfl | trivial, Sub.cons rfl rfl (Sub.cons rfl rfl (Sub.cons rfl rfl (Sub.cons rfl rfl (Sub.cons rfl (by rw [hmE]) (Sub.nil _)))))⟩
    · rw [if_neg hl0] at hmE
      have hg : (l0.length : Int) > 0 := by omega
      have hg' : (0 : Int) < (l0.length : Int) := by omega
      have hb := hb0 _ (getD_mem (xs := l0) (k := 0) (by omega))
      have hgt : (l0.map vbyte)[0]? = some (vbyte (l0.getD 0 0)) := by
        rw [List.getElem?_map, List.getElem?_eq_getElem (show 0 < l0.length by omega), List.getD_eq_getElem?_getD, List.getElem?_eq_getElem (show 0 < l0.length by omega)]; rfl
      generalize l0.getD 0 0 = b at hmE hb hgt
      have wb := byte_wrap hb
      have mb := byte_mod hb 40
      refine WpV.seq (WpV.regionE (by simp only [go_sem, reduceCtorEq, Nat.reduceAdd, Nat.reduceMul, Nat.reduceSub, Nat.reduceLT, Nat.reduceLeDiff, Nat.reduceEqDiff, Nat.reduceBEq, Nat.reducePow, z0, t0, hv0, hvl, hg]; rfl) (Marks.nil _) ?_)
      simp only [Vthen, VinBlock, if_true, if_false, Nat.reduceEqDiff, reduceCtorEq]
      refine WpV.cond rfl (fun hb => ?_) (fun hb => by cases hb)
      refine WpV.regionE (by simp only [go_sem, reduceCtorEq, Nat.reduceAdd, Nat.reduceMul, Nat.reduceSub, Nat.reduceLT, Nat.reduceLeDiff, Nat.reduceEqDiff, Nat.reduceBEq, Nat.reducePow, z0, t0, hv0, hvl, hg', hgt, wb, mb, hmE, Int.reduceEq]; rfl) (Marks.nil _) ?_
      simp only [Vthen, VinBlock, if_true, if_false, Nat.reduceEqDiff, reduceCtorEq]
      exact ⟨by first | rfl | trivial, by first | rfl | trivial, Sub.cons rfl rfl (Sub.cons rfl rfl (Sub.cons rfl rfl (Sub.cons rfl rfl (Sub.cons rfl rfl (Sub.nil _)))))⟩
  clear hmE
  generalize hNn : nd + (m : Int) = n
  have hn : 1 ≤ n ∧ n ≤ 400 := by omega
  have hnw : IntKind.i64.wrap (nd + (m : Int)) = n := by rw [wrap64 (by omega)]; exact hNn
  have hn1w : IntKind.i64.wrap (n + 1) = n + 1 := wrap64 (by omega)
  have hly := hLy n hn
  have hly1 := hLy (n + 1) (by omega)
  rw [hLV] at hly hly1
  unfold Cs.LayV at hly hly1
  rw [hN] at hly hly1
  rw [if_pos (by omega)] at hly hly1
  obtain ⟨g1, s1, nlA, clA, e1⟩ := layR_any (c.layF w (n + 1))
  rw [e1] at hly1
  obtain ⟨g, s, nlg, clg, e2, hgl, hgw, hgb, hBest⟩ : ∃ (g : List Int) (s : Nat) (nl cl : Bool), layR (c.layF w n) = .tup [vints nl cl g, vint (s : Int), vint 0] ∧ g.length = w.length - 1 ∧ c.wideF w g = s ∧ (∀ x ∈ g, 0 ≤ x ∧ x ≤ 400) ∧ (2 ≤ w.length → Best c w ((c.closest w).sum + m) g s) := by
    by_cases h2 : 2 ≤ w.length
    · obtain ⟨g, s, h1, h3⟩ := hlaidE n hn (by omega) h2
      have hB := hbestE n hn (by omega) g s h1 h2
      rw [← hNn, hrmE] at hB
      refine ⟨g, s, false, false, by rw [h1]; rfl, h3.len, hB.wide, fun y hy => ?_, fun _ => hB⟩
      obtain ⟨i, hi, rfl⟩ := List.getElem_of_mem hy
      have := h3.le i hi
      rw [List.getD_eq_getElem?_getD, List.getElem?_eq_getElem hi] at this
      exact this
    · have hw1' : w.length = 1 := by omega
      refine ⟨[], 0, true, true, ?_, by rw [hw1']; rfl, rfl, by simp, fun h => by omega⟩
      unfold Cs.layF
      rw [if_pos hw1']; rfl
  rw [e2] at hly
  clear e1 e2 hLy hLV hbestE hlaidE
  refine WpV.seq (WpV.regionE (by simp only [go_sem, reduceCtorEq, Nat.reduceAdd, Nat.reduceMul, Nat.reduceSub, Nat.reduceLT, Nat.reduceLeDiff, Nat.reduceEqDiff, Nat.reduceBEq, Nat.reducePow, hnw]; rfl) (Marks.nil _) ?_)
  simp only [Vthen, VinBlock, if_true, if_false, Nat.reduceEqDiff, reduceCtorEq]
  refine WpV.seq (WpV.region ?_)
  refine WpOps.take 1 (by simp only [go_sem, reduceCtorEq, Nat.reduceAdd, Nat.reduceMul, Nat.reduceSub, Nat.reduceLT, Nat.reduceLeDiff, Nat.reduceEqDiff, Nat.reduceBEq, Nat.reducePow]; rfl) ?_
  refine WpOps.step (by rfl) (by rfl) (OpW.callY rfl (by rfl) (by rfl) (by rfl) (enters_of Tryz.func11 (by kernel_rfl) rfl) ((hdn).mono ?_))
  rintro _ _ ⟨rfl, hH⟩
  replace hH := hH.symm
  subst hH
  refine WpOps.take 1 (by simp only [go_sem, reduceCtorEq, Nat.reduceAdd, Nat.reduceMul, Nat.reduceSub, Nat.reduceLT, Nat.reduceLeDiff, Nat.reduceEqDiff, Nat.reduceBEq, Nat.reducePow]; rfl) ?_
  refine WpOps.step (by rfl) (by rfl) (OpW.callY rfl (by rfl) (by rfl) (by rfl) (enters_of Tryz.func12 (by kernel_rfl) rfl) ((hiw).mono ?_))
  rintro _ _ ⟨rfl, hH⟩
  replace hH := hH.symm
  subst hH
  refine WpOps.take 1 (by simp only [go_sem, reduceCtorEq, Nat.reduceAdd, Nat.reduceMul, Nat.reduceSub, Nat.reduceLT, Nat.reduceLeDiff, Nat.reduceEqDiff, Nat.reduceBEq, Nat.reducePow]; rfl) ?_
  refine WpOps.step (by rfl) (by rfl) (OpW.callY rfl (by rfl) (by rfl) (by rfl) (enters_of Tryz.func14 (by kernel_rfl) rfl) ((hly).mono ?_))
  rintro _ _ ⟨rfl, hH⟩
  replace hH := hH.symm
  subst hH
  refine WpOps.take 7 (by simp only [go_sem, reduceCtorEq, Nat.reduceAdd, Nat.reduceMul, Nat.reduceSub, Nat.reduceLT, Nat.reduceLeDiff, Nat.reduceEqDiff, Nat.reduceBEq, Nat.reducePow]; rfl) (WpOps.nil ⟨Marks.nil _, ?_⟩)
  simp only [Vthen, VinBlock, if_true, if_false, Nat.reduceEqDiff, reduceCtorEq]
  refine WpV.seq (WpV.region ?_)
  refine WpOps.take 1 (by simp only [go_sem, reduceCtorEq, Nat.reduceAdd, Nat.reduceMul, Nat.reduceSub, Nat.reduceLT, Nat.reduceLeDiff, Nat.reduceEqDiff, Nat.reduceBEq, Nat.reducePow, hn1w]; rfl) ?_
  refine WpOps.step (by rfl) (by rfl) (OpW.callY rfl (by rfl) (by rfl) (by rfl) (enters_of Tryz.func11 (by kernel_rfl) rfl) ((hdn).mono ?_))
  rintro _ _ ⟨rfl, hH⟩
  replace hH := hH.symm
  subst hH
  refine WpOps.take 1 (by simp only [go_sem, reduceCtorEq, Nat.reduceAdd, Nat.reduceMul, Nat.reduceSub, Nat.reduceLT, Nat.reduceLeDiff, Nat.reduceEqDiff, Nat.reduceBEq, Nat.reducePow, hn1w]; rfl) ?_
  refine WpOps.step (by rfl) (by rfl) (OpW.callY rfl (by rfl) (by rfl) (by rfl) (enters_of Tryz.func12 (by kernel_rfl) rfl) ((hiw).mono ?_))
  rintro _ _ ⟨rfl, hH⟩
  replace hH := hH.symm
  subst hH
  refine WpOps.take 2 (by simp only [go_sem, reduceCtorEq, Nat.reduceAdd, Nat.reduceMul, Nat.reduceSub, Nat.reduceLT, Nat.reduceLeDiff, Nat.reduceEqDiff, Nat.reduceBEq, Nat.reducePow, hn1w]; rfl) ?_
  refine WpOps.step (by rfl) (by rfl) (OpW.callY rfl (by rfl) (by rfl) (by rfl) (enters_of Tryz.func14 (by kernel_rfl) rfl) ((hly1).mono ?_))
  rintro _ _ ⟨rfl, hH⟩
  replace hH := hH.symm
  subst hH
  refine WpOps.take 7 (by simp only [go_sem, reduceCtorEq, Nat.reduceAdd, Nat.reduceMul, Nat.reduceSub, Nat.reduceLT, Nat.reduceLeDiff, Nat.reduceEqDiff, Nat.reduceBEq, Nat.reducePow, hn1w]; rfl) (WpOps.nil ⟨Marks.nil _, ?_⟩)
  simp only [Vthen, VinBlock, if_true, if_false, Nat.reduceEqDiff, reduceCtorEq]
  refine WpV.seq ?_
  have hwm : IntKind.i64.wrap ((w.length : Int) - 1) = ((w.length - 1 : Nat) : Int) := by rw [wrap64 (by omega)]; omega
  have e0 : (((g.length : Nat) : Int) != ((w.length - 1 : Nat) : Int)) = false := by rw [hgl]; simp
  have hgb' : ∀ x ∈ g, 0 ≤ x ∧ x ≤ 1000 := fun x hx => by have := hgb x hx; omega
  have hwi := wide_any H c hcV false fl nlg clg w g hw hgl hgb'
  rw [hgw] at hwi
  have ss : ((s : Int) != (s : Int)) = false := by simp
  refine WpV.seq (WpV.region ?_)
  refine WpOps.take 8 (by simp only [go_sem, reduceCtorEq, Nat.reduceAdd, Nat.reduceMul, Nat.reduceSub, Nat.reduceLT, Nat.reduceLeDiff, Nat.reduceEqDiff, Nat.reduceBEq, Nat.reducePow, n0, hwm, e0, ss]; rfl) ?_
  refine WpOps.take 8 (by simp only [go_sem, reduceCtorEq, Nat.reduceAdd, Nat.reduceMul, Nat.reduceSub, Nat.reduceLT, Nat.reduceLeDiff, Nat.reduceEqDiff, Nat.reduceBEq, Nat.reducePow, n0, hwm, e0, ss]; rfl) ?_
  refine WpOps.take 2 (by simp only [go_sem, reduceCtorEq, Nat.reduceAdd, Nat.reduceMul, Nat.reduceSub, Nat.reduceLT, Nat.reduceLeDiff, Nat.reduceEqDiff, Nat.reduceBEq, Nat.reducePow, n0, hwm, e0, ss]; rfl) ?_
  refine WpOps.step (by rfl) (by rfl) (OpW.callY rfl (by rfl) (by rfl) (by rfl) (enters_of Tryz.func15 (by kernel_rfl) rfl) ((hwi).mono ?_))
  rintro _ _ ⟨rfl, hH⟩
  replace hH := hH.symm
  subst hH
  refine WpOps.take 3 (by simp only [go_sem, reduceCtorEq, Nat.reduceAdd, Nat.reduceMul, Nat.reduceSub, Nat.reduceLT, Nat.reduceLeDiff, Nat.reduceEqDiff, Nat.reduceBEq, Nat.reducePow, n0, hwm, e0, ss]; rfl) (WpOps.nil ⟨Marks.nil _, ?_⟩)
  simp only [Vthen, VinBlock, if_true, if_false, Nat.reduceEqDiff, reduceCtorEq]
  refine WpV.cond rfl (fun hb => by cases hb) (fun hb => WpV.skip ?_)
  simp only [Vthen, VinBlock, if_true, if_false, Nat.reduceEqDiff, reduceCtorEq]
  refine WpV.seqS [(5, .cp vc 0), (7, .cp c.cells 0), (8, vints false fl w), (11, vint (m : Int)), (12, vint n), (13, vints nlg clg g), (14, vint (s : Int))] ?_ ?_
  · by_cases hnd1 : nd > 1
    · have hndw : IntKind.i64.wrap (nd - 1) = nd - 1 := wrap64 (by omega)
      have hly2 := Lay_any H c.own (own_valid hcV) false (decide (w.length = 0)) w (nd - 1) (Cs.word_iff.2 hw) (by omega)
      rw [show c.own.LayV w (nd - 1) = c.LayV w (nd - 1) from rfl] at hly2
      unfold Cs.LayV at hly2
      rw [hN, if_neg (by omega)] at hly2
      have n8 : ((8 : Int) != 8) = false := rfl
      have n00 : (((0 : Nat) : Int) != 0) = false := rfl
      refine WpV.seq (WpV.regionE (by simp only [go_sem, reduceCtorEq, Nat.reduceAdd, Nat.reduceMul, Nat.reduceSub, Nat.reduceLT, Nat.reduceLeDiff, Nat.reduceEqDiff, Nat.reduceBEq, Nat.reducePow, hnd1]; rfl) (Marks.nil _) ?_)
      simp only [Vthen, VinBlock, if_true, if_false, Nat.reduceEqDiff, reduceCtorEq]
      refine WpV.cond rfl (fun hb => ?_) (fun hb => by cases hb)
      refine WpV.seq (WpV.region ?_)
      refine WpOps.take 1 (by simp only [go_sem, reduceCtorEq, Nat.reduceAdd, Nat.reduceMul, Nat.reduceSub, Nat.reduceLT, Nat.reduceLeDiff, Nat.reduceEqDiff, Nat.reduceBEq, Nat.reducePow, hndw]; rfl) ?_
      refine WpOps.step (by rfl) (by rfl) (OpW.callY rfl (by rfl) (by rfl) (by rfl) (enters_of Tryz.func11 (by kernel_rfl) rfl) ((hdn).mono ?_))
      rintro _ _ ⟨rfl, hH⟩
      replace hH := hH.symm
      subst hH
      refine WpOps.take 1 (by simp only [go_sem, reduceCtorEq, Nat.reduceAdd, Nat.reduceMul, Nat.reduceSub, Nat.reduceLT, Nat.reduceLeDiff, Nat.reduceEqDiff, Nat.reduceBEq, Nat.reducePow, hndw]; rfl) ?_
      refine WpOps.step (by rfl) (by rfl) (OpW.callY rfl (by rfl) (by rfl) (by rfl) (enters_of Tryz.func12 (by kernel_rfl) rfl) ((hiw).mono ?_))
      rintro _ _ ⟨rfl, hH⟩
      replace hH := hH.symm
      subst hH
      refine WpOps.take 2 (by simp only [go_sem, reduceCtorEq, Nat.reduceAdd, Nat.reduceMul, Nat.reduceSub, Nat.reduceLT, Nat.reduceLeDiff, Nat.reduceEqDiff, Nat.reduceBEq, Nat.reducePow, hndw]; rfl) ?_
      refine WpOps.step (by rfl) (by rfl) (OpW.callY rfl (by rfl) (by rfl) (by rfl) (enters_of Tryz.func14 (by kernel_rfl) rfl) ((hly2).mono ?_))
      rintro _ _ ⟨rfl, hH⟩
      replace hH := hH.symm
      subst hH
      refine WpOps.take 7 (by simp only [go_sem, reduceCtorEq, Nat.reduceAdd, Nat.reduceMul, Nat.reduceSub, Nat.reduceLT, Nat.reduceLeDiff, Nat.reduceEqDiff, Nat.reduceBEq, Nat.reducePow, hndw]; rfl) (WpOps.nil ⟨Marks.nil _, ?_⟩)
      simp only [Vthen, VinBlock, if_true, if_false, Nat.reduceEqDiff, reduceCtorEq]
      refine WpV.seq (WpV.regionE (by simp only [go_sem, reduceCtorEq, Nat.reduceAdd, Nat.reduceMul, Nat.reduceSub, Nat.reduceLT, Nat.reduceLeDiff, Nat.reduceEqDiff, Nat.reduceBEq, Nat.reducePow, n8, n0, n00]; rfl) (Marks.nil _) ?_)
      simp only [Vthen, VinBlock, if_true, if_false, Nat.reduceEqDiff, reduceCtorEq]
      refine WpV.cond rfl (fun hb => by cases hb) (fun hb => WpV.skip ?_)
      simp only [Vthen, VinBlock, if_true, if_false, Nat.reduceEqDiff, reduceCtorEq]
      exact ⟨by first | rfl | trivial, by first | rfl | trivial, Sub.cons rfl rfl (Sub.cons rfl rfl (Sub.cons rfl rfl (Sub.cons rfl rfl (Sub.cons rfl rfl (Sub.cons rfl rfl (Sub.cons rfl rfl (Sub.nil _)))))))⟩
    · refine WpV.seq (WpV.regionE (by simp only [go_sem, reduceCtorEq, Nat.reduceAdd, Nat.reduceMul, Nat.reduceSub, Nat.reduceLT, Nat.reduceLeDiff, Nat.reduceEqDiff, Nat.reduceBEq, Nat.reducePow, hnd1]; rfl) (Marks.nil _) ?_)
      simp only [Vthen, VinBlock, if_true, if_false, Nat.reduceEqDiff, reduceCtorEq]
      refine WpV.cond rfl (fun hb => by cases hb) (fun hb => WpV.skip ?_)
      simp only [Vthen, VinBlock, if_true, if_false, Nat.reduceEqDiff, reduceCtorEq]
      exact ⟨by first | rfl | trivial, by first | rfl | trivial, Sub.cons rfl rfl (Sub.cons rfl rfl (Sub.cons rfl rfl (Sub.cons rfl rfl (Sub.cons rfl rfl (Sub.cons rfl rfl (Sub.cons rfl rfl (Sub.nil _)))))))⟩
  have hsub : IntKind.i64.wrap (n - nd) = (m : Int) := by rw [wrap64 (by omega)]; omega
  refine WpV.seq (WpV.region ?_)
  refine WpOps.take 3 (by simp only [go_sem, reduceCtorEq, Nat.reduceAdd, Nat.reduceMul, Nat.reduceSub, Nat.reduceLT, Nat.reduceLeDiff, Nat.reduceEqDiff, Nat.reduceBEq, Nat.reducePow, hsub]; rfl) ?_
  refine WpOps.step (by rfl) (by rfl) (OpW.callY rfl (by rfl) (by rfl) (by rfl) (enters_of Tryz.func13 (by kernel_rfl) rfl) ((hnd).mono ?_))
  rintro _ _ ⟨rfl, hH⟩
  replace hH := hH.symm
  subst hH
  refine WpOps.take 2 (by simp only [go_sem, reduceCtorEq, Nat.reduceAdd, Nat.reduceMul, Nat.reduceSub, Nat.reduceLT, Nat.reduceLeDiff, Nat.reduceEqDiff, Nat.reduceBEq, Nat.reducePow, hsub]; rfl) (WpOps.nil ⟨Marks.nil _, ?_⟩)
  simp only [Vthen, VinBlock, if_true, if_false, Nat.reduceEqDiff, reduceCtorEq]
  have hcl := Cs.closest_len c w
  have hcle := Cs.closest_le hF w
  have hgt := fun k (h : k < g.length) => int_at' (L := g) h
  refine WpV.seqS [(5, .cp vc 0), (7, .cp c.cells 0), (8, vints false fl w), (11, vint (m : Int)), (13, vints nlg clg g), (14, vint (s : Int)), (22, vint ((m : Int) - (pre g.length g - pre g.length (c.closest w))))] ?_ ?_
  · refine WpV.seq (WpV.regionE (by simp only [go_sem, reduceCtorEq, Nat.reduceAdd, Nat.reduceMul, Nat.reduceSub, Nat.reduceLT, Nat.reduceLeDiff, Nat.reduceEqDiff, Nat.reduceBEq, Nat.reducePow]; rfl) (Marks.nil _) ?_)
    simp only [Vthen, VinBlock, if_true, if_false, Nat.reduceEqDiff, reduceCtorEq]
    refine WpV.block (WpV.loopN g.length (fun k => [(5, .cp vc 0), (7, .cp c.cells 0), (8, vints false fl w), (11, vint (m : Int)), (13, vints nlg clg g), (14, vint (s : Int)), (22, vint ((m : Int) - (pre k g - pre k (c.closest w)))), (23, vint k)]) (fun _ => H) ?_ rfl ?_)
    · exact .cons rfl rfl (.cons rfl rfl (.cons rfl rfl (.cons rfl rfl (.cons rfl rfl (.cons rfl rfl (.cons rfl (by rw [pre_zero, pre_zero]; first | done | (congr 1; omega) | simp) (.cons rfl rfl (.nil _))))))))
    · intro k hk
      refine WpV.seq ?_
      refine WpV.seq (WpV.regionE (by simp only [go_sem, reduceCtorEq, Nat.reduceAdd, Nat.reduceMul, Nat.reduceSub, Nat.reduceLT, Nat.reduceLeDiff, Nat.reduceEqDiff, Nat.reduceBEq, Nat.reducePow]; rfl) (Marks.nil _) ?_)
      simp only [Vthen, VinBlock, if_true, if_false, Nat.reduceEqDiff, reduceCtorEq]
      refine WpV.cond rfl (fun hb => WpV.skip ?_) (fun hb => WpV.exit ?_)
      · have hlt : (k : Int) < (g.length : Int) := of_decide_eq_true ‹_›
        have hlt' : k < g.length := by omega
        have hgk := hgt k hlt'
        have hB := hBest (by omega)
        have hge := hB.fills.ge k hlt'
        have hls := least_any H c hcV false fl w hw k (by omega)
        have hg400 := hgb _ (getD_mem (xs := g) hlt')
        have hc15 := hcle _ (getD_mem (xs := c.closest w) (k := k) (by omega))
        have hp1 := pre_succ k g
        have hp2 := pre_succ k (c.closest w)
        have hb1 := sum_bound (xs := g.take k) (a := 0) (b := 400) (fun y hy => hgb y (List.mem_of_mem_take hy))
        have hb2 := sum_bound (xs := (c.closest w).take k) (a := 0) (b := 15) (fun y hy => hcle y (List.mem_of_mem_take hy))
        have hl1 : (g.take k).length ≤ 7 := by rw [List.length_take]; omega
        have hl2 : ((c.closest w).take k).length ≤ 7 := by rw [List.length_take]; omega
        rw [hp1, hp2]
        change _ ∧ pre k g ≤ _ at hb1
        change _ ∧ pre k (c.closest w) ≤ _ at hb2
        have hb1' : 0 ≤ pre k g ∧ pre k g ≤ 2800 := ⟨by have := hb1.1; change _ ≤ pre k g at this; omega, by omega⟩
        have hb2' : 0 ≤ pre k (c.closest w) ∧ pre k (c.closest w) ≤ 105 := ⟨by have := hb2.1; change _ ≤ pre k (c.closest w) at this; omega, by omega⟩
        clear hb1 hb2 hp1 hp2
        generalize pre k g = p1 at *
        generalize pre k (c.closest w) = p2 at *
        generalize g.getD k 0 = gk at *
        generalize (c.closest w).getD k 0 = ck at *
        have hnl : ¬ (gk < ck) := by omega
        have hr1 : IntKind.i64.wrap (gk - ck) = gk - ck := wrap64 (by omega)
        have hr2 : IntKind.i64.wrap ((m : Int) - (p1 - p2) - (gk - ck)) = (m : Int) - (p1 - p2) - (gk - ck) := wrap64 (by omega)
        have hnk : IntKind.i64.wrap ((k : Int) + 1) = ((k + 1 : Nat) : Int) := by rw [wrap64 (by omega)]; rfl
        simp only [Vthen, VinBlock, if_true, if_false, Nat.reduceEqDiff, reduceCtorEq]
        refine WpV.seq (WpV.block ?_)
        refine WpV.seq ?_
        refine WpV.seq (WpV.regionD Tryz.mixed (by kernel_rfl) (by kernel_rfl) ?_)
        refine LexD.take 7 (by rfl) (by simp only [go_sem, reduceCtorEq, Nat.reduceAdd, Nat.reduceMul, Nat.reduceSub, Nat.reduceLT, Nat.reduceLeDiff, Nat.reduceEqDiff, Nat.reduceBEq, Nat.reducePow, hlt, hgk, hnl]; rfl) ?_
        refine LexD.step (by rfl) (by rfl) (OpW.callY rfl (by rfl) (by rfl) (by rfl) (enters_of Tryz.func16 (by kernel_rfl) rfl) (hls)) ?_
        refine LexD.take 1 (by rfl) (by simp only [go_sem, reduceCtorEq, Nat.reduceAdd, Nat.reduceMul, Nat.reduceSub, Nat.reduceLT, Nat.reduceLeDiff, Nat.reduceEqDiff, Nat.reduceBEq, Nat.reducePow, hlt, hgk, hnl]; rfl) (LexD.nilE ⟨Marks.nil _, ?_⟩)
        simp only [Vthen, VinBlock, if_true, if_false, Nat.reduceEqDiff, reduceCtorEq]
        refine WpV.cond rfl (fun hb => by cases hb) (fun hb => WpV.skip ?_)
        simp only [Vthen, VinBlock, if_true, if_false, Nat.reduceEqDiff, reduceCtorEq]
        refine WpV.regionTN 11 Tryz.mixed (by kernel_rfl) (by kernel_rfl) (by kernel_rfl) ?_
        refine LexD.take 8 (by rfl) (by simp only [go_sem, reduceCtorEq, Nat.reduceAdd, Nat.reduceMul, Nat.reduceSub, Nat.reduceLT, Nat.reduceLeDiff, Nat.reduceEqDiff, Nat.reduceBEq, Nat.reducePow, hlt, hgk, hr1, hr2]; rfl) ?_
        refine LexD.step (by rfl) (by rfl) (OpW.callY rfl (by rfl) (by rfl) (by rfl) (enters_of Tryz.func16 (by kernel_rfl) rfl) (hls)) ?_
        refine LexD.take 2 (by rfl) (by simp only [go_sem, reduceCtorEq, Nat.reduceAdd, Nat.reduceMul, Nat.reduceSub, Nat.reduceLT, Nat.reduceLeDiff, Nat.reduceEqDiff, Nat.reduceBEq, Nat.reducePow, hlt, hgk, hr1, hr2]; rfl) ?_
        refine LexD.nilE ?_
        refine LexT.take 1 (by simp only [go_sem, reduceCtorEq, Nat.reduceAdd, Nat.reduceMul, Nat.reduceSub, Nat.reduceLT, Nat.reduceLeDiff, Nat.reduceEqDiff, Nat.reduceBEq, Nat.reducePow, hlt, hgk, hr1, hr2]; rfl) (LexT.nilE ⟨Marks.nil _, ?_⟩)
        simp only [Vthen, VinBlock, if_true, if_false, Nat.reduceEqDiff, reduceCtorEq]
        refine WpV.regionE (by simp only [go_sem, reduceCtorEq, Nat.reduceAdd, Nat.reduceMul, Nat.reduceSub, Nat.reduceLT, Nat.reduceLeDiff, Nat.reduceEqDiff, Nat.reduceBEq, Nat.reducePow, hnk]; rfl) (Marks.nil _) ?_
        simp only [Vthen, VinBlock, if_true, if_false, Nat.reduceEqDiff, reduceCtorEq]
        exact ⟨by first | rfl | trivial, hlt', .cons rfl rfl (.cons rfl rfl (.cons rfl rfl (.cons rfl rfl (.cons rfl rfl (.cons rfl rfl (.cons rfl (by congr 1; omega) (.cons rfl rfl (.nil _)))))))), by first | rfl | trivial⟩
      · have hge : k = g.length := by have := of_decide_eq_false ‹_›; omega
        subst hge
        simp only [Vthen, VinBlock, if_true, if_false, Nat.reduceEqDiff, reduceCtorEq]
        exact ⟨by first | rfl | trivial, by first | rfl | trivial, Sub.cons rfl rfl (Sub.cons rfl rfl (Sub.cons rfl rfl (Sub.cons rfl rfl (Sub.cons rfl rfl (Sub.cons rfl rfl (Sub.cons rfl rfl (Sub.nil _)))))))⟩
  refine WpV.seq ?_
  by_cases hg0 : g.length = 0
  · have e1 : ((g.length : Int) == 0) = true := by rw [hg0]; rfl
    refine WpV.seq (WpV.regionE (by simp only [go_sem, reduceCtorEq, Nat.reduceAdd, Nat.reduceMul, Nat.reduceSub, Nat.reduceLT, Nat.reduceLeDiff, Nat.reduceEqDiff, Nat.reduceBEq, Nat.reducePow, e1]; rfl) (Marks.nil _) ?_)
    simp only [Vthen, VinBlock, if_true, if_false, Nat.reduceEqDiff, reduceCtorEq]
    refine WpV.cond rfl (fun hb => ?_) (fun hb => by cases hb)
    refine WpV.seq (WpV.region ?_)
    refine WpOps.step (by rfl) (by rfl) (OpW.callY rfl (by rfl) (by rfl) (by rfl) (enters_of Tryz.func17 (by kernel_rfl) rfl) ((known_any H).mono ?_))
    rintro _ _ ⟨rfl, hH⟩
    replace hH := hH.symm
    subst hH
    refine WpOps.take 1 (by simp only [go_sem, reduceCtorEq, Nat.reduceAdd, Nat.reduceMul, Nat.reduceSub, Nat.reduceLT, Nat.reduceLeDiff, Nat.reduceEqDiff, Nat.reduceBEq, Nat.reducePow]; rfl) (WpOps.nil ⟨Marks.nil _, ?_⟩)
    simp only [Vthen, VinBlock, if_true, if_false, Nat.reduceEqDiff, reduceCtorEq]
    refine WpV.ret ⟨Marks.nil _, List.nodup_nil, _, by simp only [Tryz.results3]; simp only [go_sem, reduceCtorEq, Nat.reduceAdd, Nat.reduceMul, Nat.reduceSub, Nat.reduceLT, Nat.reduceLeDiff, Nat.reduceEqDiff, Nat.reduceBEq, Nat.reducePow]; rfl, ?_⟩
    exact ⟨rfl, rfl⟩
  have e1 : ((g.length : Int) == 0) = false := by simp; intro e; exact hg0 (by rw [e]; rfl)
  have hB := hBest (by omega)
  clear hBest
  have hzero : (m : Int) - (pre g.length g - pre g.length (c.closest w)) = 0 := by
    have h1 := hB.fills.sum
    have h2 := pre_len g
    have h3 := pre_len (c.closest w)
    rw [hcl, ← hgl] at h3
    omega
  rw [hzero]
  refine WpV.seq (WpV.regionE (by simp only [go_sem, reduceCtorEq, Nat.reduceAdd, Nat.reduceMul, Nat.reduceSub, Nat.reduceLT, Nat.reduceLeDiff, Nat.reduceEqDiff, Nat.reduceBEq, Nat.reducePow, e1]; rfl) (Marks.nil _) ?_)
  simp only [Vthen, VinBlock, if_true, if_false, Nat.reduceEqDiff, reduceCtorEq]
  refine WpV.cond rfl (fun hb => by cases hb) (fun hb => WpV.skip ?_)
  simp only [Vthen, VinBlock, if_true, if_false, Nat.reduceEqDiff, reduceCtorEq]
  refine WpV.seq ?_
  refine WpV.seq (WpV.regionE (by simp only [go_sem, reduceCtorEq, Nat.reduceAdd, Nat.reduceMul, Nat.reduceSub, Nat.reduceLT, Nat.reduceLeDiff, Nat.reduceEqDiff, Nat.reduceBEq, Nat.reducePow, n0]; rfl) (Marks.nil _) ?_)
  simp only [Vthen, VinBlock, if_true, if_false, Nat.reduceEqDiff, reduceCtorEq]
  refine WpV.cond rfl (fun hb => by cases hb) (fun hb => WpV.skip ?_)
  simp only [Vthen, VinBlock, if_true, if_false, Nat.reduceEqDiff, reduceCtorEq]
  refine WpV.seqS [(7, .cp c.cells 0), (8, vints false fl w), (13, vints nlg clg g), (14, vint (s : Int))] ?_ ?_
  · refine WpV.seq (WpV.regionE (by simp only [go_sem, reduceCtorEq, Nat.reduceAdd, Nat.reduceMul, Nat.reduceSub, Nat.reduceLT, Nat.reduceLeDiff, Nat.reduceEqDiff, Nat.reduceBEq, Nat.reducePow]; rfl) (Marks.nil _) ?_)
    simp only [Vthen, VinBlock, if_true, if_false, Nat.reduceEqDiff, reduceCtorEq]
    refine WpV.block (WpV.loopN 2 (fun k => [(5, .cp vc 0), (7, .cp c.cells 0), (8, vints false fl w), (11, vint (m : Int)), (13, vints nlg clg g), (14, vint (s : Int)), (24, vint k)]) (fun _ => H) ?_ rfl ?_)
    · exact .cons rfl rfl (.cons rfl rfl (.cons rfl rfl (.cons rfl rfl (.cons rfl rfl (.cons rfl rfl (.cons rfl rfl (.nil _)))))))
    · intro k hk
      refine WpV.seq ?_
      refine WpV.seq (WpV.regionE (by simp only [go_sem, reduceCtorEq, Nat.reduceAdd, Nat.reduceMul, Nat.reduceSub, Nat.reduceLT, Nat.reduceLeDiff, Nat.reduceEqDiff, Nat.reduceBEq, Nat.reducePow]; rfl) (Marks.nil _) ?_)
      simp only [Vthen, VinBlock, if_true, if_false, Nat.reduceEqDiff, reduceCtorEq]
      refine WpV.cond rfl (fun hb => WpV.skip ?_) (fun hb => WpV.exit ?_)
      · have hk2 : (k : Int) < 2 := of_decide_eq_true ‹_›
        have hk2' : k < 2 := by omega
        have hnkk : IntKind.i64.wrap ((k : Int) + 1) = ((k + 1 : Nat) : Int) := by rw [wrap64 (by omega)]; rfl
        have hgp : 0 < g.length := by omega
        simp only [Vthen, VinBlock, if_true, if_false, Nat.reduceEqDiff, reduceCtorEq]
        refine WpV.seq (WpV.block ?_)
        refine WpV.seq (WpV.regionE (by simp only [go_sem, reduceCtorEq, Nat.reduceAdd, Nat.reduceMul, Nat.reduceSub, Nat.reduceLT, Nat.reduceLeDiff, Nat.reduceEqDiff, Nat.reduceBEq, Nat.reducePow]; rfl) (Marks.nil _) ?_)
        simp only [Vthen, VinBlock, if_true, if_false, Nat.reduceEqDiff, reduceCtorEq]
        refine WpV.seq ?_
        refine WpV.seq (WpV.regionE (by simp only [go_sem, reduceCtorEq, Nat.reduceAdd, Nat.reduceMul, Nat.reduceSub, Nat.reduceLT, Nat.reduceLeDiff, Nat.reduceEqDiff, Nat.reduceBEq, Nat.reducePow]; rfl) (Marks.nil _) ?_)
        simp only [Vthen, VinBlock, if_true, if_false, Nat.reduceEqDiff, reduceCtorEq]
        refine WpV.block (WpV.loopB 3 1 false g.length (fun _ => True) (fun j => j) (fun j => ((c.closest w).take j).map vint) (fun j v => [(5, .cp vc 0), (7, .cp c.cells 0), (8, vints false fl w), (11, vint (m : Int)), (13, vints nlg clg g), (14, vint (s : Int)), (24, vint k), (25, v), (26, vint j)]) trivial (Bld.nil H 3 1 false) ?_ ?_)
        · exact .cons rfl rfl (.cons rfl rfl (.cons rfl rfl (.cons rfl rfl (.cons rfl rfl (.cons rfl rfl (.cons rfl rfl (.cons rfl rfl (.cons rfl rfl (.nil _)))))))))
        intro j hj _ v H1 hBl
        refine WpV.seq ?_
        refine WpV.seq (WpV.regionE (by simp only [go_sem, reduceCtorEq, Nat.reduceAdd, Nat.reduceMul, Nat.reduceSub, Nat.reduceLT, Nat.reduceLeDiff, Nat.reduceEqDiff, Nat.reduceBEq, Nat.reducePow]; rfl) (Marks.nil _) ?_)
        simp only [Vthen, VinBlock, if_true, if_false, Nat.reduceEqDiff, reduceCtorEq]
        refine WpV.cond rfl (fun hb => WpV.skip ?_) (fun hb => WpV.exit ?_)
        · have hlt : (j : Int) < (g.length : Int) := of_decide_eq_true ‹_›
          have hlt' : j < g.length := by omega
          have hls := least_any H1 c hcV false fl w hw j (by omega)
          have hnj : IntKind.i64.wrap ((j : Int) + 1) = ((j + 1 : Nat) : Int) := by rw [wrap64 (by omega)]; rfl
          have htk : (c.closest w).take (j + 1) = (c.closest w).take j ++ [(c.closest w).getD j 0] := by
            rw [List.take_add_one, List.getElem?_eq_getElem (show j < (c.closest w).length by omega), List.getD_eq_getElem?_getD, List.getElem?_eq_getElem (show j < (c.closest w).length by omega)]; rfl
          generalize (c.closest w).getD j 0 = cj at *
          simp only [Vthen, VinBlock, if_true, if_false, Nat.reduceEqDiff, reduceCtorEq]
          refine WpV.seq (WpV.block ?_)
          refine WpV.region ?_
          refine WpOps.take 4 (by simp only [go_sem, reduceCtorEq, Nat.reduceAdd, Nat.reduceMul, Nat.reduceSub, Nat.reduceLT, Nat.reduceLeDiff, Nat.reduceEqDiff, Nat.reduceBEq, Nat.reducePow]; rfl) ?_
          refine WpOps.step (by rfl) (by rfl) (OpW.callY rfl (by rfl) (by rfl) (by rfl) (enters_of Tryz.func16 (by kernel_rfl) rfl) ((hls).mono ?_))
          rintro _ _ ⟨rfl, hH⟩
          replace hH := hH.symm
          subst hH
          refine WpOps.take 1 (by simp only [go_sem, reduceCtorEq, Nat.reduceAdd, Nat.reduceMul, Nat.reduceSub, Nat.reduceLT, Nat.reduceLeDiff, Nat.reduceEqDiff, Nat.reduceBEq, Nat.reducePow]; rfl) ?_
          refine WpOps.step (by rfl) (by rfl) (OpW.appendB (m := 1) (ys := [vint cj]) rfl hBl rfl rfl rfl (Tryz.el29 (by omega)) Tryz.underlying29 rfl rfl (by decide) (fun v' H' hB' => ?_))
          refine WpOps.take 1 (by simp only [go_sem, reduceCtorEq, Nat.reduceAdd, Nat.reduceMul, Nat.reduceSub, Nat.reduceLT, Nat.reduceLeDiff, Nat.reduceEqDiff, Nat.reduceBEq, Nat.reducePow]; rfl) (WpOps.nil ⟨Marks.nil _, ?_⟩)
          simp only [Vthen, VinBlock, if_true, if_false, Nat.reduceEqDiff, reduceCtorEq]
          refine WpV.regionE (by simp only [go_sem, reduceCtorEq, Nat.reduceAdd, Nat.reduceMul, Nat.reduceSub, Nat.reduceLT, Nat.reduceLeDiff, Nat.reduceEqDiff, Nat.reduceBEq, Nat.reducePow, hnj]; rfl) (Marks.nil _) ?_
          simp only [Vthen, VinBlock, if_true, if_false, Nat.reduceEqDiff, reduceCtorEq]
          refine ⟨by first | rfl | trivial, hlt', trivial, v', ?_, .cons rfl rfl (.cons rfl rfl (.cons rfl rfl (.cons rfl rfl (.cons rfl rfl (.cons rfl rfl (.cons rfl rfl (.cons rfl rfl (.cons rfl rfl (.nil _)))))))))⟩
          rw [htk, List.map_append]; exact hB'
        have hge : j = g.length := by have := of_decide_eq_false ‹_›; omega
        subst hge
        rw [List.take_of_length_le (by omega)] at hBl
        obtain ⟨-, ⟨h0, -⟩ | ⟨-, idp, verp, hidp, rfl, rfl⟩⟩ := hBl
        · omega
        simp only [Vthen, VinBlock, if_true, if_false, Nat.reduceEqDiff, reduceCtorEq]
        refine WpV.seq ?_
        refine WpV.seq (WpV.regionE (by simp only [go_sem, reduceCtorEq, Nat.reduceAdd, Nat.reduceMul, Nat.reduceSub, Nat.reduceLT, Nat.reduceLeDiff, Nat.reduceEqDiff, Nat.reduceBEq, Nat.reducePow]; rfl) (Marks.nil _) ?_)
        simp only [Vthen, VinBlock, if_true, if_false, Nat.reduceEqDiff, reduceCtorEq]
        refine WpV.block (WpV.loop (ι := { p : Nat × List Int // p.1 ≤ m ∧ Oth c w p.1 p.2 }) (fun p => [(5, .cp vc 0), (7, .cp c.cells 0), (8, vints false fl w), (11, vint (m : Int)), (13, vints nlg clg g), (14, vint (s : Int)), (24, vint k), (25, .rs idp verp 1 0 g.length false), (27, vint p.1.1)]) (fun p => H.set idp (some (.cells 3 verp (p.1.2.map vint)))) (fun p => m - p.1.1) ⟨(0, c.closest w), Nat.zero_le _, oth_zero hF w⟩ ?_ rfl ?_)
        · exact Sub.cons rfl rfl (Sub.cons rfl rfl (Sub.cons rfl rfl (Sub.cons rfl rfl (Sub.cons rfl rfl (Sub.cons rfl rfl (Sub.cons rfl rfl (Sub.cons rfl rfl (Sub.cons rfl rfl (Sub.nil _)))))))))
        rintro ⟨⟨j, ys⟩, hj, hO⟩
        simp only at hj hO ⊢
        have hyl := hO.len
        have hib2 : (H.set idp (some (.cells 3 verp (ys.map vint)))) idp = some (.cells 3 verp (ys.map vint)) := Hp.set_eq _ _ _
        refine WpV.seq ?_
        refine WpV.seq (WpV.regionE (by simp only [go_sem, reduceCtorEq, Nat.reduceAdd, Nat.reduceMul, Nat.reduceSub, Nat.reduceLT, Nat.reduceLeDiff, Nat.reduceEqDiff, Nat.reduceBEq, Nat.reducePow]; rfl) (Marks.nil _) ?_)
        simp only [Vthen, VinBlock, if_true, if_false, Nat.reduceEqDiff, reduceCtorEq]
        refine WpV.cond rfl (fun hb => WpV.skip ?_) (fun hb => WpV.exit ?_)
        · have hlt : (j : Int) < (m : Int) := of_decide_eq_true ‹_›
          have hlt' : j < m := by omega
          have hnj : IntKind.i64.wrap ((j : Int) + 1) = ((j + 1 : Nat) : Int) := by rw [wrap64 (by omega)]; rfl
          simp only [Vthen, VinBlock, if_true, if_false, Nat.reduceEqDiff, reduceCtorEq]
          refine WpV.seq (WpV.block ?_)
          refine WpV.seq (WpV.regionE (by simp only [go_sem, reduceCtorEq, Nat.reduceAdd, Nat.reduceMul, Nat.reduceSub, Nat.reduceLT, Nat.reduceLeDiff, Nat.reduceEqDiff, Nat.reduceBEq, Nat.reducePow]; rfl) (Marks.nil _) ?_)
          simp only [Vthen, VinBlock, if_true, if_false, Nat.reduceEqDiff, reduceCtorEq]
          obtain ⟨at', hat, hatE⟩ : ∃ at' : Int, Byte at' ∧ at' = (if k = 1 ∧ 0 < l1.length then l1.getD (j % l1.length) 0 else (j : Int)) := by
            refine ⟨_, ?_, rfl⟩
            split
            · rename_i h; exact hb1 _ (getD_mem (Nat.mod_lt _ h.2))
            · unfold Byte; omega
          refine WpV.seqS [(5, .cp vc 0), (7, .cp c.cells 0), (8, vints false fl w), (11, vint (m : Int)), (13, vints nlg clg g), (14, vint (s : Int)), (24, vint k), (25, .rs idp verp 1 0 g.length false), (27, vint j), (28, vint at')] ?_ ?_
          · by_cases hk1 : k = 1
            · have hkb : ((k : Int) == 1) = true := by rw [hk1]; rfl
              by_cases hl1 : 0 < l1.length
              · rw [if_pos ⟨hk1, hl1⟩] at hatE
                have hl1g : (l1.length : Int) > 0 := by omega
                have hl1n : ¬ ((l1.length : Int) = 0) := by omega
                have hq : ((j : Int).tmod (l1.length : Int)) = ((j % l1.length : Nat) : Int) := by rw [Int.tmod_eq_emod_of_nonneg (by omega)]; rfl
                have hqn := Nat.mod_lt j hl1
                generalize j % l1.length = q at hq hqn hatE
                have hqlt : (q : Int) < (l1.length : Int) := by omega
                have hgq : (l1.map vbyte)[q]? = some (vbyte at') := by
                  rw [List.getElem?_map, List.getElem?_eq_getElem hqn, hatE, List.getD_eq_getElem?_getD, List.getElem?_eq_getElem hqn]; rfl
                have wb := byte_wrap hat
                refine WpV.seq (WpV.regionE (by simp only [go_sem, reduceCtorEq, Nat.reduceAdd, Nat.reduceMul, Nat.reduceSub, Nat.reduceLT, Nat.reduceLeDiff, Nat.reduceEqDiff, Nat.reduceBEq, Nat.reducePow, hkb, z1, t1, hv1, hvl, hl1g]; rfl) (Marks.nil _) ?_)
                simp only [Vthen, VinBlock, if_true, if_false, Nat.reduceEqDiff, reduceCtorEq]
                refine WpV.cond rfl (fun hb => ?_) (fun hb => by cases hb)
                refine WpV.regionDE Tryz.mixed (by kernel_rfl) (by kernel_rfl) (by rfl) (by simp only [go_sem, reduceCtorEq, Nat.reduceAdd, Nat.reduceMul, Nat.reduceSub, Nat.reduceLT, Nat.reduceLeDiff, Nat.reduceEqDiff, Nat.reduceBEq, Nat.reducePow, z1, t1, hv1, hvl, hl1n, hq, hqlt, hgq, wb]; rfl) (Marks.nil _) ?_
                simp only [Vthen, VinBlock, if_true, if_false, Nat.reduceEqDiff, reduceCtorEq]
                exact ⟨by first | rfl | trivial, by first | rfl | trivial, Sub.cons rfl rfl (Sub.cons rfl rfl (Sub.cons rfl rfl (Sub.cons rfl rfl (Sub.cons rfl rfl (Sub.cons rfl rfl (Sub.cons rfl rfl (Sub.cons rfl rfl (Sub.cons rfl rfl (Sub.cons rfl rfl (Sub.nil _))))))))))⟩
              · rw [if_neg (fun h => hl1 h.2)] at hatE
                have hl1g : ¬ ((l1.length : Int) > 0) := by omega
                refine WpV.seq (WpV.regionE (by simp only [go_sem, reduceCtorEq, Nat.reduceAdd, Nat.reduceMul, Nat.reduceSub, Nat.reduceLT, Nat.reduceLeDiff, Nat.reduceEqDiff, Nat.reduceBEq, Nat.reducePow, hkb, z1, t1, hv1, hvl, hl1g]; rfl) (Marks.nil _) ?_)
                simp only [Vthen, VinBlock, if_true, if_false, Nat.reduceEqDiff, reduceCtorEq]
                refine WpV.cond rfl (fun hb => by cases hb) (fun hb => WpV.skip ?_)
                simp only [Vthen, VinBlock, if_true, if_false, Nat.reduceEqDiff, reduceCtorEq]
                exact ⟨by first | rfl | trivial, by first | rfl | trivial, Sub.cons rfl rfl (Sub.cons rfl rfl (Sub.cons rfl rfl (Sub.cons rfl rfl (Sub.cons rfl rfl (Sub.cons rfl rfl (Sub.cons rfl rfl (Sub.cons rfl rfl (Sub.cons rfl rfl (Sub.cons rfl (by rw [hatE]) (Sub.nil _))))))))))⟩
            · rw [if_neg (fun h => hk1 h.1)] at hatE
              have hkb : ((k : Int) == 1) = false := by simp; omega
              refine WpV.seq (WpV.regionE (by simp only [go_sem, reduceCtorEq, Nat.reduceAdd, Nat.reduceMul, Nat.reduceSub, Nat.reduceLT, Nat.reduceLeDiff, Nat.reduceEqDiff, Nat.reduceBEq, Nat.reducePow, hkb]; rfl) (Marks.nil _) ?_)
              simp only [Vthen, VinBlock, if_true, if_false, Nat.reduceEqDiff, reduceCtorEq]
              refine WpV.cond rfl (fun hb => by cases hb) (fun hb => WpV.skip ?_)
              simp only [Vthen, VinBlock, if_true, if_false, Nat.reduceEqDiff, reduceCtorEq]
              exact ⟨by first | rfl | trivial, by first | rfl | trivial, Sub.cons rfl rfl (Sub.cons rfl rfl (Sub.cons rfl rfl (Sub.cons rfl rfl (Sub.cons rfl rfl (Sub.cons rfl rfl (Sub.cons rfl rfl (Sub.cons rfl rfl (Sub.cons rfl rfl (Sub.cons rfl (by rw [hatE]) (Sub.nil _))))))))))⟩
          have hgn : ¬ ((g.length : Int) = 0) := by omega
          obtain ⟨a, ha, hva⟩ : ∃ a : Nat, a < g.length ∧ at' % (g.length : Int) = (a : Int) := by
            have h1 := Int.emod_nonneg at' hgn
            have h2 := Int.emod_lt_of_pos at' (b := (g.length : Int)) (by omega)
            exact ⟨(at' % (g.length : Int)).toNat, by omega, by omega⟩
          have hmo := byte_mod hat (g.length : Int)
          rw [hva] at hmo
          have hag : (a : Int) < (g.length : Int) := by omega
          have hya := int_at' (L := ys) (k := a) (by omega)
          have hyb := hO.ge a (by omega)
          have hcb := (hcle _ (getD_mem (xs := c.closest w) (k := a) (by omega))).1
          have hya1 : IntKind.i64.wrap (ys.getD a 0 + 1) = ys.getD a 0 + 1 := wrap64 (by omega)
          have hO2 := oth_succ hO (a := a) (by omega)
          generalize ys.getD a 0 = ya at *
          refine WpV.region ?_
          refine WpOps.take 5 (by simp only [go_sem, reduceCtorEq, Nat.reduceAdd, Nat.reduceMul, Nat.reduceSub, Nat.reduceLT, Nat.reduceLeDiff, Nat.reduceEqDiff, Nat.reduceBEq, Nat.reducePow, hgn, hmo]; rfl) ?_
          refine WpOps.take 3 (by simp only [go_sem, reduceCtorEq, Nat.reduceAdd, Nat.reduceMul, Nat.reduceSub, Nat.reduceLT, Nat.reduceLeDiff, Nat.reduceEqDiff, Nat.reduceBEq, Nat.reducePow, hib2, hag, hya, hya1]; rfl) ?_
          refine WpOps.take 1 (by simp only [go_sem, reduceCtorEq, Nat.reduceAdd, Nat.reduceMul, Nat.reduceSub, Nat.reduceLT, Nat.reduceLeDiff, Nat.reduceEqDiff, Nat.reduceBEq, Nat.reducePow, hib2, hag]; rfl) ?_
          refine WpOps.step (by rfl) (by rfl) (OpW.store (ty := 3) (cs := ys.map vint) (id := idp) (ver := verp) (off := a) rfl (by simp only [go_sem, reduceCtorEq, Nat.reduceAdd, Nat.reduceMul, Nat.reduceSub, Nat.reduceLT, Nat.reduceLeDiff, Nat.reduceEqDiff, Nat.reduceBEq, Nat.reducePow]; try rfl) (by simp only [go_sem, reduceCtorEq, Nat.reduceAdd, Nat.reduceMul, Nat.reduceSub, Nat.reduceLT, Nat.reduceLeDiff, Nat.reduceEqDiff, Nat.reduceBEq, Nat.reducePow]; try rfl) hib2 (by simp only [go_sem, reduceCtorEq, Nat.reduceAdd, Nat.reduceMul, Nat.reduceSub, Nat.reduceLT, Nat.reduceLeDiff, Nat.reduceEqDiff, Nat.reduceBEq, Nat.reducePow]; try rfl) (by exact Tryz.sz3) (by simp; omega) ?_)
          rw [Hp.set_set, show putC (ys.map vint) a [vint (ya + 1)] = (ys.set a (ya + 1)).map vint by rw [putC_set _ _ _ (by simp; omega), ← List.map_set]]
          refine WpOps.nil ⟨Marks.nil _, ?_⟩
          simp only [Vthen, VinBlock, if_true, if_false, Nat.reduceEqDiff, reduceCtorEq]
          refine WpV.regionE (by simp only [go_sem, reduceCtorEq, Nat.reduceAdd, Nat.reduceMul, Nat.reduceSub, Nat.reduceLT, Nat.reduceLeDiff, Nat.reduceEqDiff, Nat.reduceBEq, Nat.reducePow, hnj]; rfl) (Marks.nil _) ?_
          simp only [Vthen, VinBlock, if_true, if_false, Nat.reduceEqDiff, reduceCtorEq]
          exact ⟨by first | rfl | trivial, ⟨(j + 1, ys.set a (ya + 1)), by simp only; omega, hO2⟩, by simp only; omega, Sub.cons rfl rfl (Sub.cons rfl rfl (Sub.cons rfl rfl (Sub.cons rfl rfl (Sub.cons rfl rfl (Sub.cons rfl rfl (Sub.cons rfl rfl (Sub.cons rfl rfl (Sub.cons rfl rfl (Sub.nil _))))))))), by first | rfl | trivial⟩
        have hjm : j = m := by have := of_decide_eq_false ‹_›; omega
        subst hjm
        simp only [Vthen, VinBlock, if_true, if_false, Nat.reduceEqDiff, reduceCtorEq]
        refine WpV.pre (Frz.slice (t := 25) rfl hib2) (Marks.nil _) ?_
        rw [Hp.set_set, Hp.set_same _ _ _ hidp]
        rw [show AV.sl false false g.length (((ys.map vint).drop 0).take (g.length * 1)) = vints false false ys by rw [List.drop_zero, List.take_of_length_le (by simp; omega), show g.length = ys.length by omega]]
        have hcg : ∀ i, i < ys.length → 0 ≤ (c.closest w).getD i 0 := fun i hi => (hcle _ (getD_mem (xs := c.closest w) (k := i) (by omega))).1
        have hfo : FillsB c w ((c.closest w).sum + (j : Int)) ys := ⟨hyl, fun i hi => (hO.ge i hi).1, hO.sum⟩
        obtain ⟨ho1, ho2⟩ := hB.other ys hfo
        have hwo := wide_any H c hcV false fl false false w ys hw hyl (fun y hy => by
          obtain ⟨i, hi, rfl⟩ := List.getElem_of_mem hy
          have h1 := hO.ge i hi
          have h2 := hcg i hi
          rw [List.getD_eq_getElem?_getD (l := ys), List.getElem?_eq_getElem hi] at h1
          simp only [Option.getD_some] at h1
          omega)
        have hle := less_any H false false nlg clg ys g (by omega) (by omega)
        generalize c.wideF w ys = wo at *
        have hnl : ¬ (wo < (s : Int)) := by omega
        refine WpV.seq (WpV.region ?_)
        refine WpOps.take 3 (by simp only [go_sem, reduceCtorEq, Nat.reduceAdd, Nat.reduceMul, Nat.reduceSub, Nat.reduceLT, Nat.reduceLeDiff, Nat.reduceEqDiff, Nat.reduceBEq, Nat.reducePow]; rfl) ?_
        refine WpOps.step (by rfl) (by rfl) (OpW.callY rfl (by rfl) (by rfl) (by rfl) (enters_of Tryz.func15 (by kernel_rfl) rfl) ((hwo).mono ?_))
        rintro _ _ ⟨rfl, hH⟩
        replace hH := hH.symm
        subst hH
        refine WpOps.take 1 (by simp only [go_sem, reduceCtorEq, Nat.reduceAdd, Nat.reduceMul, Nat.reduceSub, Nat.reduceLT, Nat.reduceLeDiff, Nat.reduceEqDiff, Nat.reduceBEq, Nat.reducePow]; rfl) (WpOps.nil ⟨Marks.nil _, ?_⟩)
        simp only [Vthen, VinBlock, if_true, if_false, Nat.reduceEqDiff, reduceCtorEq]
        by_cases heq : wo = (s : Int)
        · rw [ho2 heq] at hle
          have heb : (wo == (s : Int)) = true := by simp [heq]
          refine WpV.seq (WpV.region ?_)
          refine WpOps.take 8 (by simp only [go_sem, reduceCtorEq, Nat.reduceAdd, Nat.reduceMul, Nat.reduceSub, Nat.reduceLT, Nat.reduceLeDiff, Nat.reduceEqDiff, Nat.reduceBEq, Nat.reducePow, hnl, heb]; rfl) ?_
          refine WpOps.take 2 (by simp only [go_sem, reduceCtorEq, Nat.reduceAdd, Nat.reduceMul, Nat.reduceSub, Nat.reduceLT, Nat.reduceLeDiff, Nat.reduceEqDiff, Nat.reduceBEq, Nat.reducePow, hnl, heb]; rfl) ?_
          refine WpOps.step (by rfl) (by rfl) (OpW.callY rfl (by rfl) (by rfl) (by rfl) (enters_of Tryz.func18 (by kernel_rfl) rfl) ((hle).mono ?_))
          rintro _ _ ⟨rfl, hH⟩
          replace hH := hH.symm
          subst hH
          refine WpOps.take 2 (by simp only [go_sem, reduceCtorEq, Nat.reduceAdd, Nat.reduceMul, Nat.reduceSub, Nat.reduceLT, Nat.reduceLeDiff, Nat.reduceEqDiff, Nat.reduceBEq, Nat.reducePow, hnl, heb]; rfl) (WpOps.nil ⟨Marks.nil _, ?_⟩)
          simp only [Vthen, VinBlock, if_true, if_false, Nat.reduceEqDiff, reduceCtorEq]
          refine WpV.cond rfl (fun hb => by cases hb) (fun hb => WpV.skip ?_)
          simp only [Vthen, VinBlock, if_true, if_false, Nat.reduceEqDiff, reduceCtorEq]
          refine WpV.regionE (by simp only [go_sem, reduceCtorEq, Nat.reduceAdd, Nat.reduceMul, Nat.reduceSub, Nat.reduceLT, Nat.reduceLeDiff, Nat.reduceEqDiff, Nat.reduceBEq, Nat.reducePow, hnkk]; rfl) (Marks.nil _) ?_
          simp only [Vthen, VinBlock, if_true, if_false, Nat.reduceEqDiff, reduceCtorEq]
          exact ⟨by first | rfl | trivial, hk2', .cons rfl rfl (.cons rfl rfl (.cons rfl rfl (.cons rfl rfl (.cons rfl rfl (.cons rfl rfl (.cons rfl rfl (.nil _))))))), by first | rfl | trivial⟩
        · have heb : (wo == (s : Int)) = false := by simp [heq]
          refine WpV.seq (WpV.region ?_)
          refine WpOps.take 8 (by simp only [go_sem, reduceCtorEq, Nat.reduceAdd, Nat.reduceMul, Nat.reduceSub, Nat.reduceLT, Nat.reduceLeDiff, Nat.reduceEqDiff, Nat.reduceBEq, Nat.reducePow, hnl, heb]; rfl) ?_
          refine WpOps.take 5 (by simp only [go_sem, reduceCtorEq, Nat.reduceAdd, Nat.reduceMul, Nat.reduceSub, Nat.reduceLT, Nat.reduceLeDiff, Nat.reduceEqDiff, Nat.reduceBEq, Nat.reducePow, hnl, heb]; rfl) (WpOps.nil ⟨Marks.nil _, ?_⟩)
          simp only [Vthen, VinBlock, if_true, if_false, Nat.reduceEqDiff, reduceCtorEq]
          refine WpV.cond rfl (fun hb => by cases hb) (fun hb => WpV.skip ?_)
          simp only [Vthen, VinBlock, if_true, if_false, Nat.reduceEqDiff, reduceCtorEq]
          refine WpV.regionE (by simp only [go_sem, reduceCtorEq, Nat.reduceAdd, Nat.reduceMul, Nat.reduceSub, Nat.reduceLT, Nat.reduceLeDiff, Nat.reduceEqDiff, Nat.reduceBEq, Nat.reducePow, hnkk]; rfl) (Marks.nil _) ?_
          simp only [Vthen, VinBlock, if_true, if_false, Nat.reduceEqDiff, reduceCtorEq]
          exact ⟨by first | rfl | trivial, hk2', .cons rfl rfl (.cons rfl rfl (.cons rfl rfl (.cons rfl rfl (.cons rfl rfl (.cons rfl rfl (.cons rfl rfl (.nil _))))))), by first | rfl | trivial⟩
      · simp only [Vthen, VinBlock, if_true, if_false, Nat.reduceEqDiff, reduceCtorEq]
        exact ⟨by first | rfl | trivial, by first | rfl | trivial, Sub.cons rfl rfl (Sub.cons rfl rfl (Sub.cons rfl rfl (Sub.cons rfl rfl (Sub.nil _))))⟩
  have hig := ints_any H nlg clg g (by omega)
  have hLk := Looks_any H c.own (own_valid hcV) false (decide (w.length = 0)) false (decide (g.length = 0)) w g (Cs.word_iff.2 hw) (by
    unfold gapsB
    rw [Bool.and_eq_true, insB_iff]
    exact ⟨by simp only [beq_iff_eq]; omega, fun x hx => hgb x hx⟩)
  rw [show c.own.looksF w g = c.looksF w g from rfl, hB.spread] at hLk
  have hLl : (c.looksF w g).length = g.length := by rw [Cs.looks_len hgl, hgl]
  have hLat : ∀ i, i < g.length → (c.looksF w g).getD i 0 = g.getD i 0 + (c.mores w).getD i 0 := fun i hi => by rw [Cs.looks_at hgl (by omega), Int.add_comm]
  have hge : ∀ i, i < g.length → c.least ≤ g.getD i 0 + (c.mores w).getD i 0 := fun i hi => by
    have h1 := hB.fills.ge i hi
    rw [Cs.close_at c w (by omega)] at h1
    unfold Cs.close at h1
    split at h1 <;> omega
  have hLt : ∀ i, i < g.length → ((c.looksF w g).map vint)[i]? = some (vint (g.getD i 0 + (c.mores w).getD i 0)) := fun i hi => by
    rw [← hLat i hi]; exact int_at' (by omega)
  generalize (true && decide ((c.looksF w g).length = 0)) = f1 at hLk
  generalize decide ((c.looksF w g).length = 0) = f2 at hLk
  generalize c.looksF w g = lk at *
  have ll : (((lk.length : Nat) : Int) != ((g.length : Nat) : Int)) = false := by rw [hLl]; simp
  refine WpV.seq (WpV.region ?_)
  refine WpOps.take 1 (by simp only [go_sem, reduceCtorEq, Nat.reduceAdd, Nat.reduceMul, Nat.reduceSub, Nat.reduceLT, Nat.reduceLeDiff, Nat.reduceEqDiff, Nat.reduceBEq, Nat.reducePow]; rfl) ?_
  refine WpOps.step (by rfl) (by rfl) (OpW.callY rfl (by rfl) (by rfl) (by rfl) (enters_of Tryz.func11 (by kernel_rfl) rfl) ((hdn).mono ?_))
  rintro _ _ ⟨rfl, hH⟩
  replace hH := hH.symm
  subst hH
  refine WpOps.take 1 (by simp only [go_sem, reduceCtorEq, Nat.reduceAdd, Nat.reduceMul, Nat.reduceSub, Nat.reduceLT, Nat.reduceLeDiff, Nat.reduceEqDiff, Nat.reduceBEq, Nat.reducePow]; rfl) ?_
  refine WpOps.step (by rfl) (by rfl) (OpW.callY rfl (by rfl) (by rfl) (by rfl) (enters_of Tryz.func12 (by kernel_rfl) rfl) ((hiw).mono ?_))
  rintro _ _ ⟨rfl, hH⟩
  replace hH := hH.symm
  subst hH
  refine WpOps.take 1 (by simp only [go_sem, reduceCtorEq, Nat.reduceAdd, Nat.reduceMul, Nat.reduceSub, Nat.reduceLT, Nat.reduceLeDiff, Nat.reduceEqDiff, Nat.reduceBEq, Nat.reducePow]; rfl) ?_
  refine WpOps.step (by rfl) (by rfl) (OpW.callY rfl (by rfl) (by rfl) (by rfl) (enters_of Tryz.func12 (by kernel_rfl) rfl) ((hig).mono ?_))
  rintro _ _ ⟨rfl, hH⟩
  replace hH := hH.symm
  subst hH
  refine WpOps.step (by rfl) (by rfl) (OpW.callY rfl (by rfl) (by rfl) (by rfl) (enters_of Tryz.func19 (by kernel_rfl) rfl) ((hLk).mono ?_))
  rintro _ _ ⟨rfl, hH⟩
  replace hH := hH.symm
  subst hH
  refine WpOps.take 7 (by simp only [go_sem, reduceCtorEq, Nat.reduceAdd, Nat.reduceMul, Nat.reduceSub, Nat.reduceLT, Nat.reduceLeDiff, Nat.reduceEqDiff, Nat.reduceBEq, Nat.reducePow]; rfl) (WpOps.nil ⟨Marks.nil _, ?_⟩)
  simp only [Vthen, VinBlock, if_true, if_false, Nat.reduceEqDiff, reduceCtorEq]
  refine WpV.seq ?_
  refine WpV.seq (WpV.region ?_)
  refine WpOps.take 8 (by simp only [go_sem, reduceCtorEq, Nat.reduceAdd, Nat.reduceMul, Nat.reduceSub, Nat.reduceLT, Nat.reduceLeDiff, Nat.reduceEqDiff, Nat.reduceBEq, Nat.reducePow, n0, ss, ll]; rfl) ?_
  refine WpOps.take 6 (by simp only [go_sem, reduceCtorEq, Nat.reduceAdd, Nat.reduceMul, Nat.reduceSub, Nat.reduceLT, Nat.reduceLeDiff, Nat.reduceEqDiff, Nat.reduceBEq, Nat.reducePow, n0, ss, ll]; rfl) (WpOps.nil ⟨Marks.nil _, ?_⟩)
  simp only [Vthen, VinBlock, if_true, if_false, Nat.reduceEqDiff, reduceCtorEq]
  refine WpV.cond rfl (fun hb => by cases hb) (fun hb => WpV.skip ?_)
  simp only [Vthen, VinBlock, if_true, if_false, Nat.reduceEqDiff, reduceCtorEq]
  refine WpV.seq ?_
  refine WpV.seq (WpV.regionE (by simp only [go_sem, reduceCtorEq, Nat.reduceAdd, Nat.reduceMul, Nat.reduceSub, Nat.reduceLT, Nat.reduceLeDiff, Nat.reduceEqDiff, Nat.reduceBEq, Nat.reducePow]; rfl) (Marks.nil _) ?_)
  simp only [Vthen, VinBlock, if_true, if_false, Nat.reduceEqDiff, reduceCtorEq]
  refine WpV.block (WpV.loopN g.length (fun k => [(7, .cp c.cells 0), (8, vints false fl w), (13, vints nlg clg g), (30, vints f1 f2 lk), (33, vint k)]) (fun _ => H) ?_ rfl ?_)
  · exact .cons rfl rfl (.cons rfl rfl (.cons rfl rfl (.cons rfl rfl (.cons rfl rfl (.nil _)))))
  · intro k hk
    refine WpV.seq ?_
    refine WpV.seq (WpV.regionE (by simp only [go_sem, reduceCtorEq, Nat.reduceAdd, Nat.reduceMul, Nat.reduceSub, Nat.reduceLT, Nat.reduceLeDiff, Nat.reduceEqDiff, Nat.reduceBEq, Nat.reducePow]; rfl) (Marks.nil _) ?_)
    simp only [Vthen, VinBlock, if_true, if_false, Nat.reduceEqDiff, reduceCtorEq]
    refine WpV.cond rfl (fun hb => WpV.skip ?_) (fun hb => WpV.exit ?_)
    · have hltl : (k : Int) < (lk.length : Int) := of_decide_eq_true ‹_›
      have hlt' : k < g.length := by omega
      have hlt : (k : Int) < (g.length : Int) := by omega
      have hgk := hgt k hlt'
      have hlk := hLt k hlt'
      have hgek := hge k hlt'
      have hlo := look_any H c hcV false fl w hw k (by omega) (g.getD k 0) (by have := hgb _ (getD_mem (xs := g) hlt'); omega)
      have hnk : IntKind.i64.wrap ((k : Int) + 1) = ((k + 1 : Nat) : Int) := by rw [wrap64 (by omega)]; rfl
      generalize g.getD k 0 + (c.mores w).getD k 0 = y at hlk hgek hlo
      have hyy : (y != y) = false := by simp
      have hyl : ¬ (y < c.least) := by omega
      simp only [Vthen, VinBlock, if_true, if_false, Nat.reduceEqDiff, reduceCtorEq]
      refine WpV.seq (WpV.block ?_)
      refine WpV.seq (WpV.regionD Tryz.mixed (by kernel_rfl) (by kernel_rfl) ?_)
      refine LexD.take 8 (by rfl) (by simp only [go_sem, reduceCtorEq, Nat.reduceAdd, Nat.reduceMul, Nat.reduceSub, Nat.reduceLT, Nat.reduceLeDiff, Nat.reduceEqDiff, Nat.reduceBEq, Nat.reducePow, hlt, hltl, hgk, hlk, hyy, hyl]; rfl) ?_
      refine LexD.take 3 (by rfl) (by simp only [go_sem, reduceCtorEq, Nat.reduceAdd, Nat.reduceMul, Nat.reduceSub, Nat.reduceLT, Nat.reduceLeDiff, Nat.reduceEqDiff, Nat.reduceBEq, Nat.reducePow, hlt, hltl, hgk, hlk, hyy, hyl]; rfl) ?_
      refine LexD.step (by rfl) (by rfl) (OpW.callY rfl (by rfl) (by rfl) (by rfl) (enters_of Tryz.func20 (by kernel_rfl) rfl) (hlo)) ?_
      refine LexD.take 8 (by rfl) (by simp only [go_sem, reduceCtorEq, Nat.reduceAdd, Nat.reduceMul, Nat.reduceSub, Nat.reduceLT, Nat.reduceLeDiff, Nat.reduceEqDiff, Nat.reduceBEq, Nat.reducePow, hlt, hltl, hgk, hlk, hyy, hyl]; rfl) ?_
      refine LexD.take 2 (by rfl) (by simp only [go_sem, reduceCtorEq, Nat.reduceAdd, Nat.reduceMul, Nat.reduceSub, Nat.reduceLT, Nat.reduceLeDiff, Nat.reduceEqDiff, Nat.reduceBEq, Nat.reducePow, hlt, hltl, hgk, hlk, hyy, hyl]; rfl) (LexD.nilE ⟨Marks.nil _, ?_⟩)
      simp only [Vthen, VinBlock, if_true, if_false, Nat.reduceEqDiff, reduceCtorEq]
      refine WpV.cond rfl (fun hb => by cases hb) (fun hb => WpV.skip ?_)
      simp only [Vthen, VinBlock, if_true, if_false, Nat.reduceEqDiff, reduceCtorEq]
      refine WpV.regionE (by simp only [go_sem, reduceCtorEq, Nat.reduceAdd, Nat.reduceMul, Nat.reduceSub, Nat.reduceLT, Nat.reduceLeDiff, Nat.reduceEqDiff, Nat.reduceBEq, Nat.reducePow, hnk]; rfl) (Marks.nil _) ?_
      simp only [Vthen, VinBlock, if_true, if_false, Nat.reduceEqDiff, reduceCtorEq]
      exact ⟨by first | rfl | trivial, hlt', .cons rfl rfl (.cons rfl rfl (.cons rfl rfl (.cons rfl rfl (.cons rfl rfl (.nil _))))), by first | rfl | trivial⟩
    · simp only [Vthen, VinBlock, if_true, if_false, Nat.reduceEqDiff, reduceCtorEq]
      refine WpV.seq (WpV.region ?_)
      refine WpOps.step (by rfl) (by rfl) (OpW.callY rfl (by rfl) (by rfl) (by rfl) (enters_of Tryz.func17 (by kernel_rfl) rfl) ((known_any H).mono ?_))
      rintro _ _ ⟨rfl, hH⟩
      replace hH := hH.symm
      subst hH
      refine WpOps.take 1 (by simp only [go_sem, reduceCtorEq, Nat.reduceAdd, Nat.reduceMul, Nat.reduceSub, Nat.reduceLT, Nat.reduceLeDiff, Nat.reduceEqDiff, Nat.reduceBEq, Nat.reducePow]; rfl) (WpOps.nil ⟨Marks.nil _, ?_⟩)
      simp only [Vthen, VinBlock, if_true, if_false, Nat.reduceEqDiff, reduceCtorEq]
      refine WpV.ret ⟨Marks.nil _, List.nodup_nil, _, by simp only [Tryz.results3]; simp only [go_sem, reduceCtorEq, Nat.reduceAdd, Nat.reduceMul, Nat.reduceSub, Nat.reduceLT, Nat.reduceLeDiff, Nat.reduceEqDiff, Nat.reduceBEq, Nat.reducePow]; rfl, ?_⟩
      exact ⟨rfl, rfl⟩
end Go.Proofs.YtaekibilldjnmaaGreat
namespace Go.Proofs.YtaekibilldjnmaaGreat
open Go.ChangeShapes Go.WideShapes Go.ChangeAt Go.RowKit Go.Deep

theorem Tryz.params3 : Tryz.f3.params = #[26, 27, 28] := by kernel_rfl
theorem Tryz.cells27 : Tryz.prog.cellsOf 27 = 1 := by kernel_rfl
theorem Tryz.cells28 : Tryz.prog.cellsOf 28 = 2 * 1 := by kernel_rfl
theorem Tryz.cellTypes28 : Tryz.prog.cellTypes Tryz.prog.depth 28 = some [27, 27] := by kernel_rfl
set_option maxRecDepth 100000 in
theorem slices_arg {Hh : Type} {enc : TypeId × Value → Hh} {w : World} {base : Nat} {spare : Nat → Bool} {held : Bool} {r : Reach} {b0 : Nat} {v : Value} {d : DataW Hh} {p : List MemPlace} (hv : Value.okWide Tryz.prog w r b0 28 v) (h : DataW.Trod enc Tryz.prog w base spare held 28 v d p) :
    ∃ (nl0 nl1 : Bool) (l0 l1 : List Int), (∀ n ∈ l0, Byte n) ∧ (∀ n ∈ l1, Byte n) ∧ l0.length ≤ 9223372036854775807 ∧ l1.length ≤ 9223372036854775807 ∧ Den ρ0 w (.agg [.sl nl0 false l0.length (l0.map vbyte), .sl nl1 false l1.length (l1.map vbyte)]) v := by
  simp only [Value.okWide, Tryz.underlying28] at hv
  obtain ⟨cs, rfl, hsz, ts, hts, -, hcell⟩ := hv
  rw [Tryz.cellTypes28] at hts
  cases hts
  rw [Tryz.cells28] at hsz
  obtain ⟨fuel, hf⟩ := h
  obtain ⟨xs, n, _, _, hl, hxl, hel⟩ := DataW.trod_array Tryz.underlying28 hf
  have f0 := hel 0 (by omega)
  have f1 := hel 1 (by omega)
  rw [Tryz.cells27, List.getElem?_eq_getElem (by omega)] at f0 f1
  have hsp : ∀ i, i < 2 → ∀ a len cap, ((cs.toList.drop (i * 1)).take 1) = [.slice (some a) len cap] → a.spot = none := fun i hi a len cap e => by
    have h6 : cs[i]? = some (.slice (some a) len cap) := by
      have : ((cs.toList.drop (i * 1)).take 1)[0]? = some (.slice (some a) len cap) := by rw [e]; rfl
      simpa using this
    obtain ⟨u, hu, hk⟩ := hcell i _ h6
    have hu' : u = 27 := by
      rcases (show i = 0 ∨ i = 1 by omega) with rfl | rfl <;> simpa using hu.symm
    subst hu'
    exact slice_spot Tryz.underlying27 hk
  obtain ⟨nl0, l0, a1, a2, a3⟩ := rd_slice Tryz.underlying27 Tryz.cells5 (by decide) (fun _ => rfl) rd_byte (hsp 0 (by omega)) f0
  obtain ⟨nl1, l1, b1, b2, b3⟩ := rd_slice Tryz.underlying27 Tryz.cells5 (by decide) (fun _ => rfl) rd_byte (hsp 1 (by omega)) f1
  rw [flat_bytes] at a3 b3
  refine ⟨nl0, nl1, l0, l1, a1, b1, by unfold maxLen at a2; omega, by unfold maxLen at b2; omega, CellsD.agg ?_⟩
  refine CellsD.append (a := [.sl nl0 false l0.length (l0.map vbyte)]) (b := [.sl nl1 false l1.length (l1.map vbyte)]) ?_ ?_
  · simpa using a3
  · have : (cs.toList.drop 1).take 1 = cs.toList.drop 1 := List.take_of_length_le (by simp; omega)
    rw [show 1 * 1 = 1 from rfl, this] at b3; exact b3

set_option maxRecDepth 100000 in
theorem letterLaid_lifted (os : Os) (started : os.Started) (H : Type) (enc : TypeId × Value → H) :
    ReturnsInHanded {} Tryz.checked os 3 .any (Rows.letterLaidSpec.pre6 enc Tryz.prog Tryz.f3 Rows.letterLaidRow.domain false) (Rows.letterLaidSpec.post enc Tryz.prog Tryz.f3 false true false false) := by
  refine returnsInHanded_of_change (C := Tryz.checked) Tryz.ownKnob started (by kernel_rfl) Tryz.func3
    (ChangeSpec.witness6 (enc := enc) (C := Tryz.checked) false ⟨#[], #[.agg #[.int .u8 0, .int .u8 0, .int .u8 0, .int .u8 0, .int .u8 0, .int .u8 0, .slice none 0 0, .int .u8 0, .int .u8 0, .int .u8 0], .slice none 0 0, .agg #[.slice none 0 0, .slice none 0 0]], []⟩ 8 (by kernel_rfl) (by kernel_rfl) (by kernel_rfl) (by kernel_rfl)) ?_
  intro W base args ds gs before hval0 hW hcnd _
  have hval : ∀ (j : Nat) t v, Tryz.f3.params[j]? = some t → args[j]? = some v → Value.okWide Tryz.prog W .any base t v := hval0
  have hW' := hW
  obtain ⟨p, q, hA0, hV, rfl, hfz, hnd⟩ := hW
  have hA : DataW.TrodAll enc Tryz.prog W 0 (fun _ => true) true Tryz.f3.params.toList args.toList ds p := hA0
  rw [Tryz.params3] at hA hval
  obtain ⟨v0, vs0, d0, ds0, p0, q0, hargs, rfl, rfl, h0, r0⟩ := trodAll_cons hA
  obtain ⟨v1, vs1, d1, ds1, p1, q1, rfl, rfl, rfl, h1, r1⟩ := trodAll_cons r0
  obtain ⟨v2, vs2, d2, ds2, p2, q2, rfl, rfl, rfl, h2, r2⟩ := trodAll_cons r1
  obtain ⟨rfl, rfl, rfl⟩ := trodAll_nil r2
  obtain rfl : args = #[v0, v1, v2] := by cases args; simp_all
  obtain ⟨rfl, rfl⟩ := trodVars_none hV
  have lt0 : ∀ x ∈ p0, x.block < W.heap.size := by obtain ⟨m, hm⟩ := h0; exact DataW.trod_lt m _ _ _ hm
  have lt1 : ∀ x ∈ p1, x.block < W.heap.size := by obtain ⟨m, hm⟩ := h1; exact DataW.trod_lt m _ _ _ hm
  have lt2 : ∀ x ∈ p2, x.block < W.heap.size := by obtain ⟨m, hm⟩ := h2; exact DataW.trod_lt m _ _ _ hm
  obtain ⟨x, hx, hd0⟩ := type_read (hval 0 26 v0 rfl rfl) h0
  obtain ⟨nl, l, hlb, hll, hd1⟩ := bytes_arg (hval 1 27 v1 rfl rfl) h1
  obtain ⟨nl0, nl1, l0, l1, hb0, hb1, hm0, hm1, hd2⟩ := slices_arg (hval 2 28 v2 rfl rfl) h2
  clear hA0 hval0
  refine Calls.mono (Laid_any (fun _ => none) x hx nl false l hll (fun n hn => by have := hlb n hn; unfold Byte at this; omega) nl0 false nl1 false l0 l1 hm0 hm1 hb0 hb1 ρ0 W #[v0, v1, v2] rfl ?_ (ρ0_hd W)) ?_
  · rw [DenL]
    refine ⟨⟨v0, rfl, hd0⟩, ?_⟩
    rw [DenL]
    refine ⟨⟨v1, rfl, hd1⟩, ?_⟩
    rw [DenL]
    refine ⟨⟨v2, rfl, hd2⟩, ?_⟩
    rw [DenL]; trivial
  rintro e W' ⟨v, ρ', x', H', rfl, qx, hvd, -, rfl, -⟩
  rw [Den] at hvd
  subst hvd
  have bel' : Below W.heap.size W W' := ⟨qx.io.1, qx.io.2.2, qx.io.2.1, qx.size, fun k hk => (qx.free k hk (ρ0_free k)).2⟩
  exact ⟨_, rfl, _, _, _, [], _, [], hW', trodAll_mk1 (shut_bool Tryz.underlying4 _), (trodAll_cons_mk (Below.trod Tryz.laidOut (by kernel_rfl) (of_decide_eq_true (by kernel_rfl)) h0 bel' lt0) (trodAll_cons_mk (Below.trod Tryz.laidOut (by kernel_rfl) (of_decide_eq_true (by kernel_rfl)) h1 bel' lt1) (trodAll_cons_mk (Below.trod Tryz.laidOut (by kernel_rfl) (of_decide_eq_true (by kernel_rfl)) h2 bel' lt2) trodAll_mk0))), rfl, bel'.frame _, fun h => by cases h⟩

theorem letterLaid_over : Rows.letterLaidRow.holds Tryz.pinned (OpenSpec.ofChange Rows.letterLaidSpec) :=
  OpenClaim.holds_of_wide 3 Tryz.f3 rfl rfl rfl rfl rfl rfl rfl ⟨rfl, rfl, rfl, rfl, rfl⟩ rfl rfl rfl rfl rfl (by kernel_rfl) Tryz.func3 (by kernel_rfl)
    (of_decide_eq_true (by kernel_rfl)) (by unfold Func.isWrapper; first | (rw [if_pos (by decide +kernel)]; kernel_rfl) | (rw [if_neg (by decide +kernel)]; exact ⟨rfl, rfl⟩))
    (fun os started H enc _ => letterLaid_lifted os started H enc)

/-- The statement. -/
theorem letterLaid_holds : Rows.LetterLaidSaid := letterLaid_over
#print axioms letterLaid_holds
end Go.Proofs.YtaekibilldjnmaaGreat
