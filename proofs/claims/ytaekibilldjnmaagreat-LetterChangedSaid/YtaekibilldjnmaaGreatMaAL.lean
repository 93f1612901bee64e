/- LetterChanged: for every case in bytes, every word in bytes and every three pairs of bytes the function returns true, and what it was handed reads as it did. No conditions. -/
import Derived.Test.YtaekibilldjnmaaGreatMaAK
import Derived.Test.YtaekibilldjnmaaGreatRows
import Derived.WalkKit
import Derived.ProofKit
import Derived.OpenShut
import Derived.ShutString
import Derived.ChangeOld
import Derived.Below
set_option linter.unusedVariables false
set_option linter.unusedSimpArgs false
set_option linter.unusedSectionVars false
namespace Go.Proofs.YtaekibilldjnmaaGreat
open Go.Proofs

theorem WpV.seqS {P : Program} {r : Option Nat} {N : Nat} {x y : Code} {Q : Exit → Fr → List Nat → Hp → Prop} {fr : Fr} {D : List Nat} {H : Hp} (S : Fr) (hx : WpV P r N x (Vthen (fun fr' D' H' => D' = D ∧ H' = H ∧ Sub S fr') Q) fr D H) (hy : WpV P r N y Q S D H) : WpV P r N (x.seq y) Q fr D H := by
  refine WpV.seq (hx.mono fun e fr' D' H' h => ?_)
  cases e with
  | normal => obtain ⟨rfl, rfl, hs⟩ := h; exact hy.weaken hs
  | _ => exact h
theorem need_le {c : Cs} (hc : c.Fair) {w : List Int} (hw : c.Word w) : c.needF [w] ≤ 340 ∧ (c.closest w).sum ≤ 90 := by
  have h1 := sum_bound (xs := c.closest w) (a := 0) (b := 15) (Cs.closest_le hc w)
  have h2 := sum_bound (xs := w.map c.widthOf) (a := 0) (b := 30) (fun y hy => by
    obtain ⟨x, hx, rfl⟩ := List.mem_map.1 hy; exact Cs.width_le hc.ws (hw.2.2 x hx))
  have h3 := hc.rim
  have h4 := hw.2.1
  rw [Cs.closest_len] at h1
  rw [List.length_map] at h2
  rw [Cs.need_one]
  unfold Cs.need1 Cs.longF
  omega
theorem need_pos {c : Cs} (hc : c.Valid) {w : List Int} (hw : c.Word w) : 1 ≤ c.needF [w] := by
  have hF := hc.fair
  have hBs := Cs.base_iff.1 hc.base
  have h1 := sum_bound (xs := c.closest w) (a := 0) (b := 15) (Cs.closest_le hF w)
  have h2 : 1 * ((w.map c.widthOf).length : Int) ≤ (w.map c.widthOf).sum := (sum_bound (xs := w.map c.widthOf) (a := 1) (b := 30) (fun y hy => by
    obtain ⟨x, hx, rfl⟩ := List.mem_map.1 hy
    have hxl := hw.2.2 x hx
    have hto : x.toNat < c.ws.length := by omega
    have : c.widthOf x = c.ws[x.toNat] := by simp [Cs.widthOf, List.getD_eq_getElem?_getD, hto]
    rw [this]
    exact hBs.ws _ (List.getElem_mem _))).1
  have h3 := hF.rim
  have h4 := hw.1
  rw [Cs.closest_len] at h1
  rw [List.length_map] at h2
  rw [Cs.need_one]
  unfold Cs.need1 Cs.longF
  omega
theorem has_bld {B Hc : Hp} {ib : Nat} {ob : Ob} {m : Nat} {nl : Bool} {xs : List Int} {v : AV} (hl : xs.length < 1000000) (hm : xs.length = m) (h : Bld B 3 1 nl m (xs.map vint) v Hc) (hi : Hc ib = none) (n : Int) :
    CallV Tryz.prog 24 [v, vint n] (Hc.set ib (some ob)) (fun r H' => r = .bool (contB xs n) ∧ H' = Hc.set ib (some ob)) := by
  subst hm
  rw [← any_cont]
  obtain ⟨-, ⟨h0, hx, rfl, rfl⟩ | ⟨-, id, ver, -, rfl, rfl⟩⟩ := h
  · have : xs = [] := by simpa using hx
    subst this
    exact has_any _ nl true [] (by simp) n
  · have hne : id ≠ ib := fun e' => by rw [← e', Hp.set_eq] at hi; cases hi
    refine CallV.lend (has_any _ false false xs hl n) (.cons ?_ (.cons (Seen.same _ _) .nil)) (Plain.bool _)
    have := Seen.rs (H := (B.set id (some (.cells 3 ver (xs.map vint)))).set ib (some ob)) (id := id) (ver := ver) (sz := 1) (off := 0) (len := xs.length) (clip := false) (ty := 3) (cs := xs.map vint) (by rw [Hp.set_ne _ _ hne]; exact Hp.set_eq _ _ _)
    simpa [vints, List.take_of_length_le] using this
theorem chg_set {c : Cs} {w g bad ch ch' : List Int} (h : Chg c w g bad ch) {a : Nat} (ha : a < bad.length) {y : Int} (hy : 0 ≤ y ∧ y ≤ 400) (hin : (a : Int) ∈ ch') (hs : ∀ x ∈ ch, x ∈ ch') (hi : ∀ x ∈ ch', x ∈ ch ∨ x = (a : Int)) : Chg c w g (bad.set a y) ch' := by
  refine ⟨by simp [h.len], fun i hi' => ?_, fun x hx => ?_, fun i hi' hn => ?_⟩
  · rw [getD_set ha]
    split
    · exact hy.imp_right id
    · exact h.le i (by simpa using hi')
  · rw [List.length_set]
    rcases hi x hx with h1 | rfl
    · exact h.ins x h1
    · omega
  · rw [getD_set ha]
    split
    · rename_i e; exact absurd (e ▸ hin) hn
    · exact h.same i (by simpa using hi') (fun hm => hn (hs _ hm))
theorem fold_bd (f : Int → Int → Int) (hf : ∀ a b, f a b = a ∨ f a b = b) {A B : Int} : ∀ (xs : List Int) (a : Int), (A ≤ a ∧ a ≤ B) → (∀ x ∈ xs, A ≤ x ∧ x ≤ B) → A ≤ xs.foldl f a ∧ xs.foldl f a ≤ B := fold_in f hf
theorem loF_le {xs : List Int} (h : ∀ x ∈ xs, -5 ≤ x ∧ x ≤ 405) : -5 ≤ loF xs ∧ loF xs ≤ 405 := by
  cases xs with
  | nil => simp [loF]
  | cons x ys => exact fold_bd fmin (fun a b => by unfold fmin; split <;> simp) ys x (h x (by simp)) (fun y hy => h y (by simp [hy]))
theorem hiF_le {xs : List Int} (h : ∀ x ∈ xs, -5 ≤ x ∧ x ≤ 405) : -5 ≤ hiF xs ∧ hiF xs ≤ 405 := by
  cases xs with
  | nil => simp [hiF]
  | cons x ys => exact fold_bd fmax (fun a b => by unfold fmax; split <;> simp) ys x (h x (by simp)) (fun y hy => h y (by simp [hy]))
theorem fewest_nil (p : List Int → Bool) (h : p [] = true) : fewestF [] p = some [] := by
  obtain ⟨b, h1, h2, -⟩ := fewest_spec [] p ⟨[], by simp, by simpa [withoutN] using h⟩
  have : b = [] := by simpa [numsF] using h2
  rw [h1, this]

set_option maxRecDepth 100000 in
set_option maxHeartbeats 8000000 in
theorem Changed_any (H : Hp) (x : TyA) (hx : x.Ok) (nl clip : Bool) (l : List Int) (hl : l.length ≤ 9223372036854775807) (hlb : ∀ n ∈ l, 0 ≤ n ∧ n ≤ 255) (v : List Int) (hv : v.length = 6) (hvb : ∀ n ∈ v, Byte n) :
    CallV Tryz.prog 7 [.agg x.cells, .sl nl clip l.length (l.map vbyte), .agg (v.map vbyte)] H (fun r H' => r = .bool true ∧ H' = H) := by
  have hone : (x.cells.all AV.one) = true := by
    unfold TyA.cells
    rw [List.all_append]
    simp [AV.one]
  have hone2 : ((v.map vbyte).all AV.one) = true := by simp [AV.one]
  have hmk := made_any H x hx
  have hcV := made_valid hx
  have hc6 := made_len hx
  have htk : x.cells.take 10 = x.cells := List.take_of_length_le (by unfold TyA.cells; simp [hx.wd])
  have hlen : x.cells.length = 10 := by unfold TyA.cells; simp [hx.wd]
  generalize x.made = c at hmk hcV hc6
  have hw := wordF_word hlb hc6
  have hwd := word_bytes H nl clip l hl hlb
  generalize hfl : decide (l.length = 0) = fl at hwd
  generalize wordF l = w at hw hwd
  have hwl := hw.2.1
  have hw1 := hw.1
  have hF := hcV.fair
  have hvc : ∀ k, k < 6 → (v.map vbyte)[k]? = some (vbyte (v.getD k 0)) ∧ Byte (v.getD k 0) := fun k hk => by
    have : k < v.length := by omega
    refine ⟨?_, hvb _ (getD_mem this)⟩
    simp [List.getD_eq_getElem?_getD, this]
  have hvl : (v.map vbyte).length = 6 := by simp [hv]
  obtain ⟨hv4, b4⟩ := hvc 4 (by omega)
  obtain ⟨hv5, b5⟩ := hvc 5 (by omega)
  generalize v.map vbyte = vc at *
  generalize v.getD 4 0 = v4 at hv4 b4
  generalize v.getD 5 0 = v5 at hv5 b5
  have hnd := needs_any H c hcV false fl w hw
  obtain ⟨hn340, hcl90⟩ := need_le hF hw
  have hn1 := need_pos hcV hw
  have hgo : c.own.needF [w] = c.needF [w] := rfl
  have hrmE : c.roomF w (c.needF [w] + v4 % 30) = (c.closest w).sum + v4 % 30 := by
    rw [Cs.need_one]; unfold Cs.roomF Cs.need1 Cs.longF; simp only [List.sum_nil]; omega
  generalize hN : c.needF [w] + v4 % 30 = n at hrmE
  have hn : 1 ≤ n ∧ n ≤ 400 := by omega
  have a2 : (0 : Int) ≤ 2 ∧ (2 : Int) < ((3 : Nat) : Int) := by decide
  have z0 : (0 : Int) ≤ 0 ∧ (0 : Int) < ((2 : Nat) : Int) := by decide
  have z1 : (0 : Int) ≤ 1 ∧ (1 : Int) < ((2 : Nat) : Int) := by decide
  have t0 : Int.toNat 0 = 0 := rfl
  have t1 : Int.toNat 1 = 1 := rfl
  have t2 : Int.toNat 2 = 2 := rfl
  have w4 := byte_wrap b4
  have m4 := byte_mod b4 30
  have w5 := byte_wrap b5
  have s4 : IntKind.i64.wrap (c.needF [w] + v4 % 30) = n := by rw [wrap64 (by omega)]; exact hN
  have hiw := ints_any H false fl w (by omega)
  have hdn := own_any H c hcV.ok
  have hly := Lay_any H c.own (own_valid hcV) false (decide (w.length = 0)) w n (Cs.word_iff.2 hw) hn
  unfold Cs.LayV at hly
  rw [if_pos (by rw [hgo]; omega)] at hly
  refine CallV.body Tryz.func7 rfl Tryz.ntmps7 (by rfl) ?_
  refine WpV.seq (WpV.regionE (by simp only [go_sem, reduceCtorEq, Nat.reduceAdd, Nat.reduceMul, Nat.reduceSub, Nat.reduceLT, Nat.reduceLeDiff, Nat.reduceEqDiff, Nat.reduceBEq, Nat.reducePow, hone, hone2]; rfl) (Marks.nil _) ?_)
  simp only [Vthen, VinBlock, if_true, if_false, Nat.reduceEqDiff, reduceCtorEq]
  refine WpV.seq (WpV.region ?_)
  refine WpOps.take 1 (by simp only [go_sem, reduceCtorEq, Nat.reduceAdd, Nat.reduceMul, Nat.reduceSub, Nat.reduceLT, Nat.reduceLeDiff, Nat.reduceEqDiff, Nat.reduceBEq, Nat.reducePow, htk, hlen]; rfl) ?_
  refine WpOps.step (by rfl) (by rfl) (OpW.callY rfl (by rfl) (by rfl) (by rfl) (enters_of Tryz.func8 (by kernel_rfl) rfl) ((hmk).mono ?_))
  rintro _ _ ⟨rfl, hH⟩
  replace hH := hH.symm
  subst hH
  refine WpOps.take 1 (by simp only [go_sem, reduceCtorEq, Nat.reduceAdd, Nat.reduceMul, Nat.reduceSub, Nat.reduceLT, Nat.reduceLeDiff, Nat.reduceEqDiff, Nat.reduceBEq, Nat.reducePow]; rfl) ?_
  refine WpOps.step (by rfl) (by rfl) (OpW.callY rfl (by rfl) (by rfl) (by rfl) (enters_of Tryz.func9 (by kernel_rfl) rfl) ((hwd).mono ?_))
  rintro _ _ ⟨rfl, hH⟩
  replace hH := hH.symm
  subst hH
  refine WpOps.step (by rfl) (by rfl) (OpW.alloc rfl (Tryz.ze32) (fun i7 f7 => ?_))
  refine WpOps.step (by rfl) (by rfl) (OpW.store (ty := 32) (id := i7) (ver := 0) (off := 0) rfl (by simp only [go_sem, reduceCtorEq, Nat.reduceAdd, Nat.reduceMul, Nat.reduceSub, Nat.reduceLT, Nat.reduceLeDiff, Nat.reduceEqDiff, Nat.reduceBEq, Nat.reducePow]; try rfl) (by simp only [go_sem, reduceCtorEq, Nat.reduceAdd, Nat.reduceMul, Nat.reduceSub, Nat.reduceLT, Nat.reduceLeDiff, Nat.reduceEqDiff, Nat.reduceBEq, Nat.reducePow]; try rfl) (Hp.set_eq _ _ _) (by simp only [go_sem, reduceCtorEq, Nat.reduceAdd, Nat.reduceMul, Nat.reduceSub, Nat.reduceLT, Nat.reduceLeDiff, Nat.reduceEqDiff, Nat.reduceBEq, Nat.reducePow]; try rfl) (by exact Tryz.sz32) (by simp) ?_)
  rw [Hp.set_set]
  refine WpOps.take 1 (by simp only [go_sem, reduceCtorEq, Nat.reduceAdd, Nat.reduceMul, Nat.reduceSub, Nat.reduceLT, Nat.reduceLeDiff, Nat.reduceEqDiff, Nat.reduceBEq, Nat.reducePow]; rfl) (WpOps.nil ⟨Marks.nil _, ?_⟩)
  simp only [Vthen, VinBlock, if_true, if_false, Nat.reduceEqDiff, reduceCtorEq]
  refine WpV.pre (Frz.ptr (t := 7) (id := i7) rfl (Hp.set_eq _ _ _)) (Marks.nil _) ?_
  rw [Hp.set_set, Hp.set_same _ _ _ f7]
  refine WpV.seq (WpV.regionD Tryz.mixed (by kernel_rfl) (by kernel_rfl) ?_)
  refine LexD.take 2 (by rfl) (by simp only [go_sem, reduceCtorEq, Nat.reduceAdd, Nat.reduceMul, Nat.reduceSub, Nat.reduceLT, Nat.reduceLeDiff, Nat.reduceEqDiff, Nat.reduceBEq, Nat.reducePow, a2, z0, t0, t2, hv4, w4, m4, s4, Int.reduceEq]; rfl) ?_
  refine LexD.step (by rfl) (by rfl) (OpW.callY rfl (by rfl) (by rfl) (by rfl) (enters_of Tryz.func13 (by kernel_rfl) rfl) (hnd)) ?_
  refine LexD.take 7 (by rfl) (by simp only [go_sem, reduceCtorEq, Nat.reduceAdd, Nat.reduceMul, Nat.reduceSub, Nat.reduceLT, Nat.reduceLeDiff, Nat.reduceEqDiff, Nat.reduceBEq, Nat.reducePow, a2, z0, t0, t2, hv4, w4, m4, s4, Int.reduceEq]; rfl) (LexD.nilE ⟨Marks.nil _, ?_⟩)
  simp only [Vthen, VinBlock, if_true, if_false, Nat.reduceEqDiff, reduceCtorEq]
  by_cases hlen1 : w.length = 1
  · have hlf : c.own.layF w n = none := by unfold Cs.layF; rw [if_pos hlen1]
    rw [hlf] at hly
    unfold layR at hly
    have e0 : (((0 : Nat) : Int) != ((w.length - 1 : Nat) : Int)) = false := by rw [hlen1]; rfl
    have e0' : ((0 : Int) != ((w.length - 1 : Nat) : Int)) = false := by rw [hlen1]; rfl
    have e1 : (((0 : Nat) : Int) == 0) = true := rfl
    have n0 : ((0 : Int) != 0) = false := rfl
    have hwm : IntKind.i64.wrap ((w.length : Int) - 1) = ((w.length - 1 : Nat) : Int) := by rw [wrap64 (by omega)]; omega
    have hwA : CallV Tryz.prog 33 [.agg c.own.cells, vints false (decide (w.length = 0)) w, .sl true true 0 [], vint v5] H (fun r H' => r = .tup [.sl true true 0 [], vint 6] ∧ H' = H) := by
      have := Wrong_any H c.own (own_valid hcV) false (decide (w.length = 0)) true true w [] v5 (Cs.word_iff.2 hw) (by unfold gapsB; rw [hlen1]; rfl) (by unfold Byte at b5; omega)
      have hl0 : c.own.looksF w [] = [] := by unfold Cs.looksF; simp
      rw [hl0, fewest_nil _ (by unfold wrongP; exact decide_eq_true (by unfold Byte at b5; show (0 : Int) ≤ v5; omega))] at this
      exact this
    refine WpV.seq (WpV.region ?_)
    refine WpOps.take 1 (by simp only [go_sem, reduceCtorEq, Nat.reduceAdd, Nat.reduceMul, Nat.reduceSub, Nat.reduceLT, Nat.reduceLeDiff, Nat.reduceEqDiff, Nat.reduceBEq, Nat.reducePow]; rfl) ?_
    refine WpOps.step (by rfl) (by rfl) (OpW.callY rfl (by rfl) (by rfl) (by rfl) (enters_of Tryz.func11 (by kernel_rfl) rfl) ((hdn).mono ?_))
    rintro _ _ ⟨rfl, hH⟩
    replace hH := hH.symm
    subst hH
    refine WpOps.take 1 (by simp only [go_sem, reduceCtorEq, Nat.reduceAdd, Nat.reduceMul, Nat.reduceSub, Nat.reduceLT, Nat.reduceLeDiff, Nat.reduceEqDiff, Nat.reduceBEq, Nat.reducePow]; rfl) ?_
    refine WpOps.step (by rfl) (by rfl) (OpW.callY rfl (by rfl) (by rfl) (by rfl) (enters_of Tryz.func12 (by kernel_rfl) rfl) ((hiw).mono ?_))
    rintro _ _ ⟨rfl, hH⟩
    replace hH := hH.symm
    subst hH
    refine WpOps.take 1 (by simp only [go_sem, reduceCtorEq, Nat.reduceAdd, Nat.reduceMul, Nat.reduceSub, Nat.reduceLT, Nat.reduceLeDiff, Nat.reduceEqDiff, Nat.reduceBEq, Nat.reducePow]; rfl) ?_
    refine WpOps.step (by rfl) (by rfl) (OpW.callY rfl (by rfl) (by rfl) (by rfl) (enters_of Tryz.func14 (by kernel_rfl) rfl) ((hly).mono ?_))
    rintro _ _ ⟨rfl, hH⟩
    replace hH := hH.symm
    subst hH
    refine WpOps.take 7 (by simp only [go_sem, reduceCtorEq, Nat.reduceAdd, Nat.reduceMul, Nat.reduceSub, Nat.reduceLT, Nat.reduceLeDiff, Nat.reduceEqDiff, Nat.reduceBEq, Nat.reducePow]; rfl) (WpOps.nil ⟨Marks.nil _, ?_⟩)
    simp only [Vthen, VinBlock, if_true, if_false, Nat.reduceEqDiff, reduceCtorEq]
    refine WpV.seq ?_
    refine WpV.seq (WpV.region ?_)
    refine WpOps.take 8 (by simp only [go_sem, reduceCtorEq, Nat.reduceAdd, Nat.reduceMul, Nat.reduceSub, Nat.reduceLT, Nat.reduceLeDiff, Nat.reduceEqDiff, Nat.reduceBEq, Nat.reducePow, n0, hwm, e0, e0', Int.lt_irrefl]; rfl) ?_
    refine WpOps.take 6 (by simp only [go_sem, reduceCtorEq, Nat.reduceAdd, Nat.reduceMul, Nat.reduceSub, Nat.reduceLT, Nat.reduceLeDiff, Nat.reduceEqDiff, Nat.reduceBEq, Nat.reducePow, n0, hwm, e0, e0', Int.lt_irrefl]; rfl) (WpOps.nil ⟨Marks.nil _, ?_⟩)
    simp only [Vthen, VinBlock, if_true, if_false, Nat.reduceEqDiff, reduceCtorEq]
    refine WpV.cond rfl (fun hb => by cases hb) (fun hb => WpV.skip ?_)
    simp only [Vthen, VinBlock, if_true, if_false, Nat.reduceEqDiff, reduceCtorEq]
    refine WpV.seq ?_
    refine WpV.seq (WpV.regionE (by simp only [go_sem, reduceCtorEq, Nat.reduceAdd, Nat.reduceMul, Nat.reduceSub, Nat.reduceLT, Nat.reduceLeDiff, Nat.reduceEqDiff, Nat.reduceBEq, Nat.reducePow, e1]; rfl) (Marks.nil _) ?_)
    simp only [Vthen, VinBlock, if_true, if_false, Nat.reduceEqDiff, reduceCtorEq]
    refine WpV.cond rfl (fun hb => ?_) (fun hb => by cases hb)
    refine WpV.seq (WpV.regionD Tryz.mixed (by kernel_rfl) (by kernel_rfl) ?_)
    refine LexD.take 1 (by rfl) (by simp only [go_sem, reduceCtorEq, Nat.reduceAdd, Nat.reduceMul, Nat.reduceSub, Nat.reduceLT, Nat.reduceLeDiff, Nat.reduceEqDiff, Nat.reduceBEq, Nat.reducePow, a2, z1, t1, t2, hv5, w5]; rfl) ?_
    refine LexD.step (by rfl) (by rfl) (OpW.callY rfl (by rfl) (by rfl) (by rfl) (enters_of Tryz.func11 (by kernel_rfl) rfl) (hdn)) ?_
    refine LexD.take 1 (by rfl) (by simp only [go_sem, reduceCtorEq, Nat.reduceAdd, Nat.reduceMul, Nat.reduceSub, Nat.reduceLT, Nat.reduceLeDiff, Nat.reduceEqDiff, Nat.reduceBEq, Nat.reducePow, a2, z1, t1, t2, hv5, w5]; rfl) ?_
    refine LexD.step (by rfl) (by rfl) (OpW.callY rfl (by rfl) (by rfl) (by rfl) (enters_of Tryz.func12 (by kernel_rfl) rfl) (hiw)) ?_
    refine LexD.take 4 (by rfl) (by simp only [go_sem, reduceCtorEq, Nat.reduceAdd, Nat.reduceMul, Nat.reduceSub, Nat.reduceLT, Nat.reduceLeDiff, Nat.reduceEqDiff, Nat.reduceBEq, Nat.reducePow, a2, z1, t1, t2, hv5, w5]; rfl) ?_
    refine LexD.step (by rfl) (by rfl) (OpW.callY rfl (by rfl) (by rfl) (by rfl) (enters_of Tryz.func33 (by kernel_rfl) rfl) (hwA)) ?_
    refine LexD.take 5 (by rfl) (by simp only [go_sem, reduceCtorEq, Nat.reduceAdd, Nat.reduceMul, Nat.reduceSub, Nat.reduceLT, Nat.reduceLeDiff, Nat.reduceEqDiff, Nat.reduceBEq, Nat.reducePow, a2, z1, t1, t2, hv5, w5]; rfl) (LexD.nilE ⟨Marks.nil _, ?_⟩)
    simp only [Vthen, VinBlock, if_true, if_false, Nat.reduceEqDiff, reduceCtorEq]
    refine WpV.seq (WpV.region ?_)
    refine WpOps.take 3 (by simp only [go_sem, reduceCtorEq, Nat.reduceAdd, Nat.reduceMul, Nat.reduceSub, Nat.reduceLT, Nat.reduceLeDiff, Nat.reduceEqDiff, Nat.reduceBEq, Nat.reducePow]; rfl) ?_
    refine WpOps.step (by rfl) (by rfl) (OpW.callY rfl (by rfl) (by rfl) (by rfl) (enters_of Tryz.func17 (by kernel_rfl) rfl) ((known_any H).mono ?_))
    rintro _ _ ⟨rfl, hH⟩
    replace hH := hH.symm
    subst hH
    refine WpOps.take 2 (by simp only [go_sem, reduceCtorEq, Nat.reduceAdd, Nat.reduceMul, Nat.reduceSub, Nat.reduceLT, Nat.reduceLeDiff, Nat.reduceEqDiff, Nat.reduceBEq, Nat.reducePow]; rfl) (WpOps.nil ⟨Marks.nil _, ?_⟩)
    simp only [Vthen, VinBlock, if_true, if_false, Nat.reduceEqDiff, reduceCtorEq]
    refine WpV.ret ⟨Marks.nil _, List.nodup_nil, _, by simp only [Tryz.results7]; simp only [go_sem, reduceCtorEq, Nat.reduceAdd, Nat.reduceMul, Nat.reduceSub, Nat.reduceLT, Nat.reduceLeDiff, Nat.reduceEqDiff, Nat.reduceBEq, Nat.reducePow]; rfl, ?_⟩
    exact ⟨rfl, rfl⟩
  · obtain ⟨g, s, hlf, hs6, hLd⟩ := lay_laid hF hw (by omega) hn (by omega)
    have hlf' : c.own.layF w n = some (g, s) := hlf
    rw [hlf'] at hly
    unfold layR at hly
    have hgl := hLd.len
    have n0 : ((0 : Int) != 0) = false := rfl
    have hwm : IntKind.i64.wrap ((w.length : Int) - 1) = ((w.length - 1 : Nat) : Int) := by rw [wrap64 (by omega)]; omega
    have e0 : (((g.length : Nat) : Int) != ((w.length - 1 : Nat) : Int)) = false := by rw [hgl]; simp
    have e1 : (((g.length : Nat) : Int) == 0) = false := by simp; intro e; rw [e] at hgl; simp at hgl; omega
    have s0 : ¬ ((s : Int) < 0) := by omega
    have hig := ints_own H false false g (by omega) (by omega)
    refine WpV.seq (WpV.region ?_)
    refine WpOps.take 1 (by simp only [go_sem, reduceCtorEq, Nat.reduceAdd, Nat.reduceMul, Nat.reduceSub, Nat.reduceLT, Nat.reduceLeDiff, Nat.reduceEqDiff, Nat.reduceBEq, Nat.reducePow]; rfl) ?_
    refine WpOps.step (by rfl) (by rfl) (OpW.callY rfl (by rfl) (by rfl) (by rfl) (enters_of Tryz.func11 (by kernel_rfl) rfl) ((hdn).mono ?_))
    rintro _ _ ⟨rfl, hH⟩
    replace hH := hH.symm
    subst hH
    refine WpOps.take 1 (by simp only [go_sem, reduceCtorEq, Nat.reduceAdd, Nat.reduceMul, Nat.reduceSub, Nat.reduceLT, Nat.reduceLeDiff, Nat.reduceEqDiff, Nat.reduceBEq, Nat.reducePow]; rfl) ?_
    refine WpOps.step (by rfl) (by rfl) (OpW.callY rfl (by rfl) (by rfl) (by rfl) (enters_of Tryz.func12 (by kernel_rfl) rfl) ((hiw).mono ?_))
    rintro _ _ ⟨rfl, hH⟩
    replace hH := hH.symm
    subst hH
    refine WpOps.take 1 (by simp only [go_sem, reduceCtorEq, Nat.reduceAdd, Nat.reduceMul, Nat.reduceSub, Nat.reduceLT, Nat.reduceLeDiff, Nat.reduceEqDiff, Nat.reduceBEq, Nat.reducePow]; rfl) ?_
    refine WpOps.step (by rfl) (by rfl) (OpW.callY rfl (by rfl) (by rfl) (by rfl) (enters_of Tryz.func14 (by kernel_rfl) rfl) ((hly).mono ?_))
    rintro _ _ ⟨rfl, hH⟩
    replace hH := hH.symm
    subst hH
    refine WpOps.take 7 (by simp only [go_sem, reduceCtorEq, Nat.reduceAdd, Nat.reduceMul, Nat.reduceSub, Nat.reduceLT, Nat.reduceLeDiff, Nat.reduceEqDiff, Nat.reduceBEq, Nat.reducePow]; rfl) (WpOps.nil ⟨Marks.nil _, ?_⟩)
    simp only [Vthen, VinBlock, if_true, if_false, Nat.reduceEqDiff, reduceCtorEq]
    refine WpV.seq ?_
    refine WpV.seq (WpV.region ?_)
    refine WpOps.take 8 (by simp only [go_sem, reduceCtorEq, Nat.reduceAdd, Nat.reduceMul, Nat.reduceSub, Nat.reduceLT, Nat.reduceLeDiff, Nat.reduceEqDiff, Nat.reduceBEq, Nat.reducePow, n0, hwm, e0, s0]; rfl) ?_
    refine WpOps.take 6 (by simp only [go_sem, reduceCtorEq, Nat.reduceAdd, Nat.reduceMul, Nat.reduceSub, Nat.reduceLT, Nat.reduceLeDiff, Nat.reduceEqDiff, Nat.reduceBEq, Nat.reducePow, n0, hwm, e0, s0]; rfl) (WpOps.nil ⟨Marks.nil _, ?_⟩)
    simp only [Vthen, VinBlock, if_true, if_false, Nat.reduceEqDiff, reduceCtorEq]
    refine WpV.cond rfl (fun hb => by cases hb) (fun hb => WpV.skip ?_)
    simp only [Vthen, VinBlock, if_true, if_false, Nat.reduceEqDiff, reduceCtorEq]
    refine WpV.seq ?_
    refine WpV.seq (WpV.regionE (by simp only [go_sem, reduceCtorEq, Nat.reduceAdd, Nat.reduceMul, Nat.reduceSub, Nat.reduceLT, Nat.reduceLeDiff, Nat.reduceEqDiff, Nat.reduceBEq, Nat.reducePow, e1]; rfl) (Marks.nil _) ?_)
    simp only [Vthen, VinBlock, if_true, if_false, Nat.reduceEqDiff, reduceCtorEq]
    refine WpV.cond rfl (fun hb => by cases hb) (fun hb => WpV.skip ?_)
    simp only [Vthen, VinBlock, if_true, if_false, Nat.reduceEqDiff, reduceCtorEq]
    refine WpV.seq (WpV.region ?_)
    refine WpOps.take 1 (by simp only [go_sem, reduceCtorEq, Nat.reduceAdd, Nat.reduceMul, Nat.reduceSub, Nat.reduceLT, Nat.reduceLeDiff, Nat.reduceEqDiff, Nat.reduceBEq, Nat.reducePow]; rfl) ?_
    refine WpOps.step (by rfl) (by rfl) (OpW.callY rfl (by rfl) (by rfl) (by rfl) (enters_of Tryz.func12 (by kernel_rfl) rfl) (hig.mono ?_))
    rintro _ _ ⟨ib, fib, rfl, rfl⟩
    refine WpOps.take 3 (by simp only [go_sem, reduceCtorEq, Nat.reduceAdd, Nat.reduceMul, Nat.reduceSub, Nat.reduceLT, Nat.reduceLeDiff, Nat.reduceEqDiff, Nat.reduceBEq, Nat.reducePow]; rfl) (WpOps.nil ⟨Marks.nil _, ?_⟩)
    simp only [Vthen, VinBlock, if_true, if_false, Nat.reduceEqDiff, reduceCtorEq]
    refine WpV.seq ?_
    refine WpV.seq (WpV.regionE (by simp only [go_sem, reduceCtorEq, Nat.reduceAdd, Nat.reduceMul, Nat.reduceSub, Nat.reduceLT, Nat.reduceLeDiff, Nat.reduceEqDiff, Nat.reduceBEq, Nat.reducePow]; rfl) (Marks.nil _) ?_)
    simp only [Vthen, VinBlock, if_true, if_false, Nat.reduceEqDiff, reduceCtorEq]
    refine WpV.block (WpV.loop (ι := { p : (Nat × List Int × List Int) × AV × Hp // p.1.1 ≤ 2 ∧ (Chg c w g p.1.2.1 p.1.2.2 ∧ p.1.2.2.length ≤ p.1.1) ∧ Bld H 3 1 false p.1.2.2.length (p.1.2.2.map vint) p.2.1 p.2.2 ∧ p.2.2 ib = none })
      (fun p => [(5, .cp vc 0), (7, .cp c.cells 0), (8, vints false fl w), (11, vint (s : Int)), (15, .rs ib 0 1 0 g.length false), (16, p.1.2.1), (17, vint p.1.1.1)])
      (fun p => p.1.2.2.set ib (some (.cells 3 0 (p.1.1.2.1.map vint)))) (fun p => 2 - p.1.1.1)
      ⟨((0, g, []), .sl false true 0 [], H), Nat.zero_le _, ⟨⟨rfl, hLd.le, by simp, fun _ _ _ => rfl⟩, by simp⟩, Bld.nil _ _ _ _, fib⟩ ?_ rfl ?_)
    · exact Sub.cons rfl rfl (Sub.cons rfl rfl (Sub.cons rfl rfl (Sub.cons rfl rfl (Sub.cons rfl rfl (Sub.cons rfl rfl (Sub.cons rfl rfl (Sub.nil _)))))))
    rintro ⟨⟨⟨k, Bd, Ch⟩, cv, Hc⟩, hk, ⟨hCg, hCl⟩, hBl, hib⟩
    simp only at hk hCg hCl hBl hib ⊢
    have hbl := hCg.len
    refine WpV.seq ?_
    refine WpV.seq (WpV.regionE (by simp only [go_sem, reduceCtorEq, Nat.reduceAdd, Nat.reduceMul, Nat.reduceSub, Nat.reduceLT, Nat.reduceLeDiff, Nat.reduceEqDiff, Nat.reduceBEq, Nat.reducePow]; rfl) (Marks.nil _) ?_)
    simp only [Vthen, VinBlock, if_true, if_false, Nat.reduceEqDiff, reduceCtorEq]
    refine WpV.cond rfl (fun hb => WpV.skip ?_) (fun hb => WpV.exit ?_)
    · have hlt : (k : Int) < 2 := of_decide_eq_true ‹_›
      have hlt' : k < 2 := by omega
      obtain ⟨hp0, bp0⟩ := hvc (k * 2) (by omega)
      obtain ⟨hp1, bp1⟩ := hvc (k * 2 + 1) (by omega)
      generalize v.getD (k * 2) 0 = p0 at hp0 bp0
      generalize v.getD (k * 2 + 1) 0 = p1 at hp1 bp1
      have ak : (0 : Int) ≤ (k : Int) ∧ (k : Int) < ((3 : Nat) : Int) := by omega
      have wp0 := byte_wrap bp0
      have wp1 := byte_wrap bp1
      have hl0 : ¬ ((g.length : Int) = 0) := by omega
      have mp0 := byte_mod bp0 (g.length : Int)
      have mp1 := byte_mod bp1 60
      obtain ⟨a, ha, hva⟩ : ∃ a : Nat, a < g.length ∧ p0 % (g.length : Int) = (a : Int) := by
        have h1 := Int.emod_nonneg p0 hl0
        have h2 := Int.emod_lt_of_pos p0 (b := (g.length : Int)) (by omega)
        exact ⟨(p0 % (g.length : Int)).toNat, by omega, by omega⟩
      rw [hva] at mp0
      have hnk : IntKind.i64.wrap ((k : Int) + 1) = ((k + 1 : Nat) : Int) := by rw [wrap64 (by omega)]; rfl
      have hib2 : (Hc.set ib (some (.cells 3 0 (Bd.map vint)))) ib = some (.cells 3 0 (Bd.map vint)) := Hp.set_eq _ _ _
      have hlta : (a : Int) < (g.length : Int) := by omega
      have hChl : Ch.length < 1000000 := by omega
      simp only [Vthen, VinBlock, if_true, if_false, Nat.reduceEqDiff, reduceCtorEq]
      refine WpV.seq (WpV.block ?_)
      refine WpV.seq (WpV.regionE (by simp only [go_sem, reduceCtorEq, Nat.reduceAdd, Nat.reduceMul, Nat.reduceSub, Nat.reduceLT, Nat.reduceLeDiff, Nat.reduceEqDiff, Nat.reduceBEq, Nat.reducePow, ak, Int.toNat_natCast, z0, t0, hp0, wp0, hib2, mp0, hl0]; rfl) (Marks.nil _) ?_)
      simp only [Vthen, VinBlock, if_true, if_false, Nat.reduceEqDiff, reduceCtorEq]
      by_cases h200 : p0 < 200
      · refine WpV.seq (WpV.regionE (by simp only [go_sem, reduceCtorEq, Nat.reduceAdd, Nat.reduceMul, Nat.reduceSub, Nat.reduceLT, Nat.reduceLeDiff, Nat.reduceEqDiff, Nat.reduceBEq, Nat.reducePow, ak, Int.toNat_natCast, z0, t0, hp0, h200]; rfl) (Marks.nil _) ?_)
        simp only [Vthen, VinBlock, if_true, if_false, Nat.reduceEqDiff, reduceCtorEq]
        refine WpV.cond rfl (fun hb => ?_) (fun hb => by cases hb)
        refine WpV.seq (WpV.region ?_)
        refine WpOps.take 8 (by simp only [go_sem, reduceCtorEq, Nat.reduceAdd, Nat.reduceMul, Nat.reduceSub, Nat.reduceLT, Nat.reduceLeDiff, Nat.reduceEqDiff, Nat.reduceBEq, Nat.reducePow, ak, Int.toNat_natCast, z1, t1, hp1, wp1, mp1, Int.reduceEq]; rfl) ?_
        refine WpOps.take 1 (by simp only [go_sem, reduceCtorEq, Nat.reduceAdd, Nat.reduceMul, Nat.reduceSub, Nat.reduceLT, Nat.reduceLeDiff, Nat.reduceEqDiff, Nat.reduceBEq, Nat.reducePow, hib2, hlta]; rfl) ?_
        refine WpOps.step (by rfl) (by rfl) (OpW.store (ty := 3) (cs := Bd.map vint) (id := ib) (ver := 0) (off := a) rfl (by simp only [go_sem, reduceCtorEq, Nat.reduceAdd, Nat.reduceMul, Nat.reduceSub, Nat.reduceLT, Nat.reduceLeDiff, Nat.reduceEqDiff, Nat.reduceBEq, Nat.reducePow]; try rfl) (by simp only [go_sem, reduceCtorEq, Nat.reduceAdd, Nat.reduceMul, Nat.reduceSub, Nat.reduceLT, Nat.reduceLeDiff, Nat.reduceEqDiff, Nat.reduceBEq, Nat.reducePow]; try rfl) hib2 (by simp only [go_sem, reduceCtorEq, Nat.reduceAdd, Nat.reduceMul, Nat.reduceSub, Nat.reduceLT, Nat.reduceLeDiff, Nat.reduceEqDiff, Nat.reduceBEq, Nat.reducePow]; try rfl) (by exact Tryz.sz3) (by simp; omega) ?_)
        rw [Hp.set_set, show putC (Bd.map vint) a [vint (p1 % 60)] = (Bd.set a (p1 % 60)).map vint by rw [putC_set _ _ _ (by simp; omega), ← List.map_set]]
        refine WpOps.nil ⟨Marks.nil _, ?_⟩
        simp only [Vthen, VinBlock, if_true, if_false, Nat.reduceEqDiff, reduceCtorEq]
        have hhas := has_bld (ob := .cells 3 0 ((Bd.set a (p1 % 60)).map vint)) hChl rfl hBl hib (a : Int)
        have hy : 0 ≤ p1 % 60 ∧ p1 % 60 ≤ 400 := by omega
        cases hin : contB Ch (a : Int)
        · rw [hin] at hhas
          refine WpV.seq (WpV.region ?_)
          refine WpOps.take 2 (by simp only [go_sem, reduceCtorEq, Nat.reduceAdd, Nat.reduceMul, Nat.reduceSub, Nat.reduceLT, Nat.reduceLeDiff, Nat.reduceEqDiff, Nat.reduceBEq, Nat.reducePow]; rfl) ?_
          refine WpOps.step (by rfl) (by rfl) (OpW.callY rfl (by rfl) (by rfl) (by rfl) (enters_of Tryz.func24 (by kernel_rfl) rfl) ((hhas).mono ?_))
          rintro _ _ ⟨rfl, hH⟩
          replace hH := hH.symm
          subst hH
          refine WpOps.take 1 (by simp only [go_sem, reduceCtorEq, Nat.reduceAdd, Nat.reduceMul, Nat.reduceSub, Nat.reduceLT, Nat.reduceLeDiff, Nat.reduceEqDiff, Nat.reduceBEq, Nat.reducePow]; rfl) (WpOps.nil ⟨Marks.nil _, ?_⟩)
          simp only [Vthen, VinBlock, if_true, if_false, Nat.reduceEqDiff, reduceCtorEq]
          refine WpV.cond rfl (fun hb => ?_) (fun hb => by cases hb)
          refine WpV.region ?_
          refine WpOps.take 3 (by simp only [go_sem, reduceCtorEq, Nat.reduceAdd, Nat.reduceMul, Nat.reduceSub, Nat.reduceLT, Nat.reduceLeDiff, Nat.reduceEqDiff, Nat.reduceBEq, Nat.reducePow]; rfl) ?_
          refine WpOps.step (by rfl) (by rfl) (OpW.appendBx (m := 1) (ys := [vint (a : Int)]) rfl hBl hib (by simp only [go_sem, reduceCtorEq, Nat.reduceAdd, Nat.reduceMul, Nat.reduceSub, Nat.reduceLT, Nat.reduceLeDiff, Nat.reduceEqDiff, Nat.reduceBEq, Nat.reducePow]; try rfl) (by simp only [go_sem, reduceCtorEq, Nat.reduceAdd, Nat.reduceMul, Nat.reduceSub, Nat.reduceLT, Nat.reduceLeDiff, Nat.reduceEqDiff, Nat.reduceBEq, Nat.reducePow]; try rfl) rfl (Tryz.el29 (by omega)) Tryz.underlying29 rfl rfl (by decide) (fun v' H' hB' hi' => ?_))
          refine WpOps.take 1 (by simp only [go_sem, reduceCtorEq, Nat.reduceAdd, Nat.reduceMul, Nat.reduceSub, Nat.reduceLT, Nat.reduceLeDiff, Nat.reduceEqDiff, Nat.reduceBEq, Nat.reducePow]; rfl) (WpOps.nil ⟨Marks.nil _, ?_⟩)
          simp only [Vthen, VinBlock, if_true, if_false, Nat.reduceEqDiff, reduceCtorEq]
          refine WpV.regionE (by simp only [go_sem, reduceCtorEq, Nat.reduceAdd, Nat.reduceMul, Nat.reduceSub, Nat.reduceLT, Nat.reduceLeDiff, Nat.reduceEqDiff, Nat.reduceBEq, Nat.reducePow, hnk]; rfl) (Marks.nil _) ?_
          simp only [Vthen, VinBlock, if_true, if_false, Nat.reduceEqDiff, reduceCtorEq]
          have hc2 : Chg c w g (Bd.set a (p1 % 60)) (Ch ++ [(a : Int)]) := chg_set hCg (by omega) hy (by simp) (fun x hx => by simp [hx]) (fun x hx => by simpa using hx)
          exact ⟨by first | rfl | trivial, ⟨((k + 1, Bd.set a (p1 % 60), Ch ++ [(a : Int)]), v', H'), by simp only; omega, ⟨hc2, by simp; omega⟩, by simpa using hB', hi'⟩, by simp only; omega, Sub.cons rfl rfl (Sub.cons rfl rfl (Sub.cons rfl rfl (Sub.cons rfl rfl (Sub.cons rfl rfl (Sub.cons rfl rfl (Sub.cons rfl rfl (Sub.nil _))))))), by first | rfl | trivial⟩
        · rw [hin] at hhas
          refine WpV.seq (WpV.region ?_)
          refine WpOps.take 2 (by simp only [go_sem, reduceCtorEq, Nat.reduceAdd, Nat.reduceMul, Nat.reduceSub, Nat.reduceLT, Nat.reduceLeDiff, Nat.reduceEqDiff, Nat.reduceBEq, Nat.reducePow]; rfl) ?_
          refine WpOps.step (by rfl) (by rfl) (OpW.callY rfl (by rfl) (by rfl) (by rfl) (enters_of Tryz.func24 (by kernel_rfl) rfl) ((hhas).mono ?_))
          rintro _ _ ⟨rfl, hH⟩
          replace hH := hH.symm
          subst hH
          refine WpOps.take 1 (by simp only [go_sem, reduceCtorEq, Nat.reduceAdd, Nat.reduceMul, Nat.reduceSub, Nat.reduceLT, Nat.reduceLeDiff, Nat.reduceEqDiff, Nat.reduceBEq, Nat.reducePow]; rfl) (WpOps.nil ⟨Marks.nil _, ?_⟩)
          simp only [Vthen, VinBlock, if_true, if_false, Nat.reduceEqDiff, reduceCtorEq]
          refine WpV.cond rfl (fun hb => by cases hb) (fun hb => WpV.skip ?_)
          simp only [Vthen, VinBlock, if_true, if_false, Nat.reduceEqDiff, reduceCtorEq]
          refine WpV.regionE (by simp only [go_sem, reduceCtorEq, Nat.reduceAdd, Nat.reduceMul, Nat.reduceSub, Nat.reduceLT, Nat.reduceLeDiff, Nat.reduceEqDiff, Nat.reduceBEq, Nat.reducePow, hnk]; rfl) (Marks.nil _) ?_
          simp only [Vthen, VinBlock, if_true, if_false, Nat.reduceEqDiff, reduceCtorEq]
          have hc2 : Chg c w g (Bd.set a (p1 % 60)) Ch := chg_set hCg (by omega) hy (contB_iff.1 hin) (fun x hx => hx) (fun x hx => .inl hx)
          exact ⟨by first | rfl | trivial, ⟨((k + 1, Bd.set a (p1 % 60), Ch), cv, Hc), by simp only; omega, ⟨hc2, by simp only; omega⟩, hBl, hib⟩, by simp only; omega, Sub.cons rfl rfl (Sub.cons rfl rfl (Sub.cons rfl rfl (Sub.cons rfl rfl (Sub.cons rfl rfl (Sub.cons rfl rfl (Sub.cons rfl rfl (Sub.nil _))))))), by first | rfl | trivial⟩
      · refine WpV.seq (WpV.regionE (by simp only [go_sem, reduceCtorEq, Nat.reduceAdd, Nat.reduceMul, Nat.reduceSub, Nat.reduceLT, Nat.reduceLeDiff, Nat.reduceEqDiff, Nat.reduceBEq, Nat.reducePow, ak, Int.toNat_natCast, z0, t0, hp0, h200]; rfl) (Marks.nil _) ?_)
        simp only [Vthen, VinBlock, if_true, if_false, Nat.reduceEqDiff, reduceCtorEq]
        refine WpV.cond rfl (fun hb => by cases hb) (fun hb => WpV.skip ?_)
        simp only [Vthen, VinBlock, if_true, if_false, Nat.reduceEqDiff, reduceCtorEq]
        refine WpV.regionE (by simp only [go_sem, reduceCtorEq, Nat.reduceAdd, Nat.reduceMul, Nat.reduceSub, Nat.reduceLT, Nat.reduceLeDiff, Nat.reduceEqDiff, Nat.reduceBEq, Nat.reducePow, hnk]; rfl) (Marks.nil _) ?_
        simp only [Vthen, VinBlock, if_true, if_false, Nat.reduceEqDiff, reduceCtorEq]
        exact ⟨by first | rfl | trivial, ⟨((k + 1, Bd, Ch), cv, Hc), by simp only; omega, ⟨hCg, by simp only; omega⟩, hBl, hib⟩, by simp only; omega, Sub.cons rfl rfl (Sub.cons rfl rfl (Sub.cons rfl rfl (Sub.cons rfl rfl (Sub.cons rfl rfl (Sub.cons rfl rfl (Sub.cons rfl rfl (Sub.nil _))))))), by first | rfl | trivial⟩
    · have hib2 : (Hc.set ib (some (.cells 3 0 (Bd.map vint)))) ib = some (.cells 3 0 (Bd.map vint)) := Hp.set_eq _ _ _
      simp only [Vthen, VinBlock, if_true, if_false, Nat.reduceEqDiff, reduceCtorEq]
      refine WpV.pre (Frz.slice (t := 15) rfl hib2) (Marks.nil _) ?_
      rw [Hp.set_set, Hp.set_same _ _ _ hib]
      refine WpV.pre (hBl.frz (t := 16) rfl) (Marks.nil _) ?_
      rw [show AV.sl false false g.length (((Bd.map vint).drop 0).take (g.length * 1)) = vints false false Bd by rw [List.drop_zero, List.take_of_length_le (by simp; omega), ← hbl]]
      rw [show AV.sl (false && decide (Ch.length = 0)) (decide (Ch.length = 0)) Ch.length (Ch.map vint) = vints false (decide (Ch.length = 0)) Ch from rfl]
      generalize decide (Ch.length = 0) = cf
      have hChl : Ch.length < 1000000 := by omega
      clear hBl hib hib2
      refine WpV.seqS [(7, .cp c.cells 0), (8, vints false fl w), (11, vint (s : Int)), (15, vints false false Bd), (16, vints false cf Ch)] ?_ ?_
      · refine WpV.seq (WpV.regionE (by simp only [go_sem, reduceCtorEq, Nat.reduceAdd, Nat.reduceMul, Nat.reduceSub, Nat.reduceLT, Nat.reduceLeDiff, Nat.reduceEqDiff, Nat.reduceBEq, Nat.reducePow]; rfl) (Marks.nil _) ?_)
        simp only [Vthen, VinBlock, if_true, if_false, Nat.reduceEqDiff, reduceCtorEq]
        refine WpV.block (WpV.loopN Bd.length (fun i => [(7, .cp c.cells 0), (8, vints false fl w), (11, vint (s : Int)), (15, vints false false Bd), (16, vints false cf Ch), (19, vint i)]) (fun _ => H) ?_ rfl ?_)
        · exact .cons rfl rfl (.cons rfl rfl (.cons rfl rfl (.cons rfl rfl (.cons rfl rfl (.cons rfl rfl (.nil _))))))
        · intro i hi
          have hnext : IntKind.i64.wrap ((i : Int) + 1) = ((i + 1 : Nat) : Int) := by rw [wrap64 (by omega)]; rfl
          refine WpV.seq ?_
          refine WpV.seq (WpV.regionE (by simp only [go_sem, reduceCtorEq, Nat.reduceAdd, Nat.reduceMul, Nat.reduceSub, Nat.reduceLT, Nat.reduceLeDiff, Nat.reduceEqDiff, Nat.reduceBEq, Nat.reducePow]; rfl) (Marks.nil _) ?_)
          simp only [Vthen, VinBlock, if_true, if_false, Nat.reduceEqDiff, reduceCtorEq]
          refine WpV.cond rfl (fun hb => WpV.skip ?_) (fun hb => WpV.exit ?_)
          · have hlt : (i : Int) < (Bd.length : Int) := of_decide_eq_true ‹_›
            have hlt' : i < Bd.length := by omega
            have hbi := int_at' (L := Bd) hlt'
            have hble := hCg.le i hlt'
            have y0 : ¬ (Bd.getD i 0 < 0) := by omega
            have y4 : ¬ (Bd.getD i 0 > 400) := by omega
            simp only [Vthen, VinBlock, if_true, if_false, Nat.reduceEqDiff, reduceCtorEq]
            refine WpV.seq (WpV.block ?_)
            refine WpV.seq (WpV.regionE (by simp only [go_sem, reduceCtorEq, Nat.reduceAdd, Nat.reduceMul, Nat.reduceSub, Nat.reduceLT, Nat.reduceLeDiff, Nat.reduceEqDiff, Nat.reduceBEq, Nat.reducePow, hlt, hbi, y0, y4]; rfl) (Marks.nil _) ?_)
            simp only [Vthen, VinBlock, if_true, if_false, Nat.reduceEqDiff, reduceCtorEq]
            refine WpV.cond rfl (fun hb => by cases hb) (fun hb => WpV.skip ?_)
            simp only [Vthen, VinBlock, if_true, if_false, Nat.reduceEqDiff, reduceCtorEq]
            refine WpV.regionE (by simp only [go_sem, reduceCtorEq, Nat.reduceAdd, Nat.reduceMul, Nat.reduceSub, Nat.reduceLT, Nat.reduceLeDiff, Nat.reduceEqDiff, Nat.reduceBEq, Nat.reducePow, hnext]; rfl) (Marks.nil _) ?_
            simp only [Vthen, VinBlock, if_true, if_false, Nat.reduceEqDiff, reduceCtorEq]
            exact ⟨by first | rfl | trivial, hlt', .cons rfl rfl (.cons rfl rfl (.cons rfl rfl (.cons rfl rfl (.cons rfl rfl (.cons rfl rfl (.nil _)))))), by first | rfl | trivial⟩
          · simp only [Vthen, VinBlock, if_true, if_false, Nat.reduceEqDiff, reduceCtorEq]
            exact ⟨by first | rfl | trivial, by first | rfl | trivial, Sub.cons rfl rfl (Sub.cons rfl rfl (Sub.cons rfl rfl (Sub.cons rfl rfl (Sub.cons rfl rfl (Sub.nil _)))))⟩
      have hml : (c.mores w).length = Bd.length := by rw [Cs.moreN_len]; omega
      obtain ⟨b, hfw, hbc, hbs, hsp, hspn⟩ := chg_wrong hLd hCg hml
      have hib3 := ints_any H false false Bd (by omega)
      have hWr := Wrong_any H c.own (own_valid hcV) false (decide (w.length = 0)) false (decide (Bd.length = 0)) w Bd s (Cs.word_iff.2 hw) (by
        unfold gapsB
        rw [Bool.and_eq_true, insB_iff]
        refine ⟨by simp only [beq_iff_eq]; omega, fun x hx => ?_⟩
        obtain ⟨i, hi, rfl⟩ := List.getElem_of_mem hx
        have := hCg.le i hi
        rw [List.getD_eq_getElem?_getD, List.getElem?_eq_getElem hi] at this
        exact this) (by omega)
      rw [show fewestF (c.own.looksF w Bd) (wrongP s) = some b from hfw] at hWr
      unfold orTwice at hWr
      simp only at hWr
      have hbl2 : b.length ≤ Bd.length := by have := hbs.length_le; rwa [numsF_len] at this
      have hbu : b.Pairwise (· < ·) := (nums_up _).sublist hbs
      have hbm : ∀ i, i < b.length → 0 ≤ b.getD i 0 ∧ b.getD i 0 < Bd.length := fun i hi => nums_mem.1 (hbs.subset (getD_mem hi))
      have hWr2 : CallV Tryz.prog 33 [.agg c.own.cells, vints false (decide (w.length = 0)) w, vints false (decide (Bd.length = 0)) Bd, vint (s : Int)] H (fun r H' => r = .tup [rowB b, vint (if b.length = 0 then 6 else 0)] ∧ H' = H) := by
        refine hWr.mono ?_
        rintro r H' ⟨rfl, h⟩
        refine ⟨?_, h⟩
        by_cases h0 : b.length = 0
        · have : b = [] := List.length_eq_zero_iff.1 h0
          subst this; rfl
        · rw [if_neg h0, if_neg h0]
      clear hWr
      refine WpV.seq (WpV.region ?_)
      refine WpOps.take 1 (by simp only [go_sem, reduceCtorEq, Nat.reduceAdd, Nat.reduceMul, Nat.reduceSub, Nat.reduceLT, Nat.reduceLeDiff, Nat.reduceEqDiff, Nat.reduceBEq, Nat.reducePow]; rfl) ?_
      refine WpOps.step (by rfl) (by rfl) (OpW.callY rfl (by rfl) (by rfl) (by rfl) (enters_of Tryz.func11 (by kernel_rfl) rfl) ((hdn).mono ?_))
      rintro _ _ ⟨rfl, hH⟩
      replace hH := hH.symm
      subst hH
      refine WpOps.take 1 (by simp only [go_sem, reduceCtorEq, Nat.reduceAdd, Nat.reduceMul, Nat.reduceSub, Nat.reduceLT, Nat.reduceLeDiff, Nat.reduceEqDiff, Nat.reduceBEq, Nat.reducePow]; rfl) ?_
      refine WpOps.step (by rfl) (by rfl) (OpW.callY rfl (by rfl) (by rfl) (by rfl) (enters_of Tryz.func12 (by kernel_rfl) rfl) ((hiw).mono ?_))
      rintro _ _ ⟨rfl, hH⟩
      replace hH := hH.symm
      subst hH
      refine WpOps.take 1 (by simp only [go_sem, reduceCtorEq, Nat.reduceAdd, Nat.reduceMul, Nat.reduceSub, Nat.reduceLT, Nat.reduceLeDiff, Nat.reduceEqDiff, Nat.reduceBEq, Nat.reducePow]; rfl) ?_
      refine WpOps.step (by rfl) (by rfl) (OpW.callY rfl (by rfl) (by rfl) (by rfl) (enters_of Tryz.func12 (by kernel_rfl) rfl) ((hib3).mono ?_))
      rintro _ _ ⟨rfl, hH⟩
      replace hH := hH.symm
      subst hH
      refine WpOps.take 1 (by simp only [go_sem, reduceCtorEq, Nat.reduceAdd, Nat.reduceMul, Nat.reduceSub, Nat.reduceLT, Nat.reduceLeDiff, Nat.reduceEqDiff, Nat.reduceBEq, Nat.reducePow]; rfl) ?_
      refine WpOps.step (by rfl) (by rfl) (OpW.callY rfl (by rfl) (by rfl) (by rfl) (enters_of Tryz.func33 (by kernel_rfl) rfl) ((hWr2).mono ?_))
      rintro _ _ ⟨rfl, hH⟩
      replace hH := hH.symm
      subst hH
      refine WpOps.take 5 (by simp only [go_sem, reduceCtorEq, Nat.reduceAdd, Nat.reduceMul, Nat.reduceSub, Nat.reduceLT, Nat.reduceLeDiff, Nat.reduceEqDiff, Nat.reduceBEq, Nat.reducePow]; rfl) (WpOps.nil ⟨Marks.nil _, ?_⟩)
      simp only [Vthen, VinBlock, if_true, if_false, Nat.reduceEqDiff, reduceCtorEq]
      have hgt : ¬ ((b.length : Int) > (Ch.length : Int)) := by omega
      refine WpV.seqS [(7, .cp c.cells 0), (8, vints false fl w), (11, vint (s : Int)), (15, vints false false Bd), (20, rowB b)] ?_ ?_
      · by_cases h0 : b.length = 0
        · rw [if_pos h0]
          have f1 : ((6 : Int) != 0) = true := rfl
          have f2 : ((6 : Int) != 6) = false := rfl
          have f3 : ((b.length : Int) != 0) = false := by rw [h0]; rfl
          have f4 : ((6 : Int) == 0) = false := rfl
          refine WpV.seq (WpV.region ?_)
          refine WpOps.take 8 (by simp only [go_sem, reduceCtorEq, Nat.reduceAdd, Nat.reduceMul, Nat.reduceSub, Nat.reduceLT, Nat.reduceLeDiff, Nat.reduceEqDiff, Nat.reduceBEq, Nat.reducePow, f1, f2, f3, f4, hgt]; rfl) ?_
          refine WpOps.take 8 (by simp only [go_sem, reduceCtorEq, Nat.reduceAdd, Nat.reduceMul, Nat.reduceSub, Nat.reduceLT, Nat.reduceLeDiff, Nat.reduceEqDiff, Nat.reduceBEq, Nat.reducePow, f1, f2, f3, f4, hgt]; rfl) ?_
          refine WpOps.take 8 (by simp only [go_sem, reduceCtorEq, Nat.reduceAdd, Nat.reduceMul, Nat.reduceSub, Nat.reduceLT, Nat.reduceLeDiff, Nat.reduceEqDiff, Nat.reduceBEq, Nat.reducePow, f1, f2, f3, f4, hgt]; rfl) ?_
          refine WpOps.take 3 (by simp only [go_sem, reduceCtorEq, Nat.reduceAdd, Nat.reduceMul, Nat.reduceSub, Nat.reduceLT, Nat.reduceLeDiff, Nat.reduceEqDiff, Nat.reduceBEq, Nat.reducePow, f1, f2, f3, f4, hgt]; rfl) (WpOps.nil ⟨Marks.nil _, ?_⟩)
          simp only [Vthen, VinBlock, if_true, if_false, Nat.reduceEqDiff, reduceCtorEq]
          refine WpV.cond rfl (fun hb => by cases hb) (fun hb => WpV.skip ?_)
          simp only [Vthen, VinBlock, if_true, if_false, Nat.reduceEqDiff, reduceCtorEq]
          exact ⟨by first | rfl | trivial, by first | rfl | trivial, Sub.cons rfl rfl (Sub.cons rfl rfl (Sub.cons rfl rfl (Sub.cons rfl rfl (Sub.cons rfl rfl (Sub.nil _)))))⟩
        · rw [if_neg h0]
          have f3 : ((b.length : Int) == 0) = false := by simp; intro e; exact h0 (by rw [e]; rfl)
          refine WpV.seq (WpV.region ?_)
          refine WpOps.take 8 (by simp only [go_sem, reduceCtorEq, Nat.reduceAdd, Nat.reduceMul, Nat.reduceSub, Nat.reduceLT, Nat.reduceLeDiff, Nat.reduceEqDiff, Nat.reduceBEq, Nat.reducePow, n0, f3, hgt]; rfl) ?_
          refine WpOps.take 8 (by simp only [go_sem, reduceCtorEq, Nat.reduceAdd, Nat.reduceMul, Nat.reduceSub, Nat.reduceLT, Nat.reduceLeDiff, Nat.reduceEqDiff, Nat.reduceBEq, Nat.reducePow, n0, f3, hgt]; rfl) ?_
          refine WpOps.take 8 (by simp only [go_sem, reduceCtorEq, Nat.reduceAdd, Nat.reduceMul, Nat.reduceSub, Nat.reduceLT, Nat.reduceLeDiff, Nat.reduceEqDiff, Nat.reduceBEq, Nat.reducePow, n0, f3, hgt]; rfl) ?_
          refine WpOps.take 3 (by simp only [go_sem, reduceCtorEq, Nat.reduceAdd, Nat.reduceMul, Nat.reduceSub, Nat.reduceLT, Nat.reduceLeDiff, Nat.reduceEqDiff, Nat.reduceBEq, Nat.reducePow, n0, f3, hgt]; rfl) (WpOps.nil ⟨Marks.nil _, ?_⟩)
          simp only [Vthen, VinBlock, if_true, if_false, Nat.reduceEqDiff, reduceCtorEq]
          refine WpV.cond rfl (fun hb => by cases hb) (fun hb => WpV.skip ?_)
          simp only [Vthen, VinBlock, if_true, if_false, Nat.reduceEqDiff, reduceCtorEq]
          exact ⟨by first | rfl | trivial, by first | rfl | trivial, Sub.cons rfl rfl (Sub.cons rfl rfl (Sub.cons rfl rfl (Sub.cons rfl rfl (Sub.cons rfl rfl (Sub.nil _)))))⟩
      have hLl : (c.looksF w Bd).length = Bd.length := by unfold Cs.looksF; rw [List.length_zipWith, hml]; omega
      have hLat : ∀ i, i < Bd.length → (c.looksF w Bd).getD i 0 = Bd.getD i 0 + (c.mores w).getD i 0 := fun i hi => by
        have h1 : i < (c.looksF w Bd).length := by omega
        rw [List.getD_eq_getElem?_getD, List.getD_eq_getElem?_getD, List.getD_eq_getElem?_getD, List.getElem?_eq_getElem h1, List.getElem?_eq_getElem (show i < (c.mores w).length by omega), List.getElem?_eq_getElem hi]
        simp [Cs.looksF]; omega
      have hLb : ∀ (b' : List Int) (k : Nat), k ≤ Bd.length → ∀ x ∈ withoutN (c.looksF w Bd) b' k, -5 ≤ x ∧ x ≤ 405 := fun b' k hk x hx => by
        unfold withoutN at hx
        obtain ⟨i, hi, rfl⟩ := List.mem_map.1 hx
        rw [List.mem_filter, List.mem_range] at hi
        rw [hLat i (by omega)]
        have h1 := hCg.le i (by omega)
        have h2 := Cs.mores_le hF w (w.length - 1) _ (getD_mem (xs := c.mores w) (k := i) (by omega))
        omega
      refine WpV.seqS [(7, .cp c.cells 0), (8, vints false fl w), (11, vint (s : Int)), (15, vints false false Bd), (20, rowB b)] ?_ ?_
      · refine WpV.seq (WpV.regionE (by simp only [go_sem, reduceCtorEq, Nat.reduceAdd, Nat.reduceMul, Nat.reduceSub, Nat.reduceLT, Nat.reduceLeDiff, Nat.reduceEqDiff, Nat.reduceBEq, Nat.reducePow]; rfl) (Marks.nil _) ?_)
        simp only [Vthen, VinBlock, if_true, if_false, Nat.reduceEqDiff, reduceCtorEq]
        refine WpV.block (WpV.loopN (b.length + 1) (fun j => [(7, .cp c.cells 0), (8, vints false fl w), (11, vint (s : Int)), (15, vints false false Bd), (20, rowB b), (22, vint ((j : Int) - 1))]) (fun _ => H) ?_ rfl ?_)
        · exact .cons rfl rfl (.cons rfl rfl (.cons rfl rfl (.cons rfl rfl (.cons rfl rfl (.cons rfl rfl (.nil _))))))
        · intro j hj
          refine WpV.seq ?_
          refine WpV.seq (WpV.regionE (by simp only [go_sem, reduceCtorEq, Nat.reduceAdd, Nat.reduceMul, Nat.reduceSub, Nat.reduceLT, Nat.reduceLeDiff, Nat.reduceEqDiff, Nat.reduceBEq, Nat.reducePow]; rfl) (Marks.nil _) ?_)
          simp only [Vthen, VinBlock, if_true, if_false, Nat.reduceEqDiff, reduceCtorEq]
          refine WpV.cond rfl (fun hb => WpV.skip ?_) (fun hb => WpV.exit ?_)
          · have hltj : (j : Int) - 1 < (b.length : Int) := of_decide_eq_true ‹_›
            have hltj' : j < b.length + 1 := by omega
            obtain ⟨b', hb', hspd⟩ : ∃ b' : List Int, (∀ i : Nat, contB b' (i : Int) = (contB b (i : Int) && (if j = 0 then true else !(b.getD (j - 1) 0 == (i : Int))))) ∧ (decide (spreadF (withoutF (c.looksF w Bd) b') ≤ s) = decide (j = 0)) := by
              by_cases hj0 : j = 0
              · exact ⟨b, fun i => by rw [if_pos hj0, Bool.and_true], by rw [decide_eq_true hsp, decide_eq_true hj0]⟩
              · refine ⟨b.eraseIdx (j - 1), fun i => by rw [if_neg hj0]; exact mem_erase hbu (by omega) _, ?_⟩
                rw [decide_eq_false (hspn (j - 1) (by omega)), decide_eq_false hj0]
            have hj22 : IntKind.i64.wrap ((j : Int) - 1 + 1) = ((j + 1 : Nat) : Int) - 1 := by rw [wrap64 (by omega)]; omega
            simp only [Vthen, VinBlock, if_true, if_false, Nat.reduceEqDiff, reduceCtorEq]
            refine WpV.seq (WpV.block ?_)
            refine WpV.seq (WpV.regionE (by simp only [go_sem, reduceCtorEq, Nat.reduceAdd, Nat.reduceMul, Nat.reduceSub, Nat.reduceLT, Nat.reduceLeDiff, Nat.reduceEqDiff, Nat.reduceBEq, Nat.reducePow]; rfl) (Marks.nil _) ?_)
            simp only [Vthen, VinBlock, if_true, if_false, Nat.reduceEqDiff, reduceCtorEq]
            refine WpV.seqS [(7, .cp c.cells 0), (8, vints false fl w), (11, vint (s : Int)), (15, vints false false Bd), (20, rowB b), (22, vint ((j : Int) - 1)), (23, vint (loF (withoutF (c.looksF w Bd) b'))), (24, vint (hiF (withoutF (c.looksF w Bd) b')))] ?_ ?_
            · refine WpV.seq (WpV.regionE (by simp only [go_sem, reduceCtorEq, Nat.reduceAdd, Nat.reduceMul, Nat.reduceSub, Nat.reduceLT, Nat.reduceLeDiff, Nat.reduceEqDiff, Nat.reduceBEq, Nat.reducePow]; rfl) (Marks.nil _) ?_)
              simp only [Vthen, VinBlock, if_true, if_false, Nat.reduceEqDiff, reduceCtorEq]
              refine WpV.block (WpV.loopN Bd.length (fun i => [(7, .cp c.cells 0), (8, vints false fl w), (11, vint (s : Int)), (15, vints false false Bd), (20, rowB b), (22, vint ((j : Int) - 1)), (23, vint (loF (withoutN (c.looksF w Bd) b' i))), (24, vint (hiF (withoutN (c.looksF w Bd) b' i))), (25, .bool (!(withoutN (c.looksF w Bd) b' i).isEmpty)), (26, vint i)]) (fun _ => H) ?_ rfl ?_)
              · exact .cons rfl rfl (.cons rfl rfl (.cons rfl rfl (.cons rfl rfl (.cons rfl rfl (.cons rfl rfl (.cons rfl rfl (.cons rfl rfl (.cons rfl rfl (.cons rfl rfl (.nil _))))))))))
              · intro i hi
                have hnext : IntKind.i64.wrap ((i : Int) + 1) = ((i + 1 : Nat) : Int) := by rw [wrap64 (by omega)]; rfl
                refine WpV.seq ?_
                refine WpV.seq (WpV.regionE (by simp only [go_sem, reduceCtorEq, Nat.reduceAdd, Nat.reduceMul, Nat.reduceSub, Nat.reduceLT, Nat.reduceLeDiff, Nat.reduceEqDiff, Nat.reduceBEq, Nat.reducePow]; rfl) (Marks.nil _) ?_)
                simp only [Vthen, VinBlock, if_true, if_false, Nat.reduceEqDiff, reduceCtorEq]
                refine WpV.cond rfl (fun hb => WpV.skip ?_) (fun hb => WpV.exit ?_)
                · have hlt : (i : Int) < (Bd.length : Int) := of_decide_eq_true ‹_›
                  have hlt' : i < Bd.length := by omega
                  have hbi := int_at' (L := Bd) hlt'
                  have hble := hCg.le i hlt'
                  have hlk := look_any H c hcV false fl w hw i (by omega) (Bd.getD i 0) (by omega)
                  have hhs := has_any H b.isEmpty b.isEmpty b (by omega) (i : Int)
                  rw [any_cont] at hhs
                  have hb'i := hb' i
                  simp only [Vthen, VinBlock, if_true, if_false, Nat.reduceEqDiff, reduceCtorEq]
                  refine WpV.seq (WpV.block ?_)
                  refine WpV.seq ?_
                  cases hcb : contB b (i : Int)
                  · rw [hcb] at hhs
                    have hcb' : contB b' (i : Int) = false := by rw [hb'i, hcb, Bool.false_and]
                    refine WpV.seq (WpV.region ?_)
                    refine WpOps.take 2 (by simp only [go_sem, reduceCtorEq, Nat.reduceAdd, Nat.reduceMul, Nat.reduceSub, Nat.reduceLT, Nat.reduceLeDiff, Nat.reduceEqDiff, Nat.reduceBEq, Nat.reducePow]; rfl) ?_
                    refine WpOps.step (by rfl) (by rfl) (OpW.callY rfl (by rfl) (by rfl) (by rfl) (enters_of Tryz.func24 (by kernel_rfl) rfl) ((hhs).mono ?_))
                    rintro _ _ ⟨rfl, hH⟩
                    replace hH := hH.symm
                    subst hH
                    refine WpOps.take 8 (by simp only [go_sem, reduceCtorEq, Nat.reduceAdd, Nat.reduceMul, Nat.reduceSub, Nat.reduceLT, Nat.reduceLeDiff, Nat.reduceEqDiff, Nat.reduceBEq, Nat.reducePow]; rfl) ?_
                    refine WpOps.take 4 (by simp only [go_sem, reduceCtorEq, Nat.reduceAdd, Nat.reduceMul, Nat.reduceSub, Nat.reduceLT, Nat.reduceLeDiff, Nat.reduceEqDiff, Nat.reduceBEq, Nat.reducePow]; rfl) (WpOps.nil ⟨Marks.nil _, ?_⟩)
                    simp only [Vthen, VinBlock, if_true, if_false, Nat.reduceEqDiff, reduceCtorEq]
                    refine WpV.cond rfl (fun hb => by cases hb) (fun hb => WpV.skip ?_)
                    simp only [Vthen, VinBlock, if_true, if_false, Nat.reduceEqDiff, reduceCtorEq]
                    have hrest : withoutN (c.looksF w Bd) b' (i + 1) = withoutN (c.looksF w Bd) b' i ++ [Bd.getD i 0 + (c.mores w).getD i 0] := by rw [withoutN_succ, hcb', if_neg (by decide), hLat i hlt']
                    have hlo := loF_snoc (withoutN (c.looksF w Bd) b' i) (Bd.getD i 0 + (c.mores w).getD i 0)
                    have hhi := hiF_snoc (withoutN (c.looksF w Bd) b' i) (Bd.getD i 0 + (c.mores w).getD i 0)
                    have hne : (withoutN (c.looksF w Bd) b' i ++ [Bd.getD i 0 + (c.mores w).getD i 0]).isEmpty = false := by simp
                    rw [← hrest] at hlo hhi hne
                    generalize withoutN (c.looksF w Bd) b' (i + 1) = xs1 at *
                    generalize withoutN (c.looksF w Bd) b' i = xs at *
                    refine WpV.seq (WpV.regionD Tryz.mixed (by kernel_rfl) (by kernel_rfl) ?_)
                    refine LexD.take 7 (by rfl) (by simp only [go_sem, reduceCtorEq, Nat.reduceAdd, Nat.reduceMul, Nat.reduceSub, Nat.reduceLT, Nat.reduceLeDiff, Nat.reduceEqDiff, Nat.reduceBEq, Nat.reducePow, hlt, hbi]; rfl) ?_
                    refine LexD.step (by rfl) (by rfl) (OpW.callY rfl (by rfl) (by rfl) (by rfl) (enters_of Tryz.func20 (by kernel_rfl) rfl) (hlk)) ?_
                    refine LexD.take 1 (by rfl) (by simp only [go_sem, reduceCtorEq, Nat.reduceAdd, Nat.reduceMul, Nat.reduceSub, Nat.reduceLT, Nat.reduceLeDiff, Nat.reduceEqDiff, Nat.reduceBEq, Nat.reducePow, hlt, hbi]; rfl) (LexD.nilE ⟨Marks.nil _, ?_⟩)
                    simp only [Vthen, VinBlock, if_true, if_false, Nat.reduceEqDiff, reduceCtorEq]
                    generalize Bd.getD i 0 + (c.mores w).getD i 0 = y at *
                    refine WpV.seq ?_
                    by_cases hem : xs = []
                    · rw [if_pos hem] at hlo hhi
                      have hie : xs.isEmpty = true := by rw [hem]; rfl
                      refine WpV.seq (WpV.regionE (by simp only [go_sem, reduceCtorEq, Nat.reduceAdd, Nat.reduceMul, Nat.reduceSub, Nat.reduceLT, Nat.reduceLeDiff, Nat.reduceEqDiff, Nat.reduceBEq, Nat.reducePow, hie]; rfl) (Marks.nil _) ?_)
                      simp only [Vthen, VinBlock, if_true, if_false, Nat.reduceEqDiff, reduceCtorEq]
                      refine WpV.cond rfl (fun hb => ?_) (fun hb => by cases hb)
                      refine WpV.regionE (by simp only [go_sem, reduceCtorEq, Nat.reduceAdd, Nat.reduceMul, Nat.reduceSub, Nat.reduceLT, Nat.reduceLeDiff, Nat.reduceEqDiff, Nat.reduceBEq, Nat.reducePow]; rfl) (Marks.nil _) ?_
                      simp only [Vthen, VinBlock, if_true, if_false, Nat.reduceEqDiff, reduceCtorEq]
                      refine WpV.regionE (by simp only [go_sem, reduceCtorEq, Nat.reduceAdd, Nat.reduceMul, Nat.reduceSub, Nat.reduceLT, Nat.reduceLeDiff, Nat.reduceEqDiff, Nat.reduceBEq, Nat.reducePow, ite_self]; rfl) (Marks.nil _) ?_
                      simp only [Vthen, VinBlock, if_true, if_false, Nat.reduceEqDiff, reduceCtorEq]
                      refine WpV.regionE (by simp only [go_sem, reduceCtorEq, Nat.reduceAdd, Nat.reduceMul, Nat.reduceSub, Nat.reduceLT, Nat.reduceLeDiff, Nat.reduceEqDiff, Nat.reduceBEq, Nat.reducePow, hnext]; rfl) (Marks.nil _) ?_
                      simp only [Vthen, VinBlock, if_true, if_false, Nat.reduceEqDiff, reduceCtorEq]
                      exact ⟨by first | rfl | trivial, hlt', .cons rfl rfl (.cons rfl rfl (.cons rfl rfl (.cons rfl rfl (.cons rfl rfl (.cons rfl (by first | rfl | rw [hjm]) (.cons rfl (by rw [hlo]) (.cons rfl (by rw [hhi]) (.cons rfl (by rw [hne]; rfl) (.cons rfl rfl (.nil _)))))))))), by first | rfl | trivial⟩
                    · rw [if_neg hem] at hlo hhi
                      have hie : xs.isEmpty = false := by simpa using hem
                      refine WpV.seq (WpV.regionE (by simp only [go_sem, reduceCtorEq, Nat.reduceAdd, Nat.reduceMul, Nat.reduceSub, Nat.reduceLT, Nat.reduceLeDiff, Nat.reduceEqDiff, Nat.reduceBEq, Nat.reducePow, hie]; rfl) (Marks.nil _) ?_)
                      simp only [Vthen, VinBlock, if_true, if_false, Nat.reduceEqDiff, reduceCtorEq]
                      refine WpV.cond rfl (fun hb => by cases hb) (fun hb => WpV.skip ?_)
                      simp only [Vthen, VinBlock, if_true, if_false, Nat.reduceEqDiff, reduceCtorEq]
                      refine WpV.regionE (by simp only [go_sem, reduceCtorEq, Nat.reduceAdd, Nat.reduceMul, Nat.reduceSub, Nat.reduceLT, Nat.reduceLeDiff, Nat.reduceEqDiff, Nat.reduceBEq, Nat.reducePow]; rfl) (Marks.nil _) ?_
                      simp only [Vthen, VinBlock, if_true, if_false, Nat.reduceEqDiff, reduceCtorEq]
                      refine WpV.regionE (by simp only [go_sem, reduceCtorEq, Nat.reduceAdd, Nat.reduceMul, Nat.reduceSub, Nat.reduceLT, Nat.reduceLeDiff, Nat.reduceEqDiff, Nat.reduceBEq, Nat.reducePow, hnext]; rfl) (Marks.nil _) ?_
                      simp only [Vthen, VinBlock, if_true, if_false, Nat.reduceEqDiff, reduceCtorEq]
                      exact ⟨by first | rfl | trivial, hlt', .cons rfl rfl (.cons rfl rfl (.cons rfl rfl (.cons rfl rfl (.cons rfl rfl (.cons rfl (by first | rfl | rw [hjm]) (.cons rfl (by rw [hlo]; rfl) (.cons rfl (by rw [hhi]; rfl) (.cons rfl (by rw [hne]; rfl) (.cons rfl rfl (.nil _)))))))))), by first | rfl | trivial⟩
                  · rw [hcb] at hhs
                    by_cases hj0 : j = 0
                    · have hjn : (j : Int) - 1 < 0 := by omega
                      have hcb' : contB b' (i : Int) = true := by rw [hb'i, hcb, hj0]; rfl
                      refine WpV.seq (WpV.region ?_)
                      refine WpOps.take 2 (by simp only [go_sem, reduceCtorEq, Nat.reduceAdd, Nat.reduceMul, Nat.reduceSub, Nat.reduceLT, Nat.reduceLeDiff, Nat.reduceEqDiff, Nat.reduceBEq, Nat.reducePow, hjn]; rfl) ?_
                      refine WpOps.step (by rfl) (by rfl) (OpW.callY rfl (by rfl) (by rfl) (by rfl) (enters_of Tryz.func24 (by kernel_rfl) rfl) ((hhs).mono ?_))
                      rintro _ _ ⟨rfl, hH⟩
                      replace hH := hH.symm
                      subst hH
                      refine WpOps.take 8 (by simp only [go_sem, reduceCtorEq, Nat.reduceAdd, Nat.reduceMul, Nat.reduceSub, Nat.reduceLT, Nat.reduceLeDiff, Nat.reduceEqDiff, Nat.reduceBEq, Nat.reducePow, hjn]; rfl) ?_
                      refine WpOps.take 4 (by simp only [go_sem, reduceCtorEq, Nat.reduceAdd, Nat.reduceMul, Nat.reduceSub, Nat.reduceLT, Nat.reduceLeDiff, Nat.reduceEqDiff, Nat.reduceBEq, Nat.reducePow, hjn]; rfl) (WpOps.nil ⟨Marks.nil _, ?_⟩)
                      simp only [Vthen, VinBlock, if_true, if_false, Nat.reduceEqDiff, reduceCtorEq]
                      refine WpV.cond rfl (fun hb => WpV.exit ?_) (fun hb => by cases hb)
                      simp only [Vthen, VinBlock, if_true, if_false, Nat.reduceEqDiff, reduceCtorEq]
                      have hrest : withoutN (c.looksF w Bd) b' (i + 1) = withoutN (c.looksF w Bd) b' i := by rw [withoutN_succ, hcb', if_pos rfl, List.append_nil]
                      refine WpV.regionE (by simp only [go_sem, reduceCtorEq, Nat.reduceAdd, Nat.reduceMul, Nat.reduceSub, Nat.reduceLT, Nat.reduceLeDiff, Nat.reduceEqDiff, Nat.reduceBEq, Nat.reducePow, hnext]; rfl) (Marks.nil _) ?_
                      simp only [Vthen, VinBlock, if_true, if_false, Nat.reduceEqDiff, reduceCtorEq]
                      exact ⟨by first | rfl | trivial, hlt', .cons rfl rfl (.cons rfl rfl (.cons rfl rfl (.cons rfl rfl (.cons rfl rfl (.cons rfl (by first | rfl | rw [hjm]) (.cons rfl (by rw [hrest]) (.cons rfl (by rw [hrest]) (.cons rfl (by rw [hrest]) (.cons rfl rfl (.nil _)))))))))), by first | rfl | trivial⟩
                    · have hjn : ¬ ((j : Int) - 1 < 0) := by omega
                      have hjm : (j : Int) - 1 = ((j - 1 : Nat) : Int) := by omega
                      have hjn' : ¬ (((j - 1 : Nat) : Int) < 0) := by omega
                      have hjl : ((j - 1 : Nat) : Int) < (b.length : Int) := by omega
                      have hjb := int_at' (L := b) (k := j - 1) (by omega)
                      cases hne : (b.getD (j - 1) 0 != (i : Int))
                      · have hcb' : contB b' (i : Int) = false := by
                          rw [hb'i, hcb, if_neg hj0]
                          have : (b.getD (j - 1) 0 == (i : Int)) = true := by simpa using hne
                          rw [this]; rfl
                        refine WpV.seq (WpV.region ?_)
                        refine WpOps.take 2 (by simp only [go_sem, reduceCtorEq, Nat.reduceAdd, Nat.reduceMul, Nat.reduceSub, Nat.reduceLT, Nat.reduceLeDiff, Nat.reduceEqDiff, Nat.reduceBEq, Nat.reducePow, hjm, hjn', hjl, hjb, hne]; rfl) ?_
                        refine WpOps.step (by rfl) (by rfl) (OpW.callY rfl (by rfl) (by rfl) (by rfl) (enters_of Tryz.func24 (by kernel_rfl) rfl) ((hhs).mono ?_))
                        rintro _ _ ⟨rfl, hH⟩
                        replace hH := hH.symm
                        subst hH
                        refine WpOps.take 8 (by simp only [go_sem, reduceCtorEq, Nat.reduceAdd, Nat.reduceMul, Nat.reduceSub, Nat.reduceLT, Nat.reduceLeDiff, Nat.reduceEqDiff, Nat.reduceBEq, Nat.reducePow, hjm, hjn', hjl, hjb, hne]; rfl) ?_
                        refine WpOps.take 4 (by simp only [go_sem, reduceCtorEq, Nat.reduceAdd, Nat.reduceMul, Nat.reduceSub, Nat.reduceLT, Nat.reduceLeDiff, Nat.reduceEqDiff, Nat.reduceBEq, Nat.reducePow, hjm, hjn', hjl, hjb, hne]; rfl) (WpOps.nil ⟨Marks.nil _, ?_⟩)
                        simp only [Vthen, VinBlock, if_true, if_false, Nat.reduceEqDiff, reduceCtorEq]
                        refine WpV.cond rfl (fun hb => by cases hb) (fun hb => WpV.skip ?_)
                        simp only [Vthen, VinBlock, if_true, if_false, Nat.reduceEqDiff, reduceCtorEq]
                        have hrest : withoutN (c.looksF w Bd) b' (i + 1) = withoutN (c.looksF w Bd) b' i ++ [Bd.getD i 0 + (c.mores w).getD i 0] := by rw [withoutN_succ, hcb', if_neg (by decide), hLat i hlt']
                        have hlo := loF_snoc (withoutN (c.looksF w Bd) b' i) (Bd.getD i 0 + (c.mores w).getD i 0)
                        have hhi := hiF_snoc (withoutN (c.looksF w Bd) b' i) (Bd.getD i 0 + (c.mores w).getD i 0)
                        have hne : (withoutN (c.looksF w Bd) b' i ++ [Bd.getD i 0 + (c.mores w).getD i 0]).isEmpty = false := by simp
                        rw [← hrest] at hlo hhi hne
                        generalize withoutN (c.looksF w Bd) b' (i + 1) = xs1 at *
                        generalize withoutN (c.looksF w Bd) b' i = xs at *
                        refine WpV.seq (WpV.regionD Tryz.mixed (by kernel_rfl) (by kernel_rfl) ?_)
                        refine LexD.take 7 (by rfl) (by simp only [go_sem, reduceCtorEq, Nat.reduceAdd, Nat.reduceMul, Nat.reduceSub, Nat.reduceLT, Nat.reduceLeDiff, Nat.reduceEqDiff, Nat.reduceBEq, Nat.reducePow, hlt, hbi]; rfl) ?_
                        refine LexD.step (by rfl) (by rfl) (OpW.callY rfl (by rfl) (by rfl) (by rfl) (enters_of Tryz.func20 (by kernel_rfl) rfl) (hlk)) ?_
                        refine LexD.take 1 (by rfl) (by simp only [go_sem, reduceCtorEq, Nat.reduceAdd, Nat.reduceMul, Nat.reduceSub, Nat.reduceLT, Nat.reduceLeDiff, Nat.reduceEqDiff, Nat.reduceBEq, Nat.reducePow, hlt, hbi]; rfl) (LexD.nilE ⟨Marks.nil _, ?_⟩)
                        simp only [Vthen, VinBlock, if_true, if_false, Nat.reduceEqDiff, reduceCtorEq]
                        generalize Bd.getD i 0 + (c.mores w).getD i 0 = y at *
                        refine WpV.seq ?_
                        by_cases hem : xs = []
                        · rw [if_pos hem] at hlo hhi
                          have hie : xs.isEmpty = true := by rw [hem]; rfl
                          refine WpV.seq (WpV.regionE (by simp only [go_sem, reduceCtorEq, Nat.reduceAdd, Nat.reduceMul, Nat.reduceSub, Nat.reduceLT, Nat.reduceLeDiff, Nat.reduceEqDiff, Nat.reduceBEq, Nat.reducePow, hie]; rfl) (Marks.nil _) ?_)
                          simp only [Vthen, VinBlock, if_true, if_false, Nat.reduceEqDiff, reduceCtorEq]
                          refine WpV.cond rfl (fun hb => ?_) (fun hb => by cases hb)
                          refine WpV.regionE (by simp only [go_sem, reduceCtorEq, Nat.reduceAdd, Nat.reduceMul, Nat.reduceSub, Nat.reduceLT, Nat.reduceLeDiff, Nat.reduceEqDiff, Nat.reduceBEq, Nat.reducePow]; rfl) (Marks.nil _) ?_
                          simp only [Vthen, VinBlock, if_true, if_false, Nat.reduceEqDiff, reduceCtorEq]
                          refine WpV.regionE (by simp only [go_sem, reduceCtorEq, Nat.reduceAdd, Nat.reduceMul, Nat.reduceSub, Nat.reduceLT, Nat.reduceLeDiff, Nat.reduceEqDiff, Nat.reduceBEq, Nat.reducePow, ite_self]; rfl) (Marks.nil _) ?_
                          simp only [Vthen, VinBlock, if_true, if_false, Nat.reduceEqDiff, reduceCtorEq]
                          refine WpV.regionE (by simp only [go_sem, reduceCtorEq, Nat.reduceAdd, Nat.reduceMul, Nat.reduceSub, Nat.reduceLT, Nat.reduceLeDiff, Nat.reduceEqDiff, Nat.reduceBEq, Nat.reducePow, hnext]; rfl) (Marks.nil _) ?_
                          simp only [Vthen, VinBlock, if_true, if_false, Nat.reduceEqDiff, reduceCtorEq]
                          exact ⟨by first | rfl | trivial, hlt', .cons rfl rfl (.cons rfl rfl (.cons rfl rfl (.cons rfl rfl (.cons rfl rfl (.cons rfl (by first | rfl | rw [hjm]) (.cons rfl (by rw [hlo]) (.cons rfl (by rw [hhi]) (.cons rfl (by rw [hne]; rfl) (.cons rfl rfl (.nil _)))))))))), by first | rfl | trivial⟩
                        · rw [if_neg hem] at hlo hhi
                          have hie : xs.isEmpty = false := by simpa using hem
                          refine WpV.seq (WpV.regionE (by simp only [go_sem, reduceCtorEq, Nat.reduceAdd, Nat.reduceMul, Nat.reduceSub, Nat.reduceLT, Nat.reduceLeDiff, Nat.reduceEqDiff, Nat.reduceBEq, Nat.reducePow, hie]; rfl) (Marks.nil _) ?_)
                          simp only [Vthen, VinBlock, if_true, if_false, Nat.reduceEqDiff, reduceCtorEq]
                          refine WpV.cond rfl (fun hb => by cases hb) (fun hb => WpV.skip ?_)
                          simp only [Vthen, VinBlock, if_true, if_false, Nat.reduceEqDiff, reduceCtorEq]
                          refine WpV.regionE (by simp only [go_sem, reduceCtorEq, Nat.reduceAdd, Nat.reduceMul, Nat.reduceSub, Nat.reduceLT, Nat.reduceLeDiff, Nat.reduceEqDiff, Nat.reduceBEq, Nat.reducePow]; rfl) (Marks.nil _) ?_
                          simp only [Vthen, VinBlock, if_true, if_false, Nat.reduceEqDiff, reduceCtorEq]
                          refine WpV.regionE (by simp only [go_sem, reduceCtorEq, Nat.reduceAdd, Nat.reduceMul, Nat.reduceSub, Nat.reduceLT, Nat.reduceLeDiff, Nat.reduceEqDiff, Nat.reduceBEq, Nat.reducePow, hnext]; rfl) (Marks.nil _) ?_
                          simp only [Vthen, VinBlock, if_true, if_false, Nat.reduceEqDiff, reduceCtorEq]
                          exact ⟨by first | rfl | trivial, hlt', .cons rfl rfl (.cons rfl rfl (.cons rfl rfl (.cons rfl rfl (.cons rfl rfl (.cons rfl (by first | rfl | rw [hjm]) (.cons rfl (by rw [hlo]; rfl) (.cons rfl (by rw [hhi]; rfl) (.cons rfl (by rw [hne]; rfl) (.cons rfl rfl (.nil _)))))))))), by first | rfl | trivial⟩
                      · have hcb' : contB b' (i : Int) = true := by
                          rw [hb'i, hcb, if_neg hj0]
                          have : (b.getD (j - 1) 0 == (i : Int)) = false := by simpa using hne
                          rw [this]; rfl
                        refine WpV.seq (WpV.region ?_)
                        refine WpOps.take 2 (by simp only [go_sem, reduceCtorEq, Nat.reduceAdd, Nat.reduceMul, Nat.reduceSub, Nat.reduceLT, Nat.reduceLeDiff, Nat.reduceEqDiff, Nat.reduceBEq, Nat.reducePow, hjm, hjn', hjl, hjb, hne]; rfl) ?_
                        refine WpOps.step (by rfl) (by rfl) (OpW.callY rfl (by rfl) (by rfl) (by rfl) (enters_of Tryz.func24 (by kernel_rfl) rfl) ((hhs).mono ?_))
                        rintro _ _ ⟨rfl, hH⟩
                        replace hH := hH.symm
                        subst hH
                        refine WpOps.take 8 (by simp only [go_sem, reduceCtorEq, Nat.reduceAdd, Nat.reduceMul, Nat.reduceSub, Nat.reduceLT, Nat.reduceLeDiff, Nat.reduceEqDiff, Nat.reduceBEq, Nat.reducePow, hjm, hjn', hjl, hjb, hne]; rfl) ?_
                        refine WpOps.take 4 (by simp only [go_sem, reduceCtorEq, Nat.reduceAdd, Nat.reduceMul, Nat.reduceSub, Nat.reduceLT, Nat.reduceLeDiff, Nat.reduceEqDiff, Nat.reduceBEq, Nat.reducePow, hjm, hjn', hjl, hjb, hne]; rfl) (WpOps.nil ⟨Marks.nil _, ?_⟩)
                        simp only [Vthen, VinBlock, if_true, if_false, Nat.reduceEqDiff, reduceCtorEq]
                        refine WpV.cond rfl (fun hb => WpV.exit ?_) (fun hb => by cases hb)
                        simp only [Vthen, VinBlock, if_true, if_false, Nat.reduceEqDiff, reduceCtorEq]
                        have hrest : withoutN (c.looksF w Bd) b' (i + 1) = withoutN (c.looksF w Bd) b' i := by rw [withoutN_succ, hcb', if_pos rfl, List.append_nil]
                        refine WpV.regionE (by simp only [go_sem, reduceCtorEq, Nat.reduceAdd, Nat.reduceMul, Nat.reduceSub, Nat.reduceLT, Nat.reduceLeDiff, Nat.reduceEqDiff, Nat.reduceBEq, Nat.reducePow, hnext]; rfl) (Marks.nil _) ?_
                        simp only [Vthen, VinBlock, if_true, if_false, Nat.reduceEqDiff, reduceCtorEq]
                        exact ⟨by first | rfl | trivial, hlt', .cons rfl rfl (.cons rfl rfl (.cons rfl rfl (.cons rfl rfl (.cons rfl rfl (.cons rfl (by first | rfl | rw [hjm]) (.cons rfl (by rw [hrest]) (.cons rfl (by rw [hrest]) (.cons rfl (by rw [hrest]) (.cons rfl rfl (.nil _)))))))))), by first | rfl | trivial⟩
                · have hge : i = Bd.length := by have := of_decide_eq_false ‹_›; omega
                  have hwf : withoutN (c.looksF w Bd) b' i = withoutF (c.looksF w Bd) b' := by rw [hge, ← hLl]
                  simp only [Vthen, VinBlock, if_true, if_false, Nat.reduceEqDiff, reduceCtorEq]
                  rw [hwf]
                  exact ⟨by first | rfl | trivial, by first | rfl | trivial, Sub.cons rfl rfl (Sub.cons rfl rfl (Sub.cons rfl rfl (Sub.cons rfl rfl (Sub.cons rfl rfl (Sub.cons rfl rfl (Sub.cons rfl rfl (Sub.cons rfl rfl (Sub.nil _))))))))⟩
            rw [spread_eq] at hspd
            have hbd := hLb b' (c.looksF w Bd).length (by omega)
            have hlb := loF_le hbd
            have hhb := hiF_le hbd
            generalize loF (withoutF (c.looksF w Bd) b') = lo1 at *
            generalize hiF (withoutF (c.looksF w Bd) b') = hi1 at *
            have hws : IntKind.i64.wrap (hi1 - lo1) = hi1 - lo1 := wrap64 (by omega)
            have q1 : (true != true) = false := rfl
            have q2 : (false != false) = false := rfl
            by_cases hj0 : j = 0
            · rw [decide_eq_true hj0] at hspd
              have h1 : hi1 - lo1 ≤ s := of_decide_eq_true hspd
              have h2 : (j : Int) - 1 < 0 := by omega
              refine WpV.seq (WpV.regionE (by simp only [go_sem, reduceCtorEq, Nat.reduceAdd, Nat.reduceMul, Nat.reduceSub, Nat.reduceLT, Nat.reduceLeDiff, Nat.reduceEqDiff, Nat.reduceBEq, Nat.reducePow, hws, h1, h2, q1]; rfl) (Marks.nil _) ?_)
              simp only [Vthen, VinBlock, if_true, if_false, Nat.reduceEqDiff, reduceCtorEq]
              refine WpV.cond rfl (fun hb => by cases hb) (fun hb => WpV.skip ?_)
              simp only [Vthen, VinBlock, if_true, if_false, Nat.reduceEqDiff, reduceCtorEq]
              refine WpV.regionE (by simp only [go_sem, reduceCtorEq, Nat.reduceAdd, Nat.reduceMul, Nat.reduceSub, Nat.reduceLT, Nat.reduceLeDiff, Nat.reduceEqDiff, Nat.reduceBEq, Nat.reducePow, hj22]; rfl) (Marks.nil _) ?_
              simp only [Vthen, VinBlock, if_true, if_false, Nat.reduceEqDiff, reduceCtorEq]
              exact ⟨by first | rfl | trivial, hltj', .cons rfl rfl (.cons rfl rfl (.cons rfl rfl (.cons rfl rfl (.cons rfl rfl (.cons rfl rfl (.nil _)))))), by first | rfl | trivial⟩
            · rw [decide_eq_false hj0] at hspd
              have h1 : ¬ (hi1 - lo1 ≤ s) := of_decide_eq_false hspd
              have h2 : ¬ ((j : Int) - 1 < 0) := by omega
              refine WpV.seq (WpV.regionE (by simp only [go_sem, reduceCtorEq, Nat.reduceAdd, Nat.reduceMul, Nat.reduceSub, Nat.reduceLT, Nat.reduceLeDiff, Nat.reduceEqDiff, Nat.reduceBEq, Nat.reducePow, hws, h1, h2, q2]; rfl) (Marks.nil _) ?_)
              simp only [Vthen, VinBlock, if_true, if_false, Nat.reduceEqDiff, reduceCtorEq]
              refine WpV.cond rfl (fun hb => by cases hb) (fun hb => WpV.skip ?_)
              simp only [Vthen, VinBlock, if_true, if_false, Nat.reduceEqDiff, reduceCtorEq]
              refine WpV.regionE (by simp only [go_sem, reduceCtorEq, Nat.reduceAdd, Nat.reduceMul, Nat.reduceSub, Nat.reduceLT, Nat.reduceLeDiff, Nat.reduceEqDiff, Nat.reduceBEq, Nat.reducePow, hj22]; rfl) (Marks.nil _) ?_
              simp only [Vthen, VinBlock, if_true, if_false, Nat.reduceEqDiff, reduceCtorEq]
              exact ⟨by first | rfl | trivial, hltj', .cons rfl rfl (.cons rfl rfl (.cons rfl rfl (.cons rfl rfl (.cons rfl rfl (.cons rfl rfl (.nil _)))))), by first | rfl | trivial⟩
          · simp only [Vthen, VinBlock, if_true, if_false, Nat.reduceEqDiff, reduceCtorEq]
            exact ⟨by first | rfl | trivial, by first | rfl | trivial, Sub.cons rfl rfl (Sub.cons rfl rfl (Sub.cons rfl rfl (Sub.cons rfl rfl (Sub.cons rfl rfl (Sub.nil _)))))⟩
      refine WpV.seqS [] ?_ ?_
      · refine WpV.seq (WpV.regionE (by simp only [go_sem, reduceCtorEq, Nat.reduceAdd, Nat.reduceMul, Nat.reduceSub, Nat.reduceLT, Nat.reduceLeDiff, Nat.reduceEqDiff, Nat.reduceBEq, Nat.reducePow]; rfl) (Marks.nil _) ?_)
        simp only [Vthen, VinBlock, if_true, if_false, Nat.reduceEqDiff, reduceCtorEq]
        refine WpV.block (WpV.loopN b.length (fun i => [(15, vints false false Bd), (20, rowB b), (28, vint i)]) (fun _ => H) ?_ rfl ?_)
        · exact .cons rfl rfl (.cons rfl rfl (.cons rfl rfl (.nil _)))
        · intro i hi
          have hnext : IntKind.i64.wrap ((i : Int) + 1) = ((i + 1 : Nat) : Int) := by rw [wrap64 (by omega)]; rfl
          refine WpV.seq ?_
          refine WpV.seq (WpV.regionE (by simp only [go_sem, reduceCtorEq, Nat.reduceAdd, Nat.reduceMul, Nat.reduceSub, Nat.reduceLT, Nat.reduceLeDiff, Nat.reduceEqDiff, Nat.reduceBEq, Nat.reducePow]; rfl) (Marks.nil _) ?_)
          simp only [Vthen, VinBlock, if_true, if_false, Nat.reduceEqDiff, reduceCtorEq]
          refine WpV.cond rfl (fun hb => WpV.skip ?_) (fun hb => WpV.exit ?_)
          · have hlt : (i : Int) < (b.length : Int) := of_decide_eq_true ‹_›
            have hlt' : i < b.length := by omega
            have hqi := int_at' (L := b) hlt'
            have hyl := hbm i hlt'
            have y0 : ¬ (b.getD i 0 < 0) := by omega
            have y5 : ¬ (b.getD i 0 ≥ (Bd.length : Int)) := by omega
            simp only [Vthen, VinBlock, if_true, if_false, Nat.reduceEqDiff, reduceCtorEq]
            refine WpV.seq (WpV.block ?_)
            by_cases hi0 : i = 0
            · have e0 : ¬ ((i : Int) > 0) := by omega
              refine WpV.seq (WpV.regionD Tryz.mixed (by kernel_rfl) (by kernel_rfl) ?_)
              refine LexD.take 8 (by rfl) (by simp only [go_sem, reduceCtorEq, Nat.reduceAdd, Nat.reduceMul, Nat.reduceSub, Nat.reduceLT, Nat.reduceLeDiff, Nat.reduceEqDiff, Nat.reduceBEq, Nat.reducePow, hlt, hqi, y0, y5, e0]; rfl) ?_
              refine LexD.take 8 (by rfl) (by simp only [go_sem, reduceCtorEq, Nat.reduceAdd, Nat.reduceMul, Nat.reduceSub, Nat.reduceLT, Nat.reduceLeDiff, Nat.reduceEqDiff, Nat.reduceBEq, Nat.reducePow, hlt, hqi, y0, y5, e0]; rfl) ?_
              refine LexD.take 8 (by rfl) (by simp only [go_sem, reduceCtorEq, Nat.reduceAdd, Nat.reduceMul, Nat.reduceSub, Nat.reduceLT, Nat.reduceLeDiff, Nat.reduceEqDiff, Nat.reduceBEq, Nat.reducePow, hlt, hqi, y0, y5, e0]; rfl) ?_
              refine LexD.take 6 (by rfl) (by simp only [go_sem, reduceCtorEq, Nat.reduceAdd, Nat.reduceMul, Nat.reduceSub, Nat.reduceLT, Nat.reduceLeDiff, Nat.reduceEqDiff, Nat.reduceBEq, Nat.reducePow, hlt, hqi, y0, y5, e0]; rfl) (LexD.nilE ⟨Marks.nil _, ?_⟩)
              simp only [Vthen, VinBlock, if_true, if_false, Nat.reduceEqDiff, reduceCtorEq]
              refine WpV.cond rfl (fun hb => by cases hb) (fun hb => WpV.skip ?_)
              simp only [Vthen, VinBlock, if_true, if_false, Nat.reduceEqDiff, reduceCtorEq]
              refine WpV.regionE (by simp only [go_sem, reduceCtorEq, Nat.reduceAdd, Nat.reduceMul, Nat.reduceSub, Nat.reduceLT, Nat.reduceLeDiff, Nat.reduceEqDiff, Nat.reduceBEq, Nat.reducePow, hnext]; rfl) (Marks.nil _) ?_
              simp only [Vthen, VinBlock, if_true, if_false, Nat.reduceEqDiff, reduceCtorEq]
              exact ⟨by first | rfl | trivial, hlt', .cons rfl rfl (.cons rfl rfl (.cons rfl rfl (.nil _))), by first | rfl | trivial⟩
            · have e0 : (i : Int) > 0 := by omega
              have wi : IntKind.i64.wrap ((i : Int) - 1) = ((i - 1 : Nat) : Int) := by rw [wrap64 (by omega)]; omega
              have hlt3 : ((i - 1 : Nat) : Int) < (b.length : Int) := by omega
              have hqj := int_at' (L := b) (k := i - 1) (by omega)
              have hua := up_at hbu (i := i - 1) (by omega)
              rw [show i - 1 + 1 = i by omega] at hua
              have yle : ¬ (b.getD i 0 ≤ b.getD (i - 1) 0) := by omega
              refine WpV.seq (WpV.regionD Tryz.mixed (by kernel_rfl) (by kernel_rfl) ?_)
              refine LexD.take 8 (by rfl) (by simp only [go_sem, reduceCtorEq, Nat.reduceAdd, Nat.reduceMul, Nat.reduceSub, Nat.reduceLT, Nat.reduceLeDiff, Nat.reduceEqDiff, Nat.reduceBEq, Nat.reducePow, hlt, hqi, y0, y5, e0, wi, hlt3, hqj, yle]; rfl) ?_
              refine LexD.take 8 (by rfl) (by simp only [go_sem, reduceCtorEq, Nat.reduceAdd, Nat.reduceMul, Nat.reduceSub, Nat.reduceLT, Nat.reduceLeDiff, Nat.reduceEqDiff, Nat.reduceBEq, Nat.reducePow, hlt, hqi, y0, y5, e0, wi, hlt3, hqj, yle]; rfl) ?_
              refine LexD.take 8 (by rfl) (by simp only [go_sem, reduceCtorEq, Nat.reduceAdd, Nat.reduceMul, Nat.reduceSub, Nat.reduceLT, Nat.reduceLeDiff, Nat.reduceEqDiff, Nat.reduceBEq, Nat.reducePow, hlt, hqi, y0, y5, e0, wi, hlt3, hqj, yle]; rfl) ?_
              refine LexD.take 6 (by rfl) (by simp only [go_sem, reduceCtorEq, Nat.reduceAdd, Nat.reduceMul, Nat.reduceSub, Nat.reduceLT, Nat.reduceLeDiff, Nat.reduceEqDiff, Nat.reduceBEq, Nat.reducePow, hlt, hqi, y0, y5, e0, wi, hlt3, hqj, yle]; rfl) (LexD.nilE ⟨Marks.nil _, ?_⟩)
              simp only [Vthen, VinBlock, if_true, if_false, Nat.reduceEqDiff, reduceCtorEq]
              refine WpV.cond rfl (fun hb => by cases hb) (fun hb => WpV.skip ?_)
              simp only [Vthen, VinBlock, if_true, if_false, Nat.reduceEqDiff, reduceCtorEq]
              refine WpV.regionE (by simp only [go_sem, reduceCtorEq, Nat.reduceAdd, Nat.reduceMul, Nat.reduceSub, Nat.reduceLT, Nat.reduceLeDiff, Nat.reduceEqDiff, Nat.reduceBEq, Nat.reducePow, hnext]; rfl) (Marks.nil _) ?_
              simp only [Vthen, VinBlock, if_true, if_false, Nat.reduceEqDiff, reduceCtorEq]
              exact ⟨by first | rfl | trivial, hlt', .cons rfl rfl (.cons rfl rfl (.cons rfl rfl (.nil _))), by first | rfl | trivial⟩
          · simp only [Vthen, VinBlock, if_true, if_false, Nat.reduceEqDiff, reduceCtorEq]
            exact ⟨by first | rfl | trivial, by first | rfl | trivial, Sub.nil _⟩
      refine WpV.seq (WpV.region ?_)
      refine WpOps.step (by rfl) (by rfl) (OpW.callY rfl (by rfl) (by rfl) (by rfl) (enters_of Tryz.func17 (by kernel_rfl) rfl) ((known_any H).mono ?_))
      rintro _ _ ⟨rfl, hH⟩
      replace hH := hH.symm
      subst hH
      refine WpOps.take 1 (by simp only [go_sem, reduceCtorEq, Nat.reduceAdd, Nat.reduceMul, Nat.reduceSub, Nat.reduceLT, Nat.reduceLeDiff, Nat.reduceEqDiff, Nat.reduceBEq, Nat.reducePow]; rfl) (WpOps.nil ⟨Marks.nil _, ?_⟩)
      simp only [Vthen, VinBlock, if_true, if_false, Nat.reduceEqDiff, reduceCtorEq]
      refine WpV.ret ⟨Marks.nil _, List.nodup_nil, _, by simp only [Tryz.results7]; simp only [go_sem, reduceCtorEq, Nat.reduceAdd, Nat.reduceMul, Nat.reduceSub, Nat.reduceLT, Nat.reduceLeDiff, Nat.reduceEqDiff, Nat.reduceBEq, Nat.reducePow]; rfl, ?_⟩
      exact ⟨rfl, rfl⟩
end Go.Proofs.YtaekibilldjnmaaGreat
namespace Go.Proofs.YtaekibilldjnmaaGreat
open Go.ChangeShapes Go.WideShapes Go.ChangeAt Go.RowKit Go.Deep

theorem Tryz.ownKnob : ownKnob Tryz.prog.godebug = none := by kernel_rfl
theorem Tryz.laidOut : laidOutB Tryz.prog = true := by kernel_rfl
theorem Tryz.cells5 : Tryz.prog.cellsOf 5 = 1 := by kernel_rfl
theorem Tryz.cells22 : Tryz.prog.cellsOf 22 = 6 * 1 := by kernel_rfl
theorem Tryz.cells24 : Tryz.prog.cellsOf 24 = 3 * 1 := by kernel_rfl
theorem Tryz.cells59 : Tryz.prog.cellsOf 59 = 2 * 1 := by kernel_rfl
theorem Tryz.cells23 : Tryz.prog.cellsOf 23 = 1 := by kernel_rfl
theorem Tryz.cells26 : Tryz.prog.cellsOf 26 = 10 := by kernel_rfl
theorem Tryz.cellTypes26 : Tryz.prog.cellTypes Tryz.prog.depth 26 = some [5, 5, 5, 5, 5, 5, 23, 5, 5, 5] := by kernel_rfl

section
variable {Hh : Type} {enc : TypeId × Value → Hh} {w : World} {base : Nat} {spare : Nat → Bool} {held : Bool}
theorem byte_wf {n : Int} (h : Lit.wf (.int .u8 n) = true) : Byte n := by
  simp only [Lit.wf, Bool.and_eq_true, decide_eq_true_eq] at h
  have h1 : IntKind.u8.min = 0 := rfl
  have h2 : IntKind.u8.max = 255 := rfl
  rw [h1, h2] at h
  unfold Byte
  omega
theorem flat_bytes : ∀ l : List Int, l.flatMap (fun n => [vbyte n]) = l.map vbyte
  | [] => rfl
  | n :: l => by rw [List.flatMap_cons, flat_bytes l]; rfl
theorem rd_byte : Rd Tryz.prog Hh enc w base spare held 5 (fun n : Int => [vbyte n]) Byte := fun fuel cs x h => by
  obtain ⟨n, h1, h2⟩ := rd_int Tryz.underlying5 fuel cs x h
  exact ⟨n, byte_wf h1, h2⟩
/-- An array of bytes. -/
theorem rd_bytes {t : TypeId} {n : Nat} (ht : Tryz.prog.underlying t = some (.array n 5)) (hc : Tryz.prog.cellsOf t = n * 1) : Rd Tryz.prog Hh enc w base spare held t (fun l : List Int => l.map vbyte) (fun l => l.length = n ∧ ∀ b ∈ l, Byte b) := fun fuel cs x h => by
  obtain ⟨l, h1, h2⟩ := rd_array ht hc Tryz.cells5 (by decide) (fun _ => rfl) rd_byte fuel cs x h
  have h3 : CellsD w (l.flatMap fun n => [vbyte n]) cs := h2
  rw [flat_bytes] at h3
  exact ⟨l, h1, h3⟩
/-- Two bytes. -/
theorem rd_two : Rd Tryz.prog Hh enc w base spare held 59 prC (fun p => Byte p.1 ∧ Byte p.2) := fun fuel cs x h => by
  obtain ⟨l, ⟨h1, h2⟩, h3⟩ := rd_bytes Tryz.underlying59 Tryz.cells59 fuel cs x h
  rcases l with _ | ⟨a, _ | ⟨b, _ | ⟨c, r⟩⟩⟩ <;> simp at h1
  exact ⟨(a, b), ⟨h2 a (by simp), h2 b (by simp)⟩, h3⟩
end

set_option maxRecDepth 100000 in
/-- What the first argument reads as. -/
theorem type_read {Hh : Type} {enc : TypeId × Value → Hh} {w : World} {base : Nat} {spare : Nat → Bool} {held : Bool} {r : Reach} {b0 : Nat} {v : Value} {d : DataW Hh} {p : List MemPlace} (hv : Value.okWide Tryz.prog w r b0 26 v) (h : DataW.Trod enc Tryz.prog w base spare held 26 v d p) :
    ∃ x : TyA, x.Ok ∧ Den ρ0 w (.agg x.cells) v := by
  simp only [Value.okWide, Tryz.underlying26] at hv
  obtain ⟨cs, rfl, hsz, ts, hts, -, hcell⟩ := hv
  rw [Tryz.cellTypes26] at hts
  cases hts
  rw [Tryz.cells26] at hsz
  obtain ⟨fuel, hf⟩ := h
  obtain ⟨xs, n, _, _, hl, hxl, hel⟩ := DataW.trod_struct Tryz.underlying26 hf
  have hxl' : xs.length = 3 := hxl
  have f0 : DataW.trod enc Tryz.prog w base spare held n 22 ((cs.toList.drop 0).take (Tryz.prog.cellsOf 22)) = xs[0]? := hel 0 _ rfl
  have f1 : DataW.trod enc Tryz.prog w base spare held n 23 ((cs.toList.drop 6).take (Tryz.prog.cellsOf 23)) = xs[1]? := hel 1 _ rfl
  have f2 : DataW.trod enc Tryz.prog w base spare held n 24 ((cs.toList.drop 7).take (Tryz.prog.cellsOf 24)) = xs[2]? := hel 2 _ rfl
  rw [Tryz.cells22, List.getElem?_eq_getElem (by omega)] at f0
  rw [Tryz.cells23, List.getElem?_eq_getElem (by omega)] at f1
  rw [Tryz.cells24, List.getElem?_eq_getElem (by omega)] at f2
  obtain ⟨wd, ⟨a1, a2⟩, a3⟩ := rd_bytes Tryz.underlying22 Tryz.cells22 _ _ _ f0
  obtain ⟨nl, prs, b1, b2, b3⟩ := rd_slice Tryz.underlying23 Tryz.cells59 (by decide) (fun _ => rfl) rd_two (fun a len cap e => by
    have h6 : cs[6]? = some (.slice (some a) len cap) := by
      have : ((cs.toList.drop 6).take 1)[0]? = some (.slice (some a) len cap) := by rw [e]; rfl
      simpa using this
    obtain ⟨u, hu, hk⟩ := hcell 6 _ h6
    have hu' : u = 23 := by simpa using hu.symm
    subst hu'
    exact slice_spot Tryz.underlying23 hk) f1
  obtain ⟨fr, ⟨c1, c2⟩, c3⟩ := rd_bytes Tryz.underlying24 Tryz.cells24 _ _ _ f2
  rcases fr with _ | ⟨g0, _ | ⟨g1, _ | ⟨g2, _ | ⟨g3, r⟩⟩⟩⟩ <;> simp at c1
  refine ⟨⟨wd, nl, false, prs, g0, g1, g2⟩, ⟨a1, a2, by unfold maxLen at b2; simp only; omega, b1, c2 _ (by simp), c2 _ (by simp), c2 _ (by simp)⟩, CellsD.agg ?_⟩
  unfold TyA.cells
  refine CellsD.append ?_ (CellsD.append (a := [.sl nl false prs.length (prs.flatMap prC)]) (b := [vbyte g0, vbyte g1, vbyte g2]) ?_ ?_)
  · rw [List.length_map, a1]; exact a3
  · rw [List.length_map, a1]; exact b3
  · rw [List.length_map, a1, List.drop_drop, show 6 + [AV.sl nl false prs.length (prs.flatMap prC)].length = 7 from rfl]
    have : (cs.toList.drop 7).take 3 = cs.toList.drop 7 := List.take_of_length_le (by simp; omega)
    rw [← this]; exact c3
set_option maxRecDepth 100000 in
theorem slice_arg {P : Program} {w : World} {r : Reach} {b0 : Nat} {t e : TypeId} {v : Value} (ht : P.underlying t = some (.slice e)) (h : Value.okWide P w r b0 t v) : v.cells.toList = [v] ∧ ∀ a len cap, v = .slice (some a) len cap → a.spot = none := by
  simp only [Value.okWide, ht] at h
  refine ⟨?_, fun a len cap e => slice_spot ht (e ▸ h)⟩
  simp only [Cell.okWide, Cell.ok, ht] at h
  cases v <;> first | rfl | (simp at h)
set_option maxRecDepth 100000 in
theorem bytes_arg {Hh : Type} {enc : TypeId × Value → Hh} {w : World} {base : Nat} {spare : Nat → Bool} {held : Bool} {r : Reach} {b0 : Nat} {v : Value} {d : DataW Hh} {p : List MemPlace} (hv : Value.okWide Tryz.prog w r b0 27 v) (h : DataW.Trod enc Tryz.prog w base spare held 27 v d p) :
    ∃ (nl : Bool) (l : List Int), (∀ n ∈ l, Byte n) ∧ l.length ≤ 9223372036854775807 ∧ Den ρ0 w (.sl nl false l.length (l.map vbyte)) v := by
  obtain ⟨h1, h2⟩ := slice_arg Tryz.underlying27 hv
  obtain ⟨fuel, hf⟩ := h
  rw [h1] at hf
  obtain ⟨nl, l, b1, b2, b3⟩ := rd_slice Tryz.underlying27 Tryz.cells5 (by decide) (fun _ => rfl) rd_byte (fun a len cap e => h2 a len cap (by simpa using e)) hf
  obtain ⟨y, hy, hd⟩ := b3.2.at (i := 0) rfl
  simp only [List.getElem?_cons_zero, Option.some.injEq] at hy
  subst hy
  rw [flat_bytes] at hd
  exact ⟨nl, l, b1, by unfold maxLen at b2; omega, hd⟩
set_option maxRecDepth 100000 in
theorem six_arg {Hh : Type} {enc : TypeId × Value → Hh} {w : World} {base : Nat} {spare : Nat → Bool} {held : Bool} {r : Reach} {b0 : Nat} {v : Value} {d : DataW Hh} {p : List MemPlace} (hv : Value.okWide Tryz.prog w r b0 22 v) (h : DataW.Trod enc Tryz.prog w base spare held 22 v d p) :
    ∃ l : List Int, l.length = 6 ∧ (∀ n ∈ l, Byte n) ∧ Den ρ0 w (.agg (l.map vbyte)) v := by
  simp only [Value.okWide, Tryz.underlying22] at hv
  obtain ⟨cs, rfl, -⟩ := hv
  obtain ⟨fuel, hf⟩ := h
  obtain ⟨l, ⟨a1, a2⟩, a3⟩ := rd_bytes Tryz.underlying22 Tryz.cells22 _ _ _ hf
  exact ⟨l, a1, a2, CellsD.agg a3⟩

end Go.Proofs.YtaekibilldjnmaaGreat
namespace Go.Proofs.YtaekibilldjnmaaGreat
open Go.ChangeShapes Go.WideShapes Go.ChangeAt Go.RowKit Go.Deep

theorem Tryz.params7 : Tryz.f7.params = #[26, 27, 70] := by kernel_rfl
theorem Tryz.cells70 : Tryz.prog.cellsOf 70 = 3 * 2 := by kernel_rfl
theorem flat_pairs : ∀ l : List (Int × Int), l.flatMap prC = (l.flatMap fun p => [p.1, p.2]).map vbyte
  | [] => rfl
  | p :: l => by rw [List.flatMap_cons, flat_pairs l]; rfl
set_option maxRecDepth 100000 in
theorem pairs_arg {Hh : Type} {enc : TypeId × Value → Hh} {w : World} {base : Nat} {spare : Nat → Bool} {held : Bool} {r : Reach} {b0 : Nat} {v : Value} {d : DataW Hh} {p : List MemPlace} (hv : Value.okWide Tryz.prog w r b0 70 v) (h : DataW.Trod enc Tryz.prog w base spare held 70 v d p) :
    ∃ l : List Int, l.length = 6 ∧ (∀ n ∈ l, Byte n) ∧ Den ρ0 w (.agg (l.map vbyte)) v := by
  simp only [Value.okWide, Tryz.underlying70] at hv
  obtain ⟨cs, rfl, -⟩ := hv
  obtain ⟨fuel, hf⟩ := h
  obtain ⟨l, ⟨a1, a2⟩, a3⟩ := rd_array Tryz.underlying70 Tryz.cells70 Tryz.cells59 (by decide) (fun _ => rfl) rd_two fuel _ _ hf
  refine ⟨l.flatMap fun p => [p.1, p.2], ?_, ?_, CellsD.agg ?_⟩
  · have : ∀ l : List (Int × Int), (l.flatMap fun p => [p.1, p.2]).length = 2 * l.length := fun l => by
      induction l with
      | nil => rfl
      | cons a l ih => rw [List.flatMap_cons, List.length_append, ih, List.length_cons]; simp; omega
    rw [this, a1]
  · intro n hn
    rw [List.mem_flatMap] at hn
    obtain ⟨q, hq, hn⟩ := hn
    have := a2 q hq
    simp only [List.mem_cons, List.not_mem_nil, or_false] at hn
    rcases hn with rfl | rfl
    · exact this.1
    · exact this.2
  · rw [← flat_pairs]; exact a3

set_option maxRecDepth 100000 in
theorem letterChanged_lifted (os : Os) (started : os.Started) (H : Type) (enc : TypeId × Value → H) :
    ReturnsInHanded {} Tryz.checked os 7 .any (Rows.letterChangedSpec.pre6 enc Tryz.prog Tryz.f7 Rows.letterChangedRow.domain false) (Rows.letterChangedSpec.post enc Tryz.prog Tryz.f7 false true false false) := by
  refine returnsInHanded_of_change (C := Tryz.checked) Tryz.ownKnob started (by kernel_rfl) Tryz.func7
    (ChangeSpec.witness6 (enc := enc) (C := Tryz.checked) false ⟨#[], #[.agg #[.int .u8 0, .int .u8 0, .int .u8 0, .int .u8 0, .int .u8 0, .int .u8 0, .slice none 0 0, .int .u8 0, .int .u8 0, .int .u8 0], .slice none 0 0, .agg #[.int .u8 0, .int .u8 0, .int .u8 0, .int .u8 0, .int .u8 0, .int .u8 0]], []⟩ 8 (by kernel_rfl) (by kernel_rfl) (by kernel_rfl) (by kernel_rfl)) ?_
  intro W base args ds gs before hval0 hW hcnd _
  have hval : ∀ (j : Nat) t v, Tryz.f7.params[j]? = some t → args[j]? = some v → Value.okWide Tryz.prog W .any base t v := hval0
  have hW' := hW
  obtain ⟨p, q, hA0, hV, rfl, hfz, hnd⟩ := hW
  have hA : DataW.TrodAll enc Tryz.prog W 0 (fun _ => true) true Tryz.f7.params.toList args.toList ds p := hA0
  rw [Tryz.params7] at hA hval
  obtain ⟨v0, vs0, d0, ds0, p0, q0, hargs, rfl, rfl, h0, r0⟩ := trodAll_cons hA
  obtain ⟨v1, vs1, d1, ds1, p1, q1, rfl, rfl, rfl, h1, r1⟩ := trodAll_cons r0
  obtain ⟨v2, vs2, d2, ds2, p2, q2, rfl, rfl, rfl, h2, r2⟩ := trodAll_cons r1
  obtain ⟨rfl, rfl, rfl⟩ := trodAll_nil r2
  obtain rfl : args = #[v0, v1, v2] := by cases args; simp_all
  obtain ⟨rfl, rfl⟩ := trodVars_none hV
  have lt0 : ∀ x ∈ p0, x.block < W.heap.size := by obtain ⟨m, hm⟩ := h0; exact DataW.trod_lt m _ _ _ hm
  have lt1 : ∀ x ∈ p1, x.block < W.heap.size := by obtain ⟨m, hm⟩ := h1; exact DataW.trod_lt m _ _ _ hm
  have lt2 : ∀ x ∈ p2, x.block < W.heap.size := by obtain ⟨m, hm⟩ := h2; exact DataW.trod_lt m _ _ _ hm
  obtain ⟨x, hx, hd0⟩ := type_read (hval 0 26 v0 rfl rfl) h0
  obtain ⟨nl, l, hlb, hll, hd1⟩ := bytes_arg (hval 1 27 v1 rfl rfl) h1
  obtain ⟨v6, hv6, hvb, hd2⟩ := pairs_arg (hval 2 70 v2 rfl rfl) h2
  clear hA0 hval0
  refine Calls.mono (Changed_any (fun _ => none) x hx nl false l hll (fun n hn => by have := hlb n hn; unfold Byte at this; omega) v6 hv6 hvb ρ0 W #[v0, v1, v2] rfl ?_ (ρ0_hd W)) ?_
  · rw [DenL]
    refine ⟨⟨v0, rfl, hd0⟩, ?_⟩
    rw [DenL]
    refine ⟨⟨v1, rfl, hd1⟩, ?_⟩
    rw [DenL]
    refine ⟨⟨v2, rfl, hd2⟩, ?_⟩
    rw [DenL]; trivial
  rintro e W' ⟨v, ρ', x', H', rfl, qx, hvd, -, rfl, -⟩
  rw [Den] at hvd
  subst hvd
  have bel' : Below W.heap.size W W' := ⟨qx.io.1, qx.io.2.2, qx.io.2.1, qx.size, fun k hk => (qx.free k hk (ρ0_free k)).2⟩
  exact ⟨_, rfl, _, _, _, [], _, [], hW', trodAll_mk1 (shut_bool Tryz.underlying4 _), (trodAll_cons_mk (Below.trod Tryz.laidOut (by kernel_rfl) (of_decide_eq_true (by kernel_rfl)) h0 bel' lt0) (trodAll_cons_mk (Below.trod Tryz.laidOut (by kernel_rfl) (of_decide_eq_true (by kernel_rfl)) h1 bel' lt1) (trodAll_cons_mk (Below.trod Tryz.laidOut (by kernel_rfl) (of_decide_eq_true (by kernel_rfl)) h2 bel' lt2) trodAll_mk0))), rfl, bel'.frame _, fun h => by cases h⟩

theorem letterChanged_over : Rows.letterChangedRow.holds Tryz.pinned (OpenSpec.ofChange Rows.letterChangedSpec) :=
  OpenClaim.holds_of_wide 7 Tryz.f7 rfl rfl rfl rfl rfl rfl rfl ⟨rfl, rfl, rfl, rfl, rfl⟩ rfl rfl rfl rfl rfl (by kernel_rfl) Tryz.func7 (by kernel_rfl)
    (of_decide_eq_true (by kernel_rfl)) (by unfold Func.isWrapper; first | (rw [if_pos (by decide +kernel)]; kernel_rfl) | (rw [if_neg (by decide +kernel)]; exact ⟨rfl, rfl⟩))
    (fun os started H enc _ => letterChanged_lifted os started H enc)

/-- The statement. -/
theorem letterChanged_holds : Rows.LetterChangedSaid := letterChanged_over
#print axioms letterChanged_holds
end Go.Proofs.YtaekibilldjnmaaGreat
