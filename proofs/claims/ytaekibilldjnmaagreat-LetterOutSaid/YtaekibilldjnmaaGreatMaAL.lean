/- LetterChanged, walked. Arguments of this seat, read. Laid gaps are the best ones: no others that fill the plate differ by less, none that differ as much are smaller. Which list is less; how wide apart gaps look. -/
import Derived.Test.YtaekibilldjnmaaGreatMaAK
import Derived.Test.YtaekibilldjnmaaGreatRows
import Derived.WalkKit
import Derived.ProofKit
import Derived.OpenShut
import Derived.ShutString
import Derived.ChangeOld
import Derived.Below
set_option linter.unusedVariables false
set_option linter.unusedSimpArgs false
set_option linter.unusedSectionVars false
namespace Go.Proofs.YtaekibilldjnmaaGreat
open Go.Proofs

theorem WpV.seqS {P : Program} {r : Option Nat} {N : Nat} {x y : Code} {Q : Exit → Fr → List Nat → Hp → Prop} {fr : Fr} {D : List Nat} {H : Hp} (S : Fr) (hx : WpV P r N x (Vthen (fun fr' D' H' => D' = D ∧ H' = H ∧ Sub S fr') Q) fr D H) (hy : WpV P r N y Q S D H) : WpV P r N (x.seq y) Q fr D H := by
  refine WpV.seq (hx.mono fun e fr' D' H' h => ?_)
  cases e with
  | normal => obtain ⟨rfl, rfl, hs⟩ := h; exact hy.weaken hs
  | _ => exact h
theorem need_le {c : Cs} (hc : c.Fair) {w : List Int} (hw : c.Word w) : c.needF [w] ≤ 340 ∧ (c.closest w).sum ≤ 90 := by
  have h1 := sum_bound (xs := c.closest w) (a := 0) (b := 15) (Cs.closest_le hc w)
  have h2 := sum_bound (xs := w.map c.widthOf) (a := 0) (b := 30) (fun y hy => by
    obtain ⟨x, hx, rfl⟩ := List.mem_map.1 hy; exact Cs.width_le hc.ws (hw.2.2 x hx))
  have h3 := hc.rim
  have h4 := hw.2.1
  rw [Cs.closest_len] at h1
  rw [List.length_map] at h2
  rw [Cs.need_one]
  unfold Cs.need1 Cs.longF
  omega
theorem need_pos {c : Cs} (hc : c.Valid) {w : List Int} (hw : c.Word w) : 1 ≤ c.needF [w] := by
  have hF := hc.fair
  have hBs := Cs.base_iff.1 hc.base
  have h1 := sum_bound (xs := c.closest w) (a := 0) (b := 15) (Cs.closest_le hF w)
  have h2 : 1 * ((w.map c.widthOf).length : Int) ≤ (w.map c.widthOf).sum := (sum_bound (xs := w.map c.widthOf) (a := 1) (b := 30) (fun y hy => by
    obtain ⟨x, hx, rfl⟩ := List.mem_map.1 hy
    have hxl := hw.2.2 x hx
    have hto : x.toNat < c.ws.length := by omega
    have : c.widthOf x = c.ws[x.toNat] := by simp [Cs.widthOf, List.getD_eq_getElem?_getD, hto]
    rw [this]
    exact hBs.ws _ (List.getElem_mem _))).1
  have h3 := hF.rim
  have h4 := hw.1
  rw [Cs.closest_len] at h1
  rw [List.length_map] at h2
  rw [Cs.need_one]
  unfold Cs.need1 Cs.longF
  omega
theorem has_bld {B Hc : Hp} {ib : Nat} {ob : Ob} {m : Nat} {nl : Bool} {xs : List Int} {v : AV} (hl : xs.length < 1000000) (hm : xs.length = m) (h : Bld B 3 1 nl m (xs.map vint) v Hc) (hi : Hc ib = none) (n : Int) :
    CallV Tryz.prog 24 [v, vint n] (Hc.set ib (some ob)) (fun r H' => r = .bool (contB xs n) ∧ H' = Hc.set ib (some ob)) := by
  subst hm
  rw [← any_cont]
  obtain ⟨-, ⟨h0, hx, rfl, rfl⟩ | ⟨-, id, ver, -, rfl, rfl⟩⟩ := h
  · have : xs = [] := by simpa using hx
    subst this
    exact has_any _ nl true [] (by simp) n
  · have hne : id ≠ ib := fun e' => by rw [← e', Hp.set_eq] at hi; cases hi
    refine CallV.lend (has_any _ false false xs hl n) (.cons ?_ (.cons (Seen.same _ _) .nil)) (Plain.bool _)
    have := Seen.rs (H := (B.set id (some (.cells 3 ver (xs.map vint)))).set ib (some ob)) (id := id) (ver := ver) (sz := 1) (off := 0) (len := xs.length) (clip := false) (ty := 3) (cs := xs.map vint) (by rw [Hp.set_ne _ _ hne]; exact Hp.set_eq _ _ _)
    simpa [vints, List.take_of_length_le] using this
theorem chg_set {c : Cs} {w g bad ch ch' : List Int} (h : Chg c w g bad ch) {a : Nat} (ha : a < bad.length) {y : Int} (hy : 0 ≤ y ∧ y ≤ 400) (hin : (a : Int) ∈ ch') (hs : ∀ x ∈ ch, x ∈ ch') (hi : ∀ x ∈ ch', x ∈ ch ∨ x = (a : Int)) : Chg c w g (bad.set a y) ch' := by
  refine ⟨by simp [h.len], fun i hi' => ?_, fun x hx => ?_, fun i hi' hn => ?_⟩
  · rw [getD_set ha]
    split
    · exact hy.imp_right id
    · exact h.le i (by simpa using hi')
  · rw [List.length_set]
    rcases hi x hx with h1 | rfl
    · exact h.ins x h1
    · omega
  · rw [getD_set ha]
    split
    · rename_i e; exact absurd (e ▸ hin) hn
    · exact h.same i (by simpa using hi') (fun hm => hn (hs _ hm))
theorem fold_bd (f : Int → Int → Int) (hf : ∀ a b, f a b = a ∨ f a b = b) {A B : Int} : ∀ (xs : List Int) (a : Int), (A ≤ a ∧ a ≤ B) → (∀ x ∈ xs, A ≤ x ∧ x ≤ B) → A ≤ xs.foldl f a ∧ xs.foldl f a ≤ B := fold_in f hf
theorem loF_le {xs : List Int} (h : ∀ x ∈ xs, -5 ≤ x ∧ x ≤ 405) : -5 ≤ loF xs ∧ loF xs ≤ 405 := by
  cases xs with
  | nil => simp [loF]
  | cons x ys => exact fold_bd fmin (fun a b => by unfold fmin; split <;> simp) ys x (h x (by simp)) (fun y hy => h y (by simp [hy]))
theorem hiF_le {xs : List Int} (h : ∀ x ∈ xs, -5 ≤ x ∧ x ≤ 405) : -5 ≤ hiF xs ∧ hiF xs ≤ 405 := by
  cases xs with
  | nil => simp [hiF]
  | cons x ys => exact fold_bd fmax (fun a b => by unfold fmax; split <;> simp) ys x (h x (by simp)) (fun y hy => h y (by simp [hy]))
theorem fewest_nil (p : List Int → Bool) (h : p [] = true) : fewestF [] p = some [] := by
  obtain ⟨b, h1, h2, -⟩ := fewest_spec [] p ⟨[], by simp, by simpa [withoutN] using h⟩
  have : b = [] := by simpa [numsF] using h2
  rw [h1, this]

set_option maxRecDepth 100000 in
set_option maxHeartbeats 8000000 in
theorem Changed_any (H : Hp) (x : TyA) (hx : x.Ok) (nl clip : Bool) (l : List Int) (hl : l.length ≤ 9223372036854775807) (hlb : ∀ n ∈ l, 0 ≤ n ∧ n ≤ 255) (v : List Int) (hv : v.length = 6) (hvb : ∀ n ∈ v, Byte n) :
    CallV Tryz.prog 7 [.agg x.cells, .sl nl clip l.length (l.map vbyte), .agg (v.map vbyte)] H (fun r H' => r = .bool true ∧ H' = H) := by
  have hone : (x.cells.all AV.one) = true := by
    unfold TyA.cells
    rw [List.all_append]
    simp [AV.one]
  have hone2 : ((v.map vbyte).all AV.one) = true := by simp [AV.one]
  have hmk := made_any H x hx
  have hcV := made_valid hx
  have hc6 := made_len hx
  have htk : x.cells.take 10 = x.cells := List.take_of_length_le (by unfold TyA.cells; simp [hx.wd])
  have hlen : x.cells.length = 10 := by unfold TyA.cells; simp [hx.wd]
  generalize x.made = c at hmk hcV hc6
  have hw := wordF_word hlb hc6
  have hwd := word_bytes H nl clip l hl hlb
  generalize hfl : decide (l.length = 0) = fl at hwd
  generalize wordF l = w at hw hwd
  have hwl := hw.2.1
  have hw1 := hw.1
  have hF := hcV.fair
  have hvc : ∀ k, k < 6 → (v.map vbyte)[k]? = some (vbyte (v.getD k 0)) ∧ Byte (v.getD k 0) := fun k hk => by
    have : k < v.length := by omega
    refine ⟨?_, hvb _ (getD_mem this)⟩
    simp [List.getD_eq_getElem?_getD, this]
  have hvl : (v.map vbyte).length = 6 := by simp [hv]
  obtain ⟨hv4, b4⟩ := hvc 4 (by omega)
  obtain ⟨hv5, b5⟩ := hvc 5 (by omega)
  generalize v.map vbyte = vc at *
  generalize v.getD 4 0 = v4 at hv4 b4
  generalize v.getD 5 0 = v5 at hv5 b5
  have hnd := needs_any H c hcV false fl w hw
  obtain ⟨hn340, hcl90⟩ := need_le hF hw
  have hn1 := need_pos hcV hw
  have hgo : c.own.needF [w] = c.needF [w] := rfl
  have hrmE : c.roomF w (c.needF [w] + v4 % 30) = (c.closest w).sum + v4 % 30 := by
    rw [Cs.need_one]; unfold Cs.roomF Cs.need1 Cs.longF; simp only [List.sum_nil]; omega
  generalize hN : c.needF [w] + v4 % 30 = n at hrmE
  have hn : 1 ≤ n ∧ n ≤ 400 := by omega
  have a2 : (0 : Int) ≤ 2 ∧ (2 : Int) < ((3 : Nat) : Int) := by decide
  have z0 : (0 : Int) ≤ 0 ∧ (0 : Int) < ((2 : Nat) : Int) := by decide
  have z1 : (0 : Int) ≤ 1 ∧ (1 : Int) < ((2 : Nat) : Int) := by decide
  have t0 : Int.toNat 0 = 0 := rfl
  have t1 : Int.toNat 1 = 1 := rfl
  have t2 : Int.toNat 2 = 2 := rfl
  have w4 := byte_wrap b4
  have m4 := byte_mod b4 30
  have w5 := byte_wrap b5
  have s4 : IntKind.i64.wrap (c.needF [w] + v4 % 30) = n := by rw [wrap64 (by omega)]; exact hN
  have hiw := ints_any H false fl w (by omega)
  have hdn := own_any H c hcV.ok
  have hly := Lay_any H c.own (own_valid hcV) false (decide (w.length = 0)) w n (Cs.word_iff.2 hw) hn
  unfold Cs.LayV at hly
  rw [if_pos (by rw [hgo]; omega)] at hly
  refine CallV.body Tryz.func7 rfl Tryz.ntmps7 (by rfl) ?_
  refine WpV.seq (WpV.regionE (by simp only [go_sem, reduceCtorEq, Nat.reduceAdd, Nat.reduceMul, Nat.reduceSub, Nat.reduceLT, Nat.reduceLeDiff, Nat.reduceEqDiff, Nat.reduceBEq, Nat.reducePow, hone, hone2]; rfl) (Marks.nil _) ?_)
  simp only [Vthen, VinBlock, if_true, if_false, Nat.reduceEqDiff, reduceCtorEq]
  refine WpV.seq (WpV.region ?_)
  refine WpOps.take 1 (by simp only [go_sem, reduceCtorEq, Nat.reduceAdd, Nat.reduceMul, Nat.reduceSub, Nat.reduceLT, Nat.reduceLeDiff, Nat.reduceEqDiff, Nat.reduceBEq, Nat.reducePow, htk, hlen]; rfl) ?_
  refine WpOps.step (by rfl) (by rfl) (OpW.callY rfl (by rfl) (by rfl) (by rfl) (enters_of Tryz.func8 (by kernel_rfl) rfl) ((hmk).mono ?_))
  rintro _ _ ⟨rfl, hH⟩
  replace hH := hH.symm
  subst hH
  refine WpOps.take 1 (by simp only [go_sem, reduceCtorEq, Nat.reduceAdd, Nat.reduceMul, Nat.reduceSub, Nat.reduceLT, Nat.reduceLeDiff, Nat.reduceEqDiff, Nat.reduceBEq, Nat.reducePow]; rfl) ?_
  refine WpOps.step (by rfl) (by rfl) (OpW.callY rfl (by rfl) (by rfl) (by rfl) (enters_of Tryz.func9 (by kernel_rfl) rfl) ((hwd).mono ?_))
  rintro _ _ ⟨rfl, hH⟩
  replace hH := hH.symm
  subst hH
  refine WpOps.step (by rfl) (by rfl) (OpW.alloc rfl (Tryz.ze32) (fun i7 f7 => ?_))
  refine WpOps.step (by rfl) (by rfl) (OpW.store (ty := 32) (id := i7) (ver := 0) (off := 0) rfl (by simp only [go_sem, reduceCtorEq, Nat.reduceAdd, Nat.reduceMul, Nat.reduceSub, Nat.reduceLT, Nat.reduceLeDiff, Nat.reduceEqDiff, Nat.reduceBEq, Nat.reducePow]; try rfl) (by simp only [go_sem, reduceCtorEq, Nat.reduceAdd, Nat.reduceMul, Nat.reduceSub, Nat.reduceLT, Nat.reduceLeDiff, Nat.reduceEqDiff, Nat.reduceBEq, Nat.reducePow]; try rfl) (Hp.set_eq _ _ _) (by simp only [go_sem, reduceCtorEq, Nat.reduceAdd, Nat.reduceMul, Nat.reduceSub, Nat.reduceLT, Nat.reduceLeDiff, Nat.reduceEqDiff, Nat.reduceBEq, Nat.reducePow]; try rfl) (by exact Tryz.sz32) (by simp) ?_)
  rw [Hp.set_set]
  refine WpOps.take 1 (by simp only [go_sem, reduceCtorEq, Nat.reduceAdd, Nat.reduceMul, Nat.reduceSub, Nat.reduceLT, Nat.reduceLeDiff, Nat.reduceEqDiff, Nat.reduceBEq, Nat.reducePow]; rfl) (WpOps.nil ⟨Marks.nil _, ?_⟩)
  simp only [Vthen, VinBlock, if_true, if_false, Nat.reduceEqDiff, reduceCtorEq]
  refine WpV.pre (Frz.ptr (t := 7) (id := i7) rfl (Hp.set_eq _ _ _)) (Marks.nil _) ?_
  rw [Hp.set_set, Hp.set_same _ _ _ f7]
  refine WpV.seq (WpV.regionD Tryz.mixed (by kernel_rfl) (by kernel_rfl) ?_)
  refine LexD.take 2 (by rfl) (by simp only [go_sem, reduceCtorEq, Nat.reduceAdd, Nat.reduceMul, Nat.reduceSub, Nat.reduceLT, Nat.reduceLeDiff, Nat.reduceEqDiff, Nat.reduceBEq, Nat.reducePow, a2, z0, t0, t2, hv4, w4, m4, s4, Int.reduceEq]; rfl) ?_
  refine LexD.step (by rfl) (by rfl) (OpW.callY rfl (by rfl) (by rfl) (by rfl) (enters_of Tryz.func13 (by kernel_rfl) rfl) (hnd)) ?_
  refine LexD.take 7 (by rfl) (by simp only [go_sem, reduceCtorEq, Nat.reduceAdd, Nat.reduceMul, Nat.reduceSub, Nat.reduceLT, Nat.reduceLeDiff, Nat.reduceEqDiff, Nat.reduceBEq, Nat.reducePow, a2, z0, t0, t2, hv4, w4, m4, s4, Int.reduceEq]; rfl) (LexD.nilE ⟨Marks.nil _, ?_⟩)
  simp only [Vthen, VinBlock, if_true, if_false, Nat.reduceEqDiff, reduceCtorEq]
  by_cases hlen1 : w.length = 1
  · have hlf : c.own.layF w n = none := by unfold Cs.layF; rw [if_pos hlen1]
    rw [hlf] at hly
    unfold layR at hly
    have e0 : (((0 : Nat) : Int) != ((w.length - 1 : Nat) : Int)) = false := by rw [hlen1]; rfl
    have e0' : ((0 : Int) != ((w.length - 1 : Nat) : Int)) = false := by rw [hlen1]; rfl
    have e1 : (((0 : Nat) : Int) == 0) = true := rfl
    have n0 : ((0 : Int) != 0) = false := rfl
    have hwm : IntKind.i64.wrap ((w.length : Int) - 1) = ((w.length - 1 : Nat) : Int) := by rw [wrap64 (by omega)]; omega
    have hwA : CallV Tryz.prog 33 [.agg c.own.cells, vints false (decide (w.length = 0)) w, .sl true true 0 [], vint v5] H (fun r H' => r = .tup [.sl true true 0 [], vint 6] ∧ H' = H) := by
      have := Wrong_any H c.own (own_valid hcV) false (decide (w.length = 0)) true true w [] v5 (Cs.word_iff.2 hw) (by unfold gapsB; rw [hlen1]; rfl) (by unfold Byte at b5; omega)
      have hl0 : c.own.looksF w [] = [] := by unfold Cs.looksF; simp
      rw [hl0, fewest_nil _ (by unfold wrongP; exact decide_eq_true (by unfold Byte at b5; show (0 : Int) ≤ v5; omega))] at this
      exact this
    refine WpV.seq (WpV.region ?_)
    refine WpOps.take 1 (by simp only [go_sem, reduceCtorEq, Nat.reduceAdd, Nat.reduceMul, Nat.reduceSub, Nat.reduceLT, Nat.reduceLeDiff, Nat.reduceEqDiff, Nat.reduceBEq, Nat.reducePow]; rfl) ?_
    refine WpOps.step (by rfl) (by rfl) (OpW.callY rfl (by rfl) (by rfl) (by rfl) (enters_of Tryz.func11 (by kernel_rfl) rfl) ((hdn).mono ?_))
    rintro _ _ ⟨rfl, hH⟩
    replace hH := hH.symm
    subst hH
    refine WpOps.take 1 (by simp only [go_sem, reduceCtorEq, Nat.reduceAdd, Nat.reduceMul, Nat.reduceSub, Nat.reduceLT, Nat.reduceLeDiff, Nat.reduceEqDiff, Nat.reduceBEq, Nat.reducePow]; rfl) ?_
    refine WpOps.step (by rfl) (by rfl) (OpW.callY rfl (by rfl) (by rfl) (by rfl) (enters_of Tryz.func12 (by kernel_rfl) rfl) ((hiw).mono ?_))
    rintro _ _ ⟨rfl, hH⟩
    replace hH := hH.symm
    subst hH
    refine WpOps.take 1 (by simp only [go_sem, reduceCtorEq, Nat.reduceAdd, Nat.reduceMul, Nat.reduceSub, Nat.reduceLT, Nat.reduceLeDiff, Nat.reduceEqDiff, Nat.reduceBEq, Nat.reducePow]; rfl) ?_
    refine WpOps.step (by rfl) (by rfl) (OpW.callY rfl (by rfl) (by rfl) (by rfl) (enters_of Tryz.func14 (by kernel_rfl) rfl) ((hly).mono ?_))
    rintro _ _ ⟨rfl, hH⟩
    replace hH := hH.symm
    subst hH
    refine WpOps.take 7 (by simp only [go_sem, reduceCtorEq, Nat.reduceAdd, Nat.reduceMul, Nat.reduceSub, Nat.reduceLT, Nat.reduceLeDiff, Nat.reduceEqDiff, Nat.reduceBEq, Nat.reducePow]; rfl) (WpOps.nil ⟨Marks.nil _, ?_⟩)
    simp only [Vthen, VinBlock, if_true, if_false, Nat.reduceEqDiff, reduceCtorEq]
    refine WpV.seq ?_
    refine WpV.seq (WpV.region ?_)
    refine WpOps.take 8 (by simp only [go_sem, reduceCtorEq, Nat.reduceAdd, Nat.reduceMul, Nat.reduceSub, Nat.reduceLT, Nat.reduceLeDiff, Nat.reduceEqDiff, Nat.reduceBEq, Nat.reducePow, n0, hwm, e0, e0', Int.lt_irrefl]; rfl) ?_
    refine WpOps.take 6 (by simp only [go_sem, reduceCtorEq, Nat.reduceAdd, Nat.reduceMul, Nat.reduceSub, Nat.reduceLT, Nat.reduceLeDiff, Nat.reduceEqDiff, Nat.reduceBEq, Nat.reducePow, n0, hwm, e0, e0', Int.lt_irrefl]; rfl) (WpOps.nil ⟨Marks.nil _, ?_⟩)
    simp only [Vthen, VinBlock, if_true, if_false, Nat.reduceEqDiff, reduceCtorEq]
    refine WpV.cond rfl (fun hb => by cases hb) (fun hb => WpV.skip ?_)
    simp only [Vthen, VinBlock, if_true, if_false, Nat.reduceEqDiff, reduceCtorEq]
    refine WpV.seq ?_
    refine WpV.seq (WpV.regionE (by simp only [go_sem, reduceCtorEq, Nat.reduceAdd, Nat.reduceMul, Nat.reduceSub, Nat.reduceLT, Nat.reduceLeDiff, Nat.reduceEqDiff, Nat.reduceBEq, Nat.reducePow, e1]; rfl) (Marks.nil _) ?_)
    simp only [Vthen, VinBlock, if_true, if_false, Nat.reduceEqDiff, reduceCtorEq]
    refine WpV.cond rfl (fun hb => ?_) (fun hb => by cases hb)
    refine WpV.seq (WpV.regionD Tryz.mixed (by kernel_rfl) (by kernel_rfl) ?_)
    refine LexD.take 1 (by rfl) (by simp only [go_sem, reduceCtorEq, Nat.reduceAdd, Nat.reduceMul, Nat.reduceSub, Nat.reduceLT, Nat.reduceLeDiff, Nat.reduceEqDiff, Nat.reduceBEq, Nat.reducePow, a2, z1, t1, t2, hv5, w5]; rfl) ?_
    refine LexD.step (by rfl) (by rfl) (OpW.callY rfl (by rfl) (by rfl) (by rfl) (enters_of Tryz.func11 (by kernel_rfl) rfl) (hdn)) ?_
    refine LexD.take 1 (by rfl) (by simp only [go_sem, reduceCtorEq, Nat.reduceAdd, Nat.reduceMul, Nat.reduceSub, Nat.reduceLT, Nat.reduceLeDiff, Nat.reduceEqDiff, Nat.reduceBEq, Nat.reducePow, a2, z1, t1, t2, hv5, w5]; rfl) ?_
    refine LexD.step (by rfl) (by rfl) (OpW.callY rfl (by rfl) (by rfl) (by rfl) (enters_of Tryz.func12 (by kernel_rfl) rfl) (hiw)) ?_
    refine LexD.take 4 (by rfl) (by simp only [go_sem, reduceCtorEq, Nat.reduceAdd, Nat.reduceMul, Nat.reduceSub, Nat.reduceLT, Nat.reduceLeDiff, Nat.reduceEqDiff, Nat.reduceBEq, Nat.reducePow, a2, z1, t1, t2, hv5, w5]; rfl) ?_
    refine LexD.step (by rfl) (by rfl) (OpW.callY rfl (by rfl) (by rfl) (by rfl) (enters_of Tryz.func33 (by kernel_rfl) rfl) (hwA)) ?_
    refine LexD.take 5 (by rfl) (by simp only [go_sem, reduceCtorEq, Nat.reduceAdd, Nat.reduceMul, Nat.reduceSub, Nat.reduceLT, Nat.reduceLeDiff, Nat.reduceEqDiff, Nat.reduceBEq, Nat.reducePow, a2, z1, t1, t2, hv5, w5]; rfl) (LexD.nilE ⟨Marks.nil _, ?_⟩)
    simp only [Vthen, VinBlock, if_true, if_false, Nat.reduceEqDiff, reduceCtorEq]
    refine WpV.seq (WpV.region ?_)
    refine WpOps.take 3 (by simp only [go_sem, reduceCtorEq, Nat.reduceAdd, Nat.reduceMul, Nat.reduceSub, Nat.reduceLT, Nat.reduceLeDiff, Nat.reduceEqDiff, Nat.reduceBEq, Nat.reducePow]; rfl) ?_
    refine WpOps.step (by rfl) (by rfl) (OpW.callY rfl (by rfl) (by rfl) (by rfl) (enters_of Tryz.func17 (by kernel_rfl) rfl) ((known_any H).mono ?_))
    rintro _ _ ⟨rfl, hH⟩
    replace hH := hH.symm
    subst hH
    refine WpOps.take 2 (by simp only [go_sem, reduceCtorEq, Nat.reduceAdd, Nat.reduceMul, Nat.reduceSub, Nat.reduceLT, Nat.reduceLeDiff, Nat.reduceEqDiff, Nat.reduceBEq, Nat.reducePow]; rfl) (WpOps.nil ⟨Marks.nil _, ?_⟩)
    simp only [Vthen, VinBlock, if_true, if_false, Nat.reduceEqDiff, reduceCtorEq]
    refine WpV.ret ⟨Marks.nil _, List.nodup_nil, _, by simp only [Tryz.results7]; simp only [go_sem, reduceCtorEq, Nat.reduceAdd, Nat.reduceMul, Nat.reduceSub, Nat.reduceLT, Nat.reduceLeDiff, Nat.reduceEqDiff, Nat.reduceBEq, Nat.reducePow]; rfl, ?_⟩
    exact ⟨rfl, rfl⟩
  · obtain ⟨g, s, hlf, hs6, hLd⟩ := lay_laid hF hw (by omega) hn (by omega)
    have hlf' : c.own.layF w n = some (g, s) := hlf
    rw [hlf'] at hly
    unfold layR at hly
    have hgl := hLd.len
    have n0 : ((0 : Int) != 0) = false := rfl
    have hwm : IntKind.i64.wrap ((w.length : Int) - 1) = ((w.length - 1 : Nat) : Int) := by rw [wrap64 (by omega)]; omega
    have e0 : (((g.length : Nat) : Int) != ((w.length - 1 : Nat) : Int)) = false := by rw [hgl]; simp
    have e1 : (((g.length : Nat) : Int) == 0) = false := by simp; intro e; rw [e] at hgl; simp at hgl; omega
    have s0 : ¬ ((s : Int) < 0) := by omega
    have hig := ints_own H false false g (by omega) (by omega)
    refine WpV.seq (WpV.region ?_)
    refine WpOps.take 1 (by simp only [go_sem, reduceCtorEq, Nat.reduceAdd, Nat.reduceMul, Nat.reduceSub, Nat.reduceLT, Nat.reduceLeDiff, Nat.reduceEqDiff, Nat.reduceBEq, Nat.reducePow]; rfl) ?_
    refine WpOps.step (by rfl) (by rfl) (OpW.callY rfl (by rfl) (by rfl) (by rfl) (enters_of Tryz.func11 (by kernel_rfl) rfl) ((hdn).mono ?_))
    rintro _ _ ⟨rfl, hH⟩
    replace hH := hH.symm
    subst hH
    refine WpOps.take 1 (by simp only [go_sem, reduceCtorEq, Nat.reduceAdd, Nat.reduceMul, Nat.reduceSub, Nat.reduceLT, Nat.reduceLeDiff, Nat.reduceEqDiff, Nat.reduceBEq, Nat.reducePow]; rfl) ?_
    refine WpOps.step (by rfl) (by rfl) (OpW.callY rfl (by rfl) (by rfl) (by rfl) (enters_of Tryz.func12 (by kernel_rfl) rfl) ((hiw).mono ?_))
    rintro _ _ ⟨rfl, hH⟩
    replace hH := hH.symm
    subst hH
    refine WpOps.take 1 (by simp only [go_sem, reduceCtorEq, Nat.reduceAdd, Nat.reduceMul, Nat.reduceSub, Nat.reduceLT, Nat.reduceLeDiff, Nat.reduceEqDiff, Nat.reduceBEq, Nat.reducePow]; rfl) ?_
    refine WpOps.step (by rfl) (by rfl) (OpW.callY rfl (by rfl) (by rfl) (by rfl) (enters_of Tryz.func14 (by kernel_rfl) rfl) ((hly).mono ?_))
    rintro _ _ ⟨rfl, hH⟩
    replace hH := hH.symm
    subst hH
    refine WpOps.take 7 (by simp only [go_sem, reduceCtorEq, Nat.reduceAdd, Nat.reduceMul, Nat.reduceSub, Nat.reduceLT, Nat.reduceLeDiff, Nat.reduceEqDiff, Nat.reduceBEq, Nat.reducePow]; rfl) (WpOps.nil ⟨Marks.nil _, ?_⟩)
    simp only [Vthen, VinBlock, if_true, if_false, Nat.reduceEqDiff, reduceCtorEq]
    refine WpV.seq ?_
    refine WpV.seq (WpV.region ?_)
    refine WpOps.take 8 (by simp only [go_sem, reduceCtorEq, Nat.reduceAdd, Nat.reduceMul, Nat.reduceSub, Nat.reduceLT, Nat.reduceLeDiff, Nat.reduceEqDiff, Nat.reduceBEq, Nat.reducePow, n0, hwm, e0, s0]; rfl) ?_
    refine WpOps.take 6 (by simp only [go_sem, reduceCtorEq, Nat.reduceAdd, Nat.reduceMul, Nat.reduceSub, Nat.reduceLT, Nat.reduceLeDiff, Nat.reduceEqDiff, Nat.reduceBEq, Nat.reducePow, n0, hwm, e0, s0]; rfl) (WpOps.nil ⟨Marks.nil _, ?_⟩)
    simp only [Vthen, VinBlock, if_true, if_false, Nat.reduceEqDiff, reduceCtorEq]
    refine WpV.cond rfl (fun hb => by cases hb) (fun hb => WpV.skip ?_)
    simp only [Vthen, VinBlock, if_true, if_false, Nat.reduceEqDiff, reduceCtorEq]
    refine WpV.seq ?_
    refine WpV.seq (WpV.regionE (by simp only [go_sem, reduceCtorEq, Nat.reduceAdd, Nat.reduceMul, Nat.reduceSub, Nat.reduceLT, Nat.reduceLeDiff, Nat.reduceEqDiff, Nat.reduceBEq, Nat.reducePow, e1]; rfl) (Marks.nil _) ?_)
    simp only [Vthen, VinBlock, if_true, if_false, Nat.reduceEqDiff, reduceCtorEq]
    refine WpV.cond rfl (fun hb => by cases hb) (fun hb => WpV.skip ?_)
    simp only [Vthen, VinBlock, if_true, if_false, Nat.reduceEqDiff, reduceCtorEq]
    refine WpV.seq (WpV.region ?_)
    refine WpOps.take 1 (by simp only [go_sem, reduceCtorEq, Nat.reduceAdd, Nat.reduceMul, Nat.reduceSub, Nat.reduceLT, Nat.reduceLeDiff, Nat.reduceEqDiff, Nat.reduceBEq, Nat.reducePow]; rfl) ?_
    refine WpOps.step (by rfl) (by rfl) (OpW.callY rfl (by rfl) (by rfl) (by rfl) (enters_of Tryz.func12 (by kernel_rfl) rfl) (hig.mono ?_))
    rintro _ _ ⟨ib, fib, rfl, rfl⟩
    refine WpOps.take 3 (by simp only [go_sem, reduceCtorEq, Nat.reduceAdd, Nat.reduceMul, Nat.reduceSub, Nat.reduceLT, Nat.reduceLeDiff, Nat.reduceEqDiff, Nat.reduceBEq, Nat.reducePow]; rfl) (WpOps.nil ⟨Marks.nil _, ?_⟩)
    simp only [Vthen, VinBlock, if_true, if_false, Nat.reduceEqDiff, reduceCtorEq]
    refine WpV.seq ?_
    refine WpV.seq (WpV.regionE (by simp only [go_sem, reduceCtorEq, Nat.reduceAdd, Nat.reduceMul, Nat.reduceSub, Nat.reduceLT, Nat.reduceLeDiff, Nat.reduceEqDiff, Nat.reduceBEq, Nat.reducePow]; rfl) (Marks.nil _) ?_)
    simp only [Vthen, VinBlock, if_true, if_false, Nat.reduceEqDiff, reduceCtorEq]
    refine WpV.block (WpV.loop (ι := { p : (Nat × List Int × List Int) × AV × Hp // p.1.1 ≤ 2 ∧ (Chg c w g p.1.2.1 p.1.2.2 ∧ p.1.2.2.length ≤ p.1.1) ∧ Bld H 3 1 false p.1.2.2.length (p.1.2.2.map vint) p.2.1 p.2.2 ∧ p.2.2 ib = none })
      (fun p => [(5, .cp vc 0), (7, .cp c.cells 0), (8, vints false fl w), (11, vint (s : Int)), (15, .rs ib 0 1 0 g.length false), (16, p.1.2.1), (17, vint p.1.1.1)])
      (fun p => p.1.2.2.set ib (some (.cells 3 0 (p.1.1.2.1.map vint)))) (fun p => 2 - p.1.1.1)
      ⟨((0, g, []), .sl false true 0 [], H), Nat.zero_le _, ⟨⟨rfl, hLd.le, by simp, fun _ _ _ => rfl⟩, by simp⟩, Bld.nil _ _ _ _, fib⟩ ?_ rfl ?_)
    · exact Sub.cons rfl rfl (Sub.cons rfl rfl (Sub.cons rfl rfl (Sub.cons rfl rfl (Sub.cons rfl rfl (Sub.cons rfl rfl (Sub.cons rfl rfl (Sub.nil _)))))))
    rintro ⟨⟨⟨k, Bd, Ch⟩, cv, Hc⟩, hk, ⟨hCg, hCl⟩, hBl, hib⟩
    simp only at hk hCg hCl hBl hib ⊢
    have hbl := hCg.len
    refine WpV.seq ?_
    refine WpV.seq (WpV.regionE (by simp only [go_sem, reduceCtorEq, Nat.reduceAdd, Nat.reduceMul, Nat.reduceSub, Nat.reduceLT, Nat.reduceLeDiff, Nat.reduceEqDiff, Nat.reduceBEq, Nat.reducePow]; rfl) (Marks.nil _) ?_)
    simp only [Vthen, VinBlock, if_true, if_false, Nat.reduceEqDiff, reduceCtorEq]
    refine WpV.cond rfl (fun hb => WpV.skip ?_) (fun hb => WpV.exit ?_)
    · have hlt : (k : Int) < 2 := of_decide_eq_true ‹_›
      have hlt' : k < 2 := by omega
      obtain ⟨hp0, bp0⟩ := hvc (k * 2) (by omega)
      obtain ⟨hp1, bp1⟩ := hvc (k * 2 + 1) (by omega)
      generalize v.getD (k * 2) 0 = p0 at hp0 bp0
      generalize v.getD (k * 2 + 1) 0 = p1 at hp1 bp1
      have ak : (0 : Int) ≤ (k : Int) ∧ (k : Int) < ((3 : Nat) : Int) := by omega
      have wp0 := byte_wrap bp0
      have wp1 := byte_wrap bp1
      have hl0 : ¬ ((g.length : Int) = 0) := by omega
      have mp0 := byte_mod bp0 (g.length : Int)
      have mp1 := byte_mod bp1 60
      obtain ⟨a, ha, hva⟩ : ∃ a : Nat, a < g.length ∧ p0 % (g.length : Int) = (a : Int) := by
        have h1 := Int.emod_nonneg p0 hl0
        have h2 := Int.emod_lt_of_pos p0 (b := (g.length : Int)) (by omega)
        exact ⟨(p0 % (g.length : Int)).toNat, by omega, by omega⟩
      rw [hva] at mp0
      have hnk : IntKind.i64.wrap ((k : Int) + 1) = ((k + 1 : Nat) : Int) := by rw [wrap64 (by omega)]; rfl
      have hib2 : (Hc.set ib (some (.cells 3 0 (Bd.map vint)))) ib = some (.cells 3 0 (Bd.map vint)) := Hp.set_eq _ _ _
      have hlta : (a : Int) < (g.length : Int) := by omega
      have hChl : Ch.length < 1000000 := by omega
      simp only [Vthen, VinBlock, if_true, if_false, Nat.reduceEqDiff, reduceCtorEq]
      refine WpV.seq (WpV.block ?_)
      refine WpV.seq (WpV.regionE (by simp only [go_sem, reduceCtorEq, Nat.reduceAdd, Nat.reduceMul, Nat.reduceSub, Nat.reduceLT, Nat.reduceLeDiff, Nat.reduceEqDiff, Nat.reduceBEq, Nat.reducePow, ak, Int.toNat_natCast, z0, t0, hp0, wp0, hib2, mp0, hl0]; rfl) (Marks.nil _) ?_)
      simp only [Vthen, VinBlock, if_true, if_false, Nat.reduceEqDiff, reduceCtorEq]
      by_cases h200 : p0 < 200
      · refine WpV.seq (WpV.regionE (by simp only [go_sem, reduceCtorEq, Nat.reduceAdd, Nat.reduceMul, Nat.reduceSub, Nat.reduceLT, Nat.reduceLeDiff, Nat.reduceEqDiff, Nat.reduceBEq, Nat.reducePow, ak, Int.toNat_natCast, z0, t0, hp0, h200]; rfl) (Marks.nil _) ?_)
        simp only [Vthen, VinBlock, if_true, if_false, Nat.reduceEqDiff, reduceCtorEq]
        refine WpV.cond rfl (fun hb => ?_) (fun hb => by cases hb)
        refine WpV.seq (WpV.region ?_)
        refine WpOps.take 8 (by simp only [go_sem, reduceCtorEq, Nat.reduceAdd, Nat.reduceMul, Nat.reduceSub, Nat.reduceLT, Nat.reduceLeDiff, Nat.reduceEqDiff, Nat.reduceBEq, Nat.reducePow, ak, Int.toNat_natCast, z1, t1, hp1, wp1, mp1, Int.reduceEq]; rfl) ?_
        refine WpOps.take 1 (by simp only [go_sem, reduceCtorEq, Nat.reduceAdd, Nat.reduceMul, Nat.reduceSub, Nat.reduceLT, Nat.reduceLeDiff, Nat.reduceEqDiff, Nat.reduceBEq, Nat.reducePow, hib2, hlta]; rfl) ?_
        refine WpOps.step (by rfl) (by rfl) (OpW.store (ty := 3) (cs := Bd.map vint) (id := ib) (ver := 0) (off := a) rfl (by simp only [go_sem, reduceCtorEq, Nat.reduceAdd, Nat.reduceMul, Nat.reduceSub, Nat.reduceLT, Nat.reduceLeDiff, Nat.reduceEqDiff, Nat.reduceBEq, Nat.reducePow]; try rfl) (by simp only [go_sem, reduceCtorEq, Nat.reduceAdd, Nat.reduceMul, Nat.reduceSub, Nat.reduceLT, Nat.reduceLeDiff, Nat.reduceEqDiff, Nat.reduceBEq, Nat.reducePow]; try rfl) hib2 (by simp only [go_sem, reduceCtorEq, Nat.reduceAdd, Nat.reduceMul, Nat.reduceSub, Nat.reduceLT, Nat.reduceLeDiff, Nat.reduceEqDiff, Nat.reduceBEq, Nat.reducePow]; try rfl) (by exact Tryz.sz3) (by simp; omega) ?_)
        rw [Hp.set_set, show putC (Bd.map vint) a [vint (p1 % 60)] = (Bd.set a (p1 % 60)).map vint by rw [putC_set _ _ _ (by simp; omega), ← List.map_set]]
        refine WpOps.nil ⟨Marks.nil _, ?_⟩
        simp only [Vthen, VinBlock, if_true, if_false, Nat.reduceEqDiff, reduceCtorEq]
        have hhas := has_bld (ob := .cells 3 0 ((Bd.set a (p1 % 60)).map vint)) hChl rfl hBl hib (a : Int)
        have hy : 0 ≤ p1 % 60 ∧ p1 % 60 ≤ 400 := by omega
        cases hin : contB Ch (a : Int)
        · rw [hin] at hhas
          refine WpV.seq (WpV.region ?_)
          refine WpOps.take 2 (by simp only [go_sem, reduceCtorEq, Nat.reduceAdd, Nat.reduceMul, Nat.reduceSub, Nat.reduceLT, Nat.reduceLeDiff, Nat.reduceEqDiff, Nat.reduceBEq, Nat.reducePow]; rfl) ?_
          refine WpOps.step (by rfl) (by rfl) (OpW.callY rfl (by rfl) (by rfl) (by rfl) (enters_of Tryz.func24 (by kernel_rfl) rfl) ((hhas).mono ?_))
          rintro _ _ ⟨rfl, hH⟩
          replace hH := hH.symm
          subst hH
          refine WpOps.take 1 (by simp only [go_sem, reduceCtorEq, Nat.reduceAdd, Nat.reduceMul, Nat.reduceSub, Nat.reduceLT, Nat.reduceLeDiff, Nat.reduceEqDiff, Nat.reduceBEq, Nat.reducePow]; rfl) (WpOps.nil ⟨Marks.nil _, ?_⟩)
          simp only [Vthen, VinBlock, if_true, if_false, Nat.reduceEqDiff, reduceCtorEq]
          refine WpV.cond rfl (fun hb => ?_) (fun hb => by cases hb)
          refine WpV.region ?_
          refine WpOps.take 3 (by simp only [go_sem, reduceCtorEq, Nat.reduceAdd, Nat.reduceMul, Nat.reduceSub, Nat.reduceLT, Nat.reduceLeDiff, Nat.reduceEqDiff, Nat.reduceBEq, Nat.reducePow]; rfl) ?_
          refine WpOps.step (by rfl) (by rfl) (OpW.appendBx (m := 1) (ys := [vint (a : Int)]) rfl hBl hib (by simp only [go_sem, reduceCtorEq, Nat.reduceAdd, Nat.reduceMul, Nat.reduceSub, Nat.reduceLT, Nat.reduceLeDiff, Nat.reduceEqDiff, Nat.reduceBEq, Nat.reducePow]; try rfl) (by simp only [go_sem, reduceCtorEq, Nat.reduceAdd, Nat.reduceMul, Nat.reduceSub, Nat.reduceLT, Nat.reduceLeDiff, Nat.reduceEqDiff, Nat.reduceBEq, Nat.reducePow]; try rfl) rfl (Tryz.el29 (by omega)) Tryz.underlying29 rfl rfl (by decide) (fun v' H' hB' hi' => ?_))
          refine WpOps.take 1 (by simp only [go_sem, reduceCtorEq, Nat.reduceAdd, Nat.reduceMul, Nat.reduceSub, Nat.reduceLT, Nat.reduceLeDiff, Nat.reduceEqDiff, Nat.reduceBEq, Nat.reducePow]; rfl) (WpOps.nil ⟨Marks.nil _, ?_⟩)
          simp only [Vthen, VinBlock, if_true, if_false, Nat.reduceEqDiff, reduceCtorEq]
          refine WpV.regionE (by simp only [go_sem, reduceCtorEq, Nat.reduceAdd, Nat.reduceMul, Nat.reduceSub, Nat.reduceLT, Nat.reduceLeDiff, Nat.reduceEqDiff, Nat.reduceBEq, Nat.reducePow, hnk]; rfl) (Marks.nil _) ?_
          simp only [Vthen, VinBlock, if_true, if_false, Nat.reduceEqDiff, reduceCtorEq]
          have hc2 : Chg c w g (Bd.set a (p1 % 60)) (Ch ++ [(a : Int)]) := chg_set hCg (by omega) hy (by simp) (fun x hx => by simp [hx]) (fun x hx => by simpa using hx)
          exact ⟨by first | rfl | trivial, ⟨((k + 1, Bd.set a (p1 % 60), Ch ++ [(a : Int)]), v', H'), by simp only; omega, ⟨hc2, by simp; omega⟩, by simpa using hB', hi'⟩, by simp only; omega, Sub.cons rfl rfl (Sub.cons rfl rfl (Sub.cons rfl rfl (Sub.cons rfl rfl (Sub.cons rfl rfl (Sub.cons rfl rfl (Sub.cons rfl rfl (Sub.nil _))))))), by first | rfl | trivial⟩
        · rw [hin] at hhas
          refine WpV.seq (WpV.region ?_)
          refine WpOps.take 2 (by simp only [go_sem, reduceCtorEq, Nat.reduceAdd, Nat.reduceMul, Nat.reduceSub, Nat.reduceLT, Nat.reduceLeDiff, Nat.reduceEqDiff, Nat.reduceBEq, Nat.reducePow]; rfl) ?_
          refine WpOps.step (by rfl) (by rfl) (OpW.callY rfl (by rfl) (by rfl) (by rfl) (enters_of Tryz.func24 (by kernel_rfl) rfl) ((hhas).mono ?_))
          rintro _ _ ⟨rfl, hH⟩
          replace hH := hH.symm
          subst hH
          refine WpOps.take 1 (by simp only [go_sem, reduceCtorEq, Nat.reduceAdd, Nat.reduceMul, Nat.reduceSub, Nat.reduceLT, Nat.reduceLeDiff, Nat.reduceEqDiff, Nat.reduceBEq, Nat.reducePow]; rfl) (WpOps.nil ⟨Marks.nil _, ?_⟩)
          simp only [Vthen, VinBlock, if_true, if_false, Nat.reduceEqDiff, reduceCtorEq]
          refine WpV.cond rfl (fun hb => by cases hb) (fun hb => WpV.skip ?_)
          simp only [Vthen, VinBlock, if_true, if_false, Nat.reduceEqDiff, reduceCtorEq]
          refine WpV.regionE (by simp only [go_sem, reduceCtorEq, Nat.reduceAdd, Nat.reduceMul, Nat.reduceSub, Nat.reduceLT, Nat.reduceLeDiff, Nat.reduceEqDiff, Nat.reduceBEq, Nat.reducePow, hnk]; rfl) (Marks.nil _) ?_
          simp only [Vthen, VinBlock, if_true, if_false, Nat.reduceEqDiff, reduceCtorEq]
          have hc2 : Chg c w g (Bd.set a (p1 % 60)) Ch := chg_set hCg (by omega) hy (contB_iff.1 hin) (fun x hx => hx) (fun x hx => .inl hx)
          exact ⟨by first | rfl | trivial, ⟨((k + 1, Bd.set a (p1 % 60), Ch), cv, Hc), by simp only; omega, ⟨hc2, by simp only; omega⟩, hBl, hib⟩, by simp only; omega, Sub.cons rfl rfl (Sub.cons rfl rfl (Sub.cons rfl rfl (Sub.cons rfl rfl (Sub.cons rfl rfl (Sub.cons rfl rfl (Sub.cons rfl rfl (Sub.nil _))))))), by first | rfl | trivial⟩
      · refine WpV.seq (WpV.regionE (by simp only [go_sem, reduceCtorEq, Nat.reduceAdd, Nat.reduceMul, Nat.reduceSub, Nat.reduceLT, Nat.reduceLeDiff, Nat.reduceEqDiff, Nat.reduceBEq, Nat.reducePow, ak, Int.toNat_natCast, z0, t0, hp0, h200]; rfl) (Marks.nil _) ?_)
        simp only [Vthen, VinBlock, if_true, if_false, Nat.reduceEqDiff, reduceCtorEq]
        refine WpV.cond rfl (fun hb => by cases hb) (fun hb => WpV.skip ?_)
        simp only [Vthen, VinBlock, if_true, if_false, Nat.reduceEqDiff, reduceCtorEq]
        refine WpV.regionE (by simp only [go_sem, reduceCtorEq, Nat.reduceAdd, Nat.reduceMul, Nat.reduceSub, Nat.reduceLT, Nat.reduceLeDiff, Nat.reduceEqDiff, Nat.reduceBEq, Nat.reducePow, hnk]; rfl) (Marks.nil _) ?_
        simp only [Vthen, VinBlock, if_true, if_false, Nat.reduceEqDiff, reduceCtorEq]
        exact ⟨by first | rfl | trivial, ⟨((k + 1, Bd, Ch), cv, Hc), by simp only; omega, ⟨hCg, by simp only; omega⟩, hBl, hib⟩, by simp only; omega, Sub.cons rfl rfl (Sub.cons rfl rfl (Sub.cons rfl rfl (Sub.cons rfl rfl (Sub.cons rfl rfl (Sub.cons rfl rfl (Sub.cons rfl rfl (Sub.nil _))))))), by first | rfl | trivial⟩
    · have hib2 : (Hc.set ib (some (.cells 3 0 (Bd.map vint)))) ib = some (.cells 3 0 (Bd.map vint)) := Hp.set_eq _ _ _
      simp only [Vthen, VinBlock, if_true, if_false, Nat.reduceEqDiff, reduceCtorEq]
      refine WpV.pre (Frz.slice (t := 15) rfl hib2) (Marks.nil _) ?_
      rw [Hp.set_set, Hp.set_same _ _ _ hib]
      refine WpV.pre (hBl.frz (t := 16) rfl) (Marks.nil _) ?_
      rw [show AV.sl false false g.length (((Bd.map vint).drop 0).take (g.length * 1)) = vints false false Bd by rw [List.drop_zero, List.take_of_length_le (by simp; omega), ← hbl]]
      rw [show AV.sl (false && decide (Ch.length = 0)) (decide (Ch.length = 0)) Ch.length (Ch.map vint) = vints false (decide (Ch.length = 0)) Ch from rfl]
      generalize decide (Ch.length = 0) = cf
      have hChl : Ch.length < 1000000 := by omega
      clear hBl hib hib2
      refine WpV.seqS [(7, .cp c.cells 0), (8, vints false fl w), (11, vint (s : Int)), (15, vints false false Bd), (16, vints false cf Ch)] ?_ ?_
      · refine WpV.seq (WpV.regionE (by simp only [go_sem, reduceCtorEq, Nat.reduceAdd, Nat.reduceMul, Nat.reduceSub, Nat.reduceLT, Nat.reduceLeDiff, Nat.reduceEqDiff, Nat.reduceBEq, Nat.reducePow]; rfl) (Marks.nil _) ?_)
        simp only [Vthen, VinBlock, if_true, if_false, Nat.reduceEqDiff, reduceCtorEq]
        refine WpV.block (WpV.loopN Bd.length (fun i => [(7, .cp c.cells 0), (8, vints false fl w), (11, vint (s : Int)), (15, vints false false Bd), (16, vints false cf Ch), (19, vint i)]) (fun _ => H) ?_ rfl ?_)
        · exact .cons rfl rfl (.cons rfl rfl (.cons rfl rfl (.cons rfl rfl (.cons rfl rfl (.cons rfl rfl (.nil _))))))
        · intro i hi
          have hnext : IntKind.i64.wrap ((i : Int) + 1) = ((i + 1 : Nat) : Int) := by rw [wrap64 (by omega)]; rfl
          refine WpV.seq ?_
          refine WpV.seq (WpV.regionE (by simp only [go_sem, reduceCtorEq, Nat.reduceAdd, Nat.reduceMul, Nat.reduceSub, Nat.reduceLT, Nat.reduceLeDiff, Nat.reduceEqDiff, Nat.reduceBEq, Nat.reducePow]; rfl) (Marks.nil _) ?_)
          simp only [Vthen, VinBlock, if_true, if_false, Nat.reduceEqDiff, reduceCtorEq]
          refine WpV.cond rfl (fun hb => WpV.skip ?_) (fun hb => WpV.exit ?_)
          · have hlt : (i : Int) < (Bd.length : Int) := of_decide_eq_true ‹_›
            have hlt' : i < Bd.length := by omega
            have hbi := int_at' (L := Bd) hlt'
            have hble := hCg.le i hlt'
            have y0 : ¬ (Bd.getD i 0 < 0) := by omega
            have y4 : ¬ (Bd.getD i 0 > 400) := by omega
            simp only [Vthen, VinBlock, if_true, if_false, Nat.reduceEqDiff, reduceCtorEq]
            refine WpV.seq (WpV.block ?_)
            refine WpV.seq (WpV.regionE (by simp only [go_sem, reduceCtorEq, Nat.reduceAdd, Nat.reduceMul, Nat.reduceSub, Nat.reduceLT, Nat.reduceLeDiff, Nat.reduceEqDiff, Nat.reduceBEq, Nat.reducePow, hlt, hbi, y0, y4]; rfl) (Marks.nil _) ?_)
            simp only [Vthen, VinBlock, if_true, if_false, Nat.reduceEqDiff, reduceCtorEq]
            refine WpV.cond rfl (fun hb => by cases hb) (fun hb => WpV.skip ?_)
            simp only [Vthen, VinBlock, if_true, if_false, Nat.reduceEqDiff, reduceCtorEq]
            refine WpV.regionE (by simp only [go_sem, reduceCtorEq, Nat.reduceAdd, Nat.reduceMul, Nat.reduceSub, Nat.reduceLT, Nat.reduceLeDiff, Nat.reduceEqDiff, Nat.reduceBEq, Nat.reducePow, hnext]; rfl) (Marks.nil _) ?_
            simp only [Vthen, VinBlock, if_true, if_false, Nat.reduceEqDiff, reduceCtorEq]
            exact ⟨by first | rfl | trivial, hlt', .cons rfl rfl (.cons rfl rfl (.cons rfl rfl (.cons rfl rfl (.cons rfl rfl (.cons rfl rfl (.nil _)))))), by first | rfl | trivial⟩
          · simp only [Vthen, VinBlock, if_true, if_false, Nat.reduceEqDiff, reduceCtorEq]
            exact ⟨by first | rfl | trivial, by first | rfl | trivial, Sub.cons rfl rfl (Sub.cons rfl rfl (Sub.cons rfl rfl (Sub.cons rfl rfl (Sub.cons rfl rfl (Sub.nil _)))))⟩
      have hml : (c.mores w).length = Bd.length := by rw [Cs.moreN_len]; omega
      obtain ⟨b, hfw, hbc, hbs, hsp, hspn⟩ := chg_wrong hLd hCg hml
      have hib3 := ints_any H false false Bd (by omega)
      have hWr := Wrong_any H c.own (own_valid hcV) false (decide (w.length = 0)) false (decide (Bd.length = 0)) w Bd s (Cs.word_iff.2 hw) (by
        unfold gapsB
        rw [Bool.and_eq_true, insB_iff]
        refine ⟨by simp only [beq_iff_eq]; omega, fun x hx => ?_⟩
        obtain ⟨i, hi, rfl⟩ := List.getElem_of_mem hx
        have := hCg.le i hi
        rw [List.getD_eq_getElem?_getD, List.getElem?_eq_getElem hi] at this
        exact this) (by omega)
      rw [show fewestF (c.own.looksF w Bd) (wrongP s) = some b from hfw] at hWr
      unfold orTwice at hWr
      simp only at hWr
      have hbl2 : b.length ≤ Bd.length := by have := hbs.length_le; rwa [numsF_len] at this
      have hbu : b.Pairwise (· < ·) := (nums_up _).sublist hbs
      have hbm : ∀ i, i < b.length → 0 ≤ b.getD i 0 ∧ b.getD i 0 < Bd.length := fun i hi => nums_mem.1 (hbs.subset (getD_mem hi))
      have hWr2 : CallV Tryz.prog 33 [.agg c.own.cells, vints false (decide (w.length = 0)) w, vints false (decide (Bd.length = 0)) Bd, vint (s : Int)] H (fun r H' => r = .tup [rowB b, vint (if b.length = 0 then 6 else 0)] ∧ H' = H) := by
        refine hWr.mono ?_
        rintro r H' ⟨rfl, h⟩
        refine ⟨?_, h⟩
        by_cases h0 : b.length = 0
        · have : b = [] := List.length_eq_zero_iff.1 h0
          subst this; rfl
        · rw [if_neg h0, if_neg h0]
      clear hWr
      refine WpV.seq (WpV.region ?_)
      refine WpOps.take 1 (by simp only [go_sem, reduceCtorEq, Nat.reduceAdd, Nat.reduceMul, Nat.reduceSub, Nat.reduceLT, Nat.reduceLeDiff, Nat.reduceEqDiff, Nat.reduceBEq, Nat.reducePow]; rfl) ?_
      refine WpOps.step (by rfl) (by rfl) (OpW.callY rfl (by rfl) (by rfl) (by rfl) (enters_of Tryz.func11 (by kernel_rfl) rfl) ((hdn).mono ?_))
      rintro _ _ ⟨rfl, hH⟩
      replace hH := hH.symm
      subst hH
      refine WpOps.take 1 (by simp only [go_sem, reduceCtorEq, Nat.reduceAdd, Nat.reduceMul, Nat.reduceSub, Nat.reduceLT, Nat.reduceLeDiff, Nat.reduceEqDiff, Nat.reduceBEq, Nat.reducePow]; rfl) ?_
      refine WpOps.step (by rfl) (by rfl) (OpW.callY rfl (by rfl) (by rfl) (by rfl) (enters_of Tryz.func12 (by kernel_rfl) rfl) ((hiw).mono ?_))
      rintro _ _ ⟨rfl, hH⟩
      replace hH := hH.symm
      subst hH
      refine WpOps.take 1 (by simp only [go_sem, reduceCtorEq, Nat.reduceAdd, Nat.reduceMul, Nat.reduceSub, Nat.reduceLT, Nat.reduceLeDiff, Nat.reduceEqDiff, Nat.reduceBEq, Nat.reducePow]; rfl) ?_
      refine WpOps.step (by rfl) (by rfl) (OpW.callY rfl (by rfl) (by rfl) (by rfl) (enters_of Tryz.func12 (by kernel_rfl) rfl) ((hib3).mono ?_))
      rintro _ _ ⟨rfl, hH⟩
      replace hH := hH.symm
      subst hH
      refine WpOps.take 1 (by simp only [go_sem, reduceCtorEq, Nat.reduceAdd, Nat.reduceMul, Nat.reduceSub, Nat.reduceLT, Nat.reduceLeDiff, Nat.reduceEqDiff, Nat.reduceBEq, Nat.reducePow]; rfl) ?_
      refine WpOps.step (by rfl) (by rfl) (OpW.callY rfl (by rfl) (by rfl) (by rfl) (enters_of Tryz.func33 (by kernel_rfl) rfl) ((hWr2).mono ?_))
      rintro _ _ ⟨rfl, hH⟩
      replace hH := hH.symm
      subst hH
      refine WpOps.take 5 (by simp only [go_sem, reduceCtorEq, Nat.reduceAdd, Nat.reduceMul, Nat.reduceSub, Nat.reduceLT, Nat.reduceLeDiff, Nat.reduceEqDiff, Nat.reduceBEq, Nat.reducePow]; rfl) (WpOps.nil ⟨Marks.nil _, ?_⟩)
      simp only [Vthen, VinBlock, if_true, if_false, Nat.reduceEqDiff, reduceCtorEq]
      have hgt : ¬ ((b.length : Int) > (Ch.length : Int)) := by omega
      refine WpV.seqS [(7, .cp c.cells 0), (8, vints false fl w), (11, vint (s : Int)), (15, vints false false Bd), (20, rowB b)] ?_ ?_
      · by_cases h0 : b.length = 0
        · rw [if_pos h0]
          have f1 : ((6 : Int) != 0) = true := rfl
          have f2 : ((6 : Int) != 6) = false := rfl
          have f3 : ((b.length : Int) != 0) = false := by rw [h0]; rfl
          have f4 : ((6 : Int) == 0) = false := rfl
          refine WpV.seq (WpV.region ?_)
          refine WpOps.take 8 (by simp only [go_sem, reduceCtorEq, Nat.reduceAdd, Nat.reduceMul, Nat.reduceSub, Nat.reduceLT, Nat.reduceLeDiff, Nat.reduceEqDiff, Nat.reduceBEq, Nat.reducePow, f1, f2, f3, f4, hgt]; rfl) ?_
          refine WpOps.take 8 (by simp only [go_sem, reduceCtorEq, Nat.reduceAdd, Nat.reduceMul, Nat.reduceSub, Nat.reduceLT, Nat.reduceLeDiff, Nat.reduceEqDiff, Nat.reduceBEq, Nat.reducePow, f1, f2, f3, f4, hgt]; rfl) ?_
          refine WpOps.take 8 (by simp only [go_sem, reduceCtorEq, Nat.reduceAdd, Nat.reduceMul, Nat.reduceSub, Nat.reduceLT, Nat.reduceLeDiff, Nat.reduceEqDiff, Nat.reduceBEq, Nat.reducePow, f1, f2, f3, f4, hgt]; rfl) ?_
          refine WpOps.take 3 (by simp only [go_sem, reduceCtorEq, Nat.reduceAdd, Nat.reduceMul, Nat.reduceSub, Nat.reduceLT, Nat.reduceLeDiff, Nat.reduceEqDiff, Nat.reduceBEq, Nat.reducePow, f1, f2, f3, f4, hgt]; rfl) (WpOps.nil ⟨Marks.nil _, ?_⟩)
          simp only [Vthen, VinBlock, if_true, if_false, Nat.reduceEqDiff, reduceCtorEq]
          refine WpV.cond rfl (fun hb => by cases hb) (fun hb => WpV.skip ?_)
          simp only [Vthen, VinBlock, if_true, if_false, Nat.reduceEqDiff, reduceCtorEq]
          exact ⟨by first | rfl | trivial, by first | rfl | trivial, Sub.cons rfl rfl (Sub.cons rfl rfl (Sub.cons rfl rfl (Sub.cons rfl rfl (Sub.cons rfl rfl (Sub.nil _)))))⟩
        · rw [if_neg h0]
          have f3 : ((b.length : Int) == 0) = false := by simp; intro e; exact h0 (by rw [e]; rfl)
          refine WpV.seq (WpV.region ?_)
          refine WpOps.take 8 (by simp only [go_sem, reduceCtorEq, Nat.reduceAdd, Nat.reduceMul, Nat.reduceSub, Nat.reduceLT, Nat.reduceLeDiff, Nat.reduceEqDiff, Nat.reduceBEq, Nat.reducePow, n0, f3, hgt]; rfl) ?_
          refine WpOps.take 8 (by simp only [go_sem, reduceCtorEq, Nat.reduceAdd, Nat.reduceMul, Nat.reduceSub, Nat.reduceLT, Nat.reduceLeDiff, Nat.reduceEqDiff, Nat.reduceBEq, Nat.reducePow, n0, f3, hgt]; rfl) ?_
          refine WpOps.take 8 (by simp only [go_sem, reduceCtorEq, Nat.reduceAdd, Nat.reduceMul, Nat.reduceSub, Nat.reduceLT, Nat.reduceLeDiff, Nat.reduceEqDiff, Nat.reduceBEq, Nat.reducePow, n0, f3, hgt]; rfl) ?_
          refine WpOps.take 3 (by simp only [go_sem, reduceCtorEq, Nat.reduceAdd, Nat.reduceMul, Nat.reduceSub, Nat.reduceLT, Nat.reduceLeDiff, Nat.reduceEqDiff, Nat.reduceBEq, Nat.reducePow, n0, f3, hgt]; rfl) (WpOps.nil ⟨Marks.nil _, ?_⟩)
          simp only [Vthen, VinBlock, if_true, if_false, Nat.reduceEqDiff, reduceCtorEq]
          refine WpV.cond rfl (fun hb => by cases hb) (fun hb => WpV.skip ?_)
          simp only [Vthen, VinBlock, if_true, if_false, Nat.reduceEqDiff, reduceCtorEq]
          exact ⟨by first | rfl | trivial, by first | rfl | trivial, Sub.cons rfl rfl (Sub.cons rfl rfl (Sub.cons rfl rfl (Sub.cons rfl rfl (Sub.cons rfl rfl (Sub.nil _)))))⟩
      have hLl : (c.looksF w Bd).length = Bd.length := by unfold Cs.looksF; rw [List.length_zipWith, hml]; omega
      have hLat : ∀ i, i < Bd.length → (c.looksF w Bd).getD i 0 = Bd.getD i 0 + (c.mores w).getD i 0 := fun i hi => by
        have h1 : i < (c.looksF w Bd).length := by omega
        rw [List.getD_eq_getElem?_getD, List.getD_eq_getElem?_getD, List.getD_eq_getElem?_getD, List.getElem?_eq_getElem h1, List.getElem?_eq_getElem (show i < (c.mores w).length by omega), List.getElem?_eq_getElem hi]
        simp [Cs.looksF]; omega
      have hLb : ∀ (b' : List Int) (k : Nat), k ≤ Bd.length → ∀ x ∈ withoutN (c.looksF w Bd) b' k, -5 ≤ x ∧ x ≤ 405 := fun b' k hk x hx => by
        unfold withoutN at hx
        obtain ⟨i, hi, rfl⟩ := List.mem_map.1 hx
        rw [List.mem_filter, List.mem_range] at hi
        rw [hLat i (by omega)]
        have h1 := hCg.le i (by omega)
        have h2 := Cs.mores_le hF w (w.length - 1) _ (getD_mem (xs := c.mores w) (k := i) (by omega))
        omega
      refine WpV.seqS [(7, .cp c.cells 0), (8, vints false fl w), (11, vint (s : Int)), (15, vints false false Bd), (20, rowB b)] ?_ ?_
      · refine WpV.seq (WpV.regionE (by simp only [go_sem, reduceCtorEq, Nat.reduceAdd, Nat.reduceMul, Nat.reduceSub, Nat.reduceLT, Nat.reduceLeDiff, Nat.reduceEqDiff, Nat.reduceBEq, Nat.reducePow]; rfl) (Marks.nil _) ?_)
        simp only [Vthen, VinBlock, if_true, if_false, Nat.reduceEqDiff, reduceCtorEq]
        refine WpV.block (WpV.loopN (b.length + 1) (fun j => [(7, .cp c.cells 0), (8, vints false fl w), (11, vint (s : Int)), (15, vints false false Bd), (20, rowB b), (22, vint ((j : Int) - 1))]) (fun _ => H) ?_ rfl ?_)
        · exact .cons rfl rfl (.cons rfl rfl (.cons rfl rfl (.cons rfl rfl (.cons rfl rfl (.cons rfl rfl (.nil _))))))
        · intro j hj
          refine WpV.seq ?_
          refine WpV.seq (WpV.regionE (by simp only [go_sem, reduceCtorEq, Nat.reduceAdd, Nat.reduceMul, Nat.reduceSub, Nat.reduceLT, Nat.reduceLeDiff, Nat.reduceEqDiff, Nat.reduceBEq, Nat.reducePow]; rfl) (Marks.nil _) ?_)
          simp only [Vthen, VinBlock, if_true, if_false, Nat.reduceEqDiff, reduceCtorEq]
          refine WpV.cond rfl (fun hb => WpV.skip ?_) (fun hb => WpV.exit ?_)
          · have hltj : (j : Int) - 1 < (b.length : Int) := of_decide_eq_true ‹_›
            have hltj' : j < b.length + 1 := by omega
            obtain ⟨b', hb', hspd⟩ : ∃ b' : List Int, (∀ i : Nat, contB b' (i : Int) = (contB b (i : Int) && (if j = 0 then true else !(b.getD (j - 1) 0 == (i : Int))))) ∧ (decide (spreadF (withoutF (c.looksF w Bd) b') ≤ s) = decide (j = 0)) := by
              by_cases hj0 : j = 0
              · exact ⟨b, fun i => by rw [if_pos hj0, Bool.and_true], by rw [decide_eq_true hsp, decide_eq_true hj0]⟩
              · refine ⟨b.eraseIdx (j - 1), fun i => by rw [if_neg hj0]; exact mem_erase hbu (by omega) _, ?_⟩
                rw [decide_eq_false (hspn (j - 1) (by omega)), decide_eq_false hj0]
            have hj22 : IntKind.i64.wrap ((j : Int) - 1 + 1) = ((j + 1 : Nat) : Int) - 1 := by rw [wrap64 (by omega)]; omega
            simp only [Vthen, VinBlock, if_true, if_false, Nat.reduceEqDiff, reduceCtorEq]
            refine WpV.seq (WpV.block ?_)
            refine WpV.seq (WpV.regionE (by simp only [go_sem, reduceCtorEq, Nat.reduceAdd, Nat.reduceMul, Nat.reduceSub, Nat.reduceLT, Nat.reduceLeDiff, Nat.reduceEqDiff, Nat.reduceBEq, Nat.reducePow]; rfl) (Marks.nil _) ?_)
            simp only [Vthen, VinBlock, if_true, if_false, Nat.reduceEqDiff, reduceCtorEq]
            refine WpV.seqS [(7, .cp c.cells 0), (8, vints false fl w), (11, vint (s : Int)), (15, vints false false Bd), (20, rowB b), (22, vint ((j : Int) - 1)), (23, vint (loF (withoutF (c.looksF w Bd) b'))), (24, vint (hiF (withoutF (c.looksF w Bd) b')))] ?_ ?_
            · refine WpV.seq (WpV.regionE (by simp only [go_sem, reduceCtorEq, Nat.reduceAdd, Nat.reduceMul, Nat.reduceSub, Nat.reduceLT, Nat.reduceLeDiff, Nat.reduceEqDiff, Nat.reduceBEq, Nat.reducePow]; rfl) (Marks.nil _) ?_)
              simp only [Vthen, VinBlock, if_true, if_false, Nat.reduceEqDiff, reduceCtorEq]
              refine WpV.block (WpV.loopN Bd.length (fun i => [(7, .cp c.cells 0), (8, vints false fl w), (11, vint (s : Int)), (15, vints false false Bd), (20, rowB b), (22, vint ((j : Int) - 1)), (23, vint (loF (withoutN (c.looksF w Bd) b' i))), (24, vint (hiF (withoutN (c.looksF w Bd) b' i))), (25, .bool (!(withoutN (c.looksF w Bd) b' i).isEmpty)), (26, vint i)]) (fun _ => H) ?_ rfl ?_)
              · exact .cons rfl rfl (.cons rfl rfl (.cons rfl rfl (.cons rfl rfl (.cons rfl rfl (.cons rfl rfl (.cons rfl rfl (.cons rfl rfl (.cons rfl rfl (.cons rfl rfl (.nil _))))))))))
              · intro i hi
                have hnext : IntKind.i64.wrap ((i : Int) + 1) = ((i + 1 : Nat) : Int) := by rw [wrap64 (by omega)]; rfl
                refine WpV.seq ?_
                refine WpV.seq (WpV.regionE (by simp only [go_sem, reduceCtorEq, Nat.reduceAdd, Nat.reduceMul, Nat.reduceSub, Nat.reduceLT, Nat.reduceLeDiff, Nat.reduceEqDiff, Nat.reduceBEq, Nat.reducePow]; rfl) (Marks.nil _) ?_)
                simp only [Vthen, VinBlock, if_true, if_false, Nat.reduceEqDiff, reduceCtorEq]
                refine WpV.cond rfl (fun hb => WpV.skip ?_) (fun hb => WpV.exit ?_)
                · have hlt : (i : Int) < (Bd.length : Int) := of_decide_eq_true ‹_›
                  have hlt' : i < Bd.length := by omega
                  have hbi := int_at' (L := Bd) hlt'
                  have hble := hCg.le i hlt'
                  have hlk := look_any H c hcV false fl w hw i (by omega) (Bd.getD i 0) (by omega)
                  have hhs := has_any H b.isEmpty b.isEmpty b (by omega) (i : Int)
                  rw [any_cont] at hhs
                  have hb'i := hb' i
                  simp only [Vthen, VinBlock, if_true, if_false, Nat.reduceEqDiff, reduceCtorEq]
                  refine WpV.seq (WpV.block ?_)
                  refine WpV.seq ?_
                  cases hcb : contB b (i : Int)
                  · rw [hcb] at hhs
                    have hcb' : contB b' (i : Int) = false := by rw [hb'i, hcb, Bool.false_and]
                    refine WpV.seq (WpV.region ?_)
                    refine WpOps.take 2 (by simp only [go_sem, reduceCtorEq, Nat.reduceAdd, Nat.reduceMul, Nat.reduceSub, Nat.reduceLT, Nat.reduceLeDiff, Nat.reduceEqDiff, Nat.reduceBEq, Nat.reducePow]; rfl) ?_
                    refine WpOps.step (by rfl) (by rfl) (OpW.callY rfl (by rfl) (by rfl) (by rfl) (enters_of Tryz.func24 (by kernel_rfl) rfl) ((hhs).mono ?_))
                    rintro _ _ ⟨rfl, hH⟩
                    replace hH := hH.symm
                    subst hH
                    refine WpOps.take 8 (by simp only [go_sem, reduceCtorEq, Nat.reduceAdd, Nat.reduceMul, Nat.reduceSub, Nat.reduceLT, Nat.reduceLeDiff, Nat.reduceEqDiff, Nat.reduceBEq, Nat.reducePow]; rfl) ?_
                    refine WpOps.take 4 (by simp only [go_sem, reduceCtorEq, Nat.reduceAdd, Nat.reduceMul, Nat.reduceSub, Nat.reduceLT, Nat.reduceLeDiff, Nat.reduceEqDiff, Nat.reduceBEq, Nat.reducePow]; rfl) (WpOps.nil ⟨Marks.nil _, ?_⟩)
                    simp only [Vthen, VinBlock, if_true, if_false, Nat.reduceEqDiff, reduceCtorEq]
                    refine WpV.cond rfl (fun hb => by cases hb) (fun hb => WpV.skip ?_)
                    simp only [Vthen, VinBlock, if_true, if_false, Nat.reduceEqDiff, reduceCtorEq]
                    have hrest : withoutN (c.looksF w Bd) b' (i + 1) = withoutN (c.looksF w Bd) b' i ++ [Bd.getD i 0 + (c.mores w).getD i 0] := by rw [withoutN_succ, hcb', if_neg (by decide), hLat i hlt']
                    have hlo := loF_snoc (withoutN (c.looksF w Bd) b' i) (Bd.getD i 0 + (c.mores w).getD i 0)
                    have hhi := hiF_snoc (withoutN (c.looksF w Bd) b' i) (Bd.getD i 0 + (c.mores w).getD i 0)
                    have hne : (withoutN (c.looksF w Bd) b' i ++ [Bd.getD i 0 + (c.mores w).getD i 0]).isEmpty = false := by simp
                    rw [← hrest] at hlo hhi hne
                    generalize withoutN (c.looksF w Bd) b' (i + 1) = xs1 at *
                    generalize withoutN (c.looksF w Bd) b' i = xs at *
                    refine WpV.seq (WpV.regionD Tryz.mixed (by kernel_rfl) (by kernel_rfl) ?_)
                    refine LexD.take 7 (by rfl) (by simp only [go_sem, reduceCtorEq, Nat.reduceAdd, Nat.reduceMul, Nat.reduceSub, Nat.reduceLT, Nat.reduceLeDiff, Nat.reduceEqDiff, Nat.reduceBEq, Nat.reducePow, hlt, hbi]; rfl) ?_
                    refine LexD.step (by rfl) (by rfl) (OpW.callY rfl (by rfl) (by rfl) (by rfl) (enters_of Tryz.func20 (by kernel_rfl) rfl) (hlk)) ?_
                    refine LexD.take 1 (by rfl) (by simp only [go_sem, reduceCtorEq, Nat.reduceAdd, Nat.reduceMul, Nat.reduceSub, Nat.reduceLT, Nat.reduceLeDiff, Nat.reduceEqDiff, Nat.reduceBEq, Nat.reducePow, hlt, hbi]; rfl) (LexD.nilE ⟨Marks.nil _, ?_⟩)
                    simp only [Vthen, VinBlock, if_true, if_false, Nat.reduceEqDiff, reduceCtorEq]
                    generalize Bd.getD i 0 + (c.mores w).getD i 0 = y at *
                    refine WpV.seq ?_
                    by_cases hem : xs = []
                    · rw [if_pos hem] at hlo hhi
                      have hie : xs.isEmpty = true := by rw [hem]; rfl
                      refine WpV.seq (WpV.regionE (by simp only [go_sem, reduceCtorEq, Nat.reduceAdd, Nat.reduceMul, Nat.reduceSub, Nat.reduceLT, Nat.reduceLeDiff, Nat.reduceEqDiff, Nat.reduceBEq, Nat.reducePow, hie]; rfl) (Marks.nil _) ?_)
                      simp only [Vthen, VinBlock, if_true, if_false, Nat.reduceEqDiff, reduceCtorEq]
                      refine WpV.cond rfl (fun hb => ?_) (fun hb => by cases hb)
                      refine WpV.regionE (by simp only [go_sem, reduceCtorEq, Nat.reduceAdd, Nat.reduceMul, Nat.reduceSub, Nat.reduceLT, Nat.reduceLeDiff, Nat.reduceEqDiff, Nat.reduceBEq, Nat.reducePow]; rfl) (Marks.nil _) ?_
                      simp only [Vthen, VinBlock, if_true, if_false, Nat.reduceEqDiff, reduceCtorEq]
                      refine WpV.regionE (by simp only [go_sem, reduceCtorEq, Nat.reduceAdd, Nat.reduceMul, Nat.reduceSub, Nat.reduceLT, Nat.reduceLeDiff, Nat.reduceEqDiff, Nat.reduceBEq, Nat.reducePow, ite_self]; rfl) (Marks.nil _) ?_
                      simp only [Vthen, VinBlock, if_true, if_false, Nat.reduceEqDiff, reduceCtorEq]
                      refine WpV.regionE (by simp only [go_sem, reduceCtorEq, Nat.reduceAdd, Nat.reduceMul, Nat.reduceSub, Nat.reduceLT, Nat.reduceLeDiff, Nat.reduceEqDiff, Nat.reduceBEq, Nat.reducePow, hnext]; rfl) (Marks.nil _) ?_
                      simp only [Vthen, VinBlock, if_true, if_false, Nat.reduceEqDiff, reduceCtorEq]
                      exact ⟨by first | rfl | trivial, hlt', .cons rfl rfl (.cons rfl rfl (.cons rfl rfl (.cons rfl rfl (.cons rfl rfl (.cons rfl (by first | rfl | rw [hjm]) (.cons rfl (by rw [hlo]) (.cons rfl (by rw [hhi]) (.cons rfl (by rw [hne]; rfl) (.cons rfl rfl (.nil _)))))))))), by first | rfl | trivial⟩
                    · rw [if_neg hem] at hlo hhi
                      have hie : xs.isEmpty = false := by simpa using hem
                      refine WpV.seq (WpV.regionE (by simp only [go_sem, reduceCtorEq, Nat.reduceAdd, Nat.reduceMul, Nat.reduceSub, Nat.reduceLT, Nat.reduceLeDiff, Nat.reduceEqDiff, Nat.reduceBEq, Nat.reducePow, hie]; rfl) (Marks.nil _) ?_)
                      simp only [Vthen, VinBlock, if_true, if_false, Nat.reduceEqDiff, reduceCtorEq]
                      refine WpV.cond rfl (fun hb => by cases hb) (fun hb => WpV.skip ?_)
                      simp only [Vthen, VinBlock, if_true, if_false, Nat.reduceEqDiff, reduceCtorEq]
                      refine WpV.regionE (by simp only [go_sem, reduceCtorEq, Nat.reduceAdd, Nat.reduceMul, Nat.reduceSub, Nat.reduceLT, Nat.reduceLeDiff, Nat.reduceEqDiff, Nat.reduceBEq, Nat.reducePow]; rfl) (Marks.nil _) ?_
                      simp only [Vthen, VinBlock, if_true, if_false, Nat.reduceEqDiff, reduceCtorEq]
                      refine WpV.regionE (by simp only [go_sem, reduceCtorEq, Nat.reduceAdd, Nat.reduceMul, Nat.reduceSub, Nat.reduceLT, Nat.reduceLeDiff, Nat.reduceEqDiff, Nat.reduceBEq, Nat.reducePow, hnext]; rfl) (Marks.nil _) ?_
                      simp only [Vthen, VinBlock, if_true, if_false, Nat.reduceEqDiff, reduceCtorEq]
                      exact ⟨by first | rfl | trivial, hlt', .cons rfl rfl (.cons rfl rfl (.cons rfl rfl (.cons rfl rfl (.cons rfl rfl (.cons rfl (by first | rfl | rw [hjm]) (.cons rfl (by rw [hlo]; rfl) (.cons rfl (by rw [hhi]; rfl) (.cons rfl (by rw [hne]; rfl) (.cons rfl rfl (.nil _)))))))))), by first | rfl | trivial⟩
                  · rw [hcb] at hhs
                    by_cases hj0 : j = 0
                    · have hjn : (j : Int) - 1 < 0 := by omega
                      have hcb' : contB b' (i : Int) = true := by rw [hb'i, hcb, hj0]; rfl
                      refine WpV.seq (WpV.region ?_)
                      refine WpOps.take 2 (by simp only [go_sem, reduceCtorEq, Nat.reduceAdd, Nat.reduceMul, Nat.reduceSub, Nat.reduceLT, Nat.reduceLeDiff, Nat.reduceEqDiff, Nat.reduceBEq, Nat.reducePow, hjn]; rfl) ?_
                      refine WpOps.step (by rfl) (by rfl) (OpW.callY rfl (by rfl) (by rfl) (by rfl) (enters_of Tryz.func24 (by kernel_rfl) rfl) ((hhs).mono ?_))
                      rintro _ _ ⟨rfl, hH⟩
                      replace hH := hH.symm
                      subst hH
                      refine WpOps.take 8 (by simp only [go_sem, reduceCtorEq, Nat.reduceAdd, Nat.reduceMul, Nat.reduceSub, Nat.reduceLT, Nat.reduceLeDiff, Nat.reduceEqDiff, Nat.reduceBEq, Nat.reducePow, hjn]; rfl) ?_
                      refine WpOps.take 4 (by simp only [go_sem, reduceCtorEq, Nat.reduceAdd, Nat.reduceMul, Nat.reduceSub, Nat.reduceLT, Nat.reduceLeDiff, Nat.reduceEqDiff, Nat.reduceBEq, Nat.reducePow, hjn]; rfl) (WpOps.nil ⟨Marks.nil _, ?_⟩)
                      simp only [Vthen, VinBlock, if_true, if_false, Nat.reduceEqDiff, reduceCtorEq]
                      refine WpV.cond rfl (fun hb => WpV.exit ?_) (fun hb => by cases hb)
                      simp only [Vthen, VinBlock, if_true, if_false, Nat.reduceEqDiff, reduceCtorEq]
                      have hrest : withoutN (c.looksF w Bd) b' (i + 1) = withoutN (c.looksF w Bd) b' i := by rw [withoutN_succ, hcb', if_pos rfl, List.append_nil]
                      refine WpV.regionE (by simp only [go_sem, reduceCtorEq, Nat.reduceAdd, Nat.reduceMul, Nat.reduceSub, Nat.reduceLT, Nat.reduceLeDiff, Nat.reduceEqDiff, Nat.reduceBEq, Nat.reducePow, hnext]; rfl) (Marks.nil _) ?_
                      simp only [Vthen, VinBlock, if_true, if_false, Nat.reduceEqDiff, reduceCtorEq]
                      exact ⟨by first | rfl | trivial, hlt', .cons rfl rfl (.cons rfl rfl (.cons rfl rfl (.cons rfl rfl (.cons rfl rfl (.cons rfl (by first | rfl | rw [hjm]) (.cons rfl (by rw [hrest]) (.cons rfl (by rw [hrest]) (.cons rfl (by rw [hrest]) (.cons rfl rfl (.nil _)))))))))), by first | rfl | trivial⟩
                    · have hjn : ¬ ((j : Int) - 1 < 0) := by omega
                      have hjm : (j : Int) - 1 = ((j - 1 : Nat) : Int) := by omega
                      have hjn' : ¬ (((j - 1 : Nat) : Int) < 0) := by omega
                      have hjl : ((j - 1 : Nat) : Int) < (b.length : Int) := by omega
                      have hjb := int_at' (L := b) (k := j - 1) (by omega)
                      cases hne : (b.getD (j - 1) 0 != (i : Int))
                      · have hcb' : contB b' (i : Int) = false := by
                          rw [hb'i, hcb, if_neg hj0]
                          have : (b.getD (j - 1) 0 == (i : Int)) = true := by simpa using hne
                          rw [this]; rfl
                        refine WpV.seq (WpV.region ?_)
                        refine WpOps.take 2 (by simp only [go_sem, reduceCtorEq, Nat.reduceAdd, Nat.reduceMul, Nat.reduceSub, Nat.reduceLT, Nat.reduceLeDiff, Nat.reduceEqDiff, Nat.reduceBEq, Nat.reducePow, hjm, hjn', hjl, hjb, hne]; rfl) ?_
                        refine WpOps.step (by rfl) (by rfl) (OpW.callY rfl (by rfl) (by rfl) (by rfl) (enters_of Tryz.func24 (by kernel_rfl) rfl) ((hhs).mono ?_))
                        rintro _ _ ⟨rfl, hH⟩
                        replace hH := hH.symm
                        subst hH
                        refine WpOps.take 8 (by simp only [go_sem, reduceCtorEq, Nat.reduceAdd, Nat.reduceMul, Nat.reduceSub, Nat.reduceLT, Nat.reduceLeDiff, Nat.reduceEqDiff, Nat.reduceBEq, Nat.reducePow, hjm, hjn', hjl, hjb, hne]; rfl) ?_
                        refine WpOps.take 4 (by simp only [go_sem, reduceCtorEq, Nat.reduceAdd, Nat.reduceMul, Nat.reduceSub, Nat.reduceLT, Nat.reduceLeDiff, Nat.reduceEqDiff, Nat.reduceBEq, Nat.reducePow, hjm, hjn', hjl, hjb, hne]; rfl) (WpOps.nil ⟨Marks.nil _, ?_⟩)
                        simp only [Vthen, VinBlock, if_true, if_false, Nat.reduceEqDiff, reduceCtorEq]
                        refine WpV.cond rfl (fun hb => by cases hb) (fun hb => WpV.skip ?_)
                        simp only [Vthen, VinBlock, if_true, if_false, Nat.reduceEqDiff, reduceCtorEq]
                        have hrest : withoutN (c.looksF w Bd) b' (i + 1) = withoutN (c.looksF w Bd) b' i ++ [Bd.getD i 0 + (c.mores w).getD i 0] := by rw [withoutN_succ, hcb', if_neg (by decide), hLat i hlt']
                        have hlo := loF_snoc (withoutN (c.looksF w Bd) b' i) (Bd.getD i 0 + (c.mores w).getD i 0)
                        have hhi := hiF_snoc (withoutN (c.looksF w Bd) b' i) (Bd.getD i 0 + (c.mores w).getD i 0)
                        have hne : (withoutN (c.looksF w Bd) b' i ++ [Bd.getD i 0 + (c.mores w).getD i 0]).isEmpty = false := by simp
                        rw [← hrest] at hlo hhi hne
                        generalize withoutN (c.looksF w Bd) b' (i + 1) = xs1 at *
                        generalize withoutN (c.looksF w Bd) b' i = xs at *
                        refine WpV.seq (WpV.regionD Tryz.mixed (by kernel_rfl) (by kernel_rfl) ?_)
                        refine LexD.take 7 (by rfl) (by simp only [go_sem, reduceCtorEq, Nat.reduceAdd, Nat.reduceMul, Nat.reduceSub, Nat.reduceLT, Nat.reduceLeDiff, Nat.reduceEqDiff, Nat.reduceBEq, Nat.reducePow, hlt, hbi]; rfl) ?_
                        refine LexD.step (by rfl) (by rfl) (OpW.callY rfl (by rfl) (by rfl) (by rfl) (enters_of Tryz.func20 (by kernel_rfl) rfl) (hlk)) ?_
                        refine LexD.take 1 (by rfl) (by simp only [go_sem, reduceCtorEq, Nat.reduceAdd, Nat.reduceMul, Nat.reduceSub, Nat.reduceLT, Nat.reduceLeDiff, Nat.reduceEqDiff, Nat.reduceBEq, Nat.reducePow, hlt, hbi]; rfl) (LexD.nilE ⟨Marks.nil _, ?_⟩)
                        simp only [Vthen, VinBlock, if_true, if_false, Nat.reduceEqDiff, reduceCtorEq]
                        generalize Bd.getD i 0 + (c.mores w).getD i 0 = y at *
                        refine WpV.seq ?_
                        by_cases hem : xs = []
                        · rw [if_pos hem] at hlo hhi
                          have hie : xs.isEmpty = true := by rw [hem]; rfl
                          refine WpV.seq (WpV.regionE (by simp only [go_sem, reduceCtorEq, Nat.reduceAdd, Nat.reduceMul, Nat.reduceSub, Nat.reduceLT, Nat.reduceLeDiff, Nat.reduceEqDiff, Nat.reduceBEq, Nat.reducePow, hie]; rfl) (Marks.nil _) ?_)
                          simp only [Vthen, VinBlock, if_true, if_false, Nat.reduceEqDiff, reduceCtorEq]
                          refine WpV.cond rfl (fun hb => ?_) (fun hb => by cases hb)
                          refine WpV.regionE (by simp only [go_sem, reduceCtorEq, Nat.reduceAdd, Nat.reduceMul, Nat.reduceSub, Nat.reduceLT, Nat.reduceLeDiff, Nat.reduceEqDiff, Nat.reduceBEq, Nat.reducePow]; rfl) (Marks.nil _) ?_
                          simp only [Vthen, VinBlock, if_true, if_false, Nat.reduceEqDiff, reduceCtorEq]
                          refine WpV.regionE (by simp only [go_sem, reduceCtorEq, Nat.reduceAdd, Nat.reduceMul, Nat.reduceSub, Nat.reduceLT, Nat.reduceLeDiff, Nat.reduceEqDiff, Nat.reduceBEq, Nat.reducePow, ite_self]; rfl) (Marks.nil _) ?_
                          simp only [Vthen, VinBlock, if_true, if_false, Nat.reduceEqDiff, reduceCtorEq]
                          refine WpV.regionE (by simp only [go_sem, reduceCtorEq, Nat.reduceAdd, Nat.reduceMul, Nat.reduceSub, Nat.reduceLT, Nat.reduceLeDiff, Nat.reduceEqDiff, Nat.reduceBEq, Nat.reducePow, hnext]; rfl) (Marks.nil _) ?_
                          simp only [Vthen, VinBlock, if_true, if_false, Nat.reduceEqDiff, reduceCtorEq]
                          exact ⟨by first | rfl | trivial, hlt', .cons rfl rfl (.cons rfl rfl (.cons rfl rfl (.cons rfl rfl (.cons rfl rfl (.cons rfl (by first | rfl | rw [hjm]) (.cons rfl (by rw [hlo]) (.cons rfl (by rw [hhi]) (.cons rfl (by rw [hne]; rfl) (.cons rfl rfl (.nil _)))))))))), by first | rfl | trivial⟩
                        · rw [if_neg hem] at hlo hhi
                          have hie : xs.isEmpty = false := by simpa using hem
                          refine WpV.seq (WpV.regionE (by simp only [go_sem, reduceCtorEq, Nat.reduceAdd, Nat.reduceMul, Nat.reduceSub, Nat.reduceLT, Nat.reduceLeDiff, Nat.reduceEqDiff, Nat.reduceBEq, Nat.reducePow, hie]; rfl) (Marks.nil _) ?_)
                          simp only [Vthen, VinBlock, if_true, if_false, Nat.reduceEqDiff, reduceCtorEq]
                          refine WpV.cond rfl (fun hb => by cases hb) (fun hb => WpV.skip ?_)
                          simp only [Vthen, VinBlock, if_true, if_false, Nat.reduceEqDiff, reduceCtorEq]
                          refine WpV.regionE (by simp only [go_sem, reduceCtorEq, Nat.reduceAdd, Nat.reduceMul, Nat.reduceSub, Nat.reduceLT, Nat.reduceLeDiff, Nat.reduceEqDiff, Nat.reduceBEq, Nat.reducePow]; rfl) (Marks.nil _) ?_
                          simp only [Vthen, VinBlock, if_true, if_false, Nat.reduceEqDiff, reduceCtorEq]
                          refine WpV.regionE (by simp only [go_sem, reduceCtorEq, Nat.reduceAdd, Nat.reduceMul, Nat.reduceSub, Nat.reduceLT, Nat.reduceLeDiff, Nat.reduceEqDiff, Nat.reduceBEq, Nat.reducePow, hnext]; rfl) (Marks.nil _) ?_
                          simp only [Vthen, VinBlock, if_true, if_false, Nat.reduceEqDiff, reduceCtorEq]
                          exact ⟨by first | rfl | trivial, hlt', .cons rfl rfl (.cons rfl rfl (.cons rfl rfl (.cons rfl rfl (.cons rfl rfl (.cons rfl (by first | rfl | rw [hjm]) (.cons rfl (by rw [hlo]; rfl) (.cons rfl (by rw [hhi]; rfl) (.cons rfl (by rw [hne]; rfl) (.cons rfl rfl (.nil _)))))))))), by first | rfl | trivial⟩
                      · have hcb' : contB b' (i : Int) = true := by
                          rw [hb'i, hcb, if_neg hj0]
                          have : (b.getD (j - 1) 0 == (i : Int)) = false := by simpa using hne
                          rw [this]; rfl
                        refine WpV.seq (WpV.region ?_)
                        refine WpOps.take 2 (by simp only [go_sem, reduceCtorEq, Nat.reduceAdd, Nat.reduceMul, Nat.reduceSub, Nat.reduceLT, Nat.reduceLeDiff, Nat.reduceEqDiff, Nat.reduceBEq, Nat.reducePow, hjm, hjn', hjl, hjb, hne]; rfl) ?_
                        refine WpOps.step (by rfl) (by rfl) (OpW.callY rfl (by rfl) (by rfl) (by rfl) (enters_of Tryz.func24 (by kernel_rfl) rfl) ((hhs).mono ?_))
                        rintro _ _ ⟨rfl, hH⟩
                        replace hH := hH.symm
                        subst hH
                        refine WpOps.take 8 (by simp only [go_sem, reduceCtorEq, Nat.reduceAdd, Nat.reduceMul, Nat.reduceSub, Nat.reduceLT, Nat.reduceLeDiff, Nat.reduceEqDiff, Nat.reduceBEq, Nat.reducePow, hjm, hjn', hjl, hjb, hne]; rfl) ?_
                        refine WpOps.take 4 (by simp only [go_sem, reduceCtorEq, Nat.reduceAdd, Nat.reduceMul, Nat.reduceSub, Nat.reduceLT, Nat.reduceLeDiff, Nat.reduceEqDiff, Nat.reduceBEq, Nat.reducePow, hjm, hjn', hjl, hjb, hne]; rfl) (WpOps.nil ⟨Marks.nil _, ?_⟩)
                        simp only [Vthen, VinBlock, if_true, if_false, Nat.reduceEqDiff, reduceCtorEq]
                        refine WpV.cond rfl (fun hb => WpV.exit ?_) (fun hb => by cases hb)
                        simp only [Vthen, VinBlock, if_true, if_false, Nat.reduceEqDiff, reduceCtorEq]
                        have hrest : withoutN (c.looksF w Bd) b' (i + 1) = withoutN (c.looksF w Bd) b' i := by rw [withoutN_succ, hcb', if_pos rfl, List.append_nil]
                        refine WpV.regionE (by simp only [go_sem, reduceCtorEq, Nat.reduceAdd, Nat.reduceMul, Nat.reduceSub, Nat.reduceLT, Nat.reduceLeDiff, Nat.reduceEqDiff, Nat.reduceBEq, Nat.reducePow, hnext]; rfl) (Marks.nil _) ?_
                        simp only [Vthen, VinBlock, if_true, if_false, Nat.reduceEqDiff, reduceCtorEq]
                        exact ⟨by first | rfl | trivial, hlt', .cons rfl rfl (.cons rfl rfl (.cons rfl rfl (.cons rfl rfl (.cons rfl rfl (.cons rfl (by first | rfl | rw [hjm]) (.cons rfl (by rw [hrest]) (.cons rfl (by rw [hrest]) (.cons rfl (by rw [hrest]) (.cons rfl rfl (.nil _)))))))))), by first | rfl | trivial⟩
                · have hge : i = Bd.length := by have := of_decide_eq_false ‹_›; omega
                  have hwf : withoutN (c.looksF w Bd) b' i = withoutF (c.looksF w Bd) b' := by rw [hge, ← hLl]
                  simp only [Vthen, VinBlock, if_true, if_false, Nat.reduceEqDiff, reduceCtorEq]
                  rw [hwf]
                  exact ⟨by first | rfl | trivial, by first | rfl | trivial, Sub.cons rfl rfl (Sub.cons rfl rfl (Sub.cons rfl rfl (Sub.cons rfl rfl (Sub.cons rfl rfl (Sub.cons rfl rfl (Sub.cons rfl rfl (Sub.cons rfl rfl (Sub.nil _))))))))⟩
            rw [spread_eq] at hspd
            have hbd := hLb b' (c.looksF w Bd).length (by omega)
            have hlb := loF_le hbd
            have hhb := hiF_le hbd
            generalize loF (withoutF (c.looksF w Bd) b') = lo1 at *
            generalize hiF (withoutF (c.looksF w Bd) b') = hi1 at *
            have hws : IntKind.i64.wrap (hi1 - lo1) = hi1 - lo1 := wrap64 (by omega)
            have q1 : (true != true) = false := rfl
            have q2 : (false != false) = false := rfl
            by_cases hj0 : j = 0
            · rw [decide_eq_true hj0] at hspd
              have h1 : hi1 - lo1 ≤ s := of_decide_eq_true hspd
              have h2 : (j : Int) - 1 < 0 := by omega
              refine WpV.seq (WpV.regionE (by simp only [go_sem, reduceCtorEq, Nat.reduceAdd, Nat.reduceMul, Nat.reduceSub, Nat.reduceLT, Nat.reduceLeDiff, Nat.reduceEqDiff, Nat.reduceBEq, Nat.reducePow, hws, h1, h2, q1]; rfl) (Marks.nil _) ?_)
              simp only [Vthen, VinBlock, if_true, if_false, Nat.reduceEqDiff, reduceCtorEq]
              refine WpV.cond rfl (fun hb => by cases hb) (fun hb => WpV.skip ?_)
              simp only [Vthen, VinBlock, if_true, if_false, Nat.reduceEqDiff, reduceCtorEq]
              refine WpV.regionE (by simp only [go_sem, reduceCtorEq, Nat.reduceAdd, Nat.reduceMul, Nat.reduceSub, Nat.reduceLT, Nat.reduceLeDiff, Nat.reduceEqDiff, Nat.reduceBEq, Nat.reducePow, hj22]; rfl) (Marks.nil _) ?_
              simp only [Vthen, VinBlock, if_true, if_false, Nat.reduceEqDiff, reduceCtorEq]
              exact ⟨by first | rfl | trivial, hltj', .cons rfl rfl (.cons rfl rfl (.cons rfl rfl (.cons rfl rfl (.cons rfl rfl (.cons rfl rfl (.nil _)))))), by first | rfl | trivial⟩
            · rw [decide_eq_false hj0] at hspd
              have h1 : ¬ (hi1 - lo1 ≤ s) := of_decide_eq_false hspd
              have h2 : ¬ ((j : Int) - 1 < 0) := by omega
              refine WpV.seq (WpV.regionE (by simp only [go_sem, reduceCtorEq, Nat.reduceAdd, Nat.reduceMul, Nat.reduceSub, Nat.reduceLT, Nat.reduceLeDiff, Nat.reduceEqDiff, Nat.reduceBEq, Nat.reducePow, hws, h1, h2, q2]; rfl) (Marks.nil _) ?_)
              simp only [Vthen, VinBlock, if_true, if_false, Nat.reduceEqDiff, reduceCtorEq]
              refine WpV.cond rfl (fun hb => by cases hb) (fun hb => WpV.skip ?_)
              simp only [Vthen, VinBlock, if_true, if_false, Nat.reduceEqDiff, reduceCtorEq]
              refine WpV.regionE (by simp only [go_sem, reduceCtorEq, Nat.reduceAdd, Nat.reduceMul, Nat.reduceSub, Nat.reduceLT, Nat.reduceLeDiff, Nat.reduceEqDiff, Nat.reduceBEq, Nat.reducePow, hj22]; rfl) (Marks.nil _) ?_
              simp only [Vthen, VinBlock, if_true, if_false, Nat.reduceEqDiff, reduceCtorEq]
              exact ⟨by first | rfl | trivial, hltj', .cons rfl rfl (.cons rfl rfl (.cons rfl rfl (.cons rfl rfl (.cons rfl rfl (.cons rfl rfl (.nil _)))))), by first | rfl | trivial⟩
          · simp only [Vthen, VinBlock, if_true, if_false, Nat.reduceEqDiff, reduceCtorEq]
            exact ⟨by first | rfl | trivial, by first | rfl | trivial, Sub.cons rfl rfl (Sub.cons rfl rfl (Sub.cons rfl rfl (Sub.cons rfl rfl (Sub.cons rfl rfl (Sub.nil _)))))⟩
      refine WpV.seqS [] ?_ ?_
      · refine WpV.seq (WpV.regionE (by simp only [go_sem, reduceCtorEq, Nat.reduceAdd, Nat.reduceMul, Nat.reduceSub, Nat.reduceLT, Nat.reduceLeDiff, Nat.reduceEqDiff, Nat.reduceBEq, Nat.reducePow]; rfl) (Marks.nil _) ?_)
        simp only [Vthen, VinBlock, if_true, if_false, Nat.reduceEqDiff, reduceCtorEq]
        refine WpV.block (WpV.loopN b.length (fun i => [(15, vints false false Bd), (20, rowB b), (28, vint i)]) (fun _ => H) ?_ rfl ?_)
        · exact .cons rfl rfl (.cons rfl rfl (.cons rfl rfl (.nil _)))
        · intro i hi
          have hnext : IntKind.i64.wrap ((i : Int) + 1) = ((i + 1 : Nat) : Int) := by rw [wrap64 (by omega)]; rfl
          refine WpV.seq ?_
          refine WpV.seq (WpV.regionE (by simp only [go_sem, reduceCtorEq, Nat.reduceAdd, Nat.reduceMul, Nat.reduceSub, Nat.reduceLT, Nat.reduceLeDiff, Nat.reduceEqDiff, Nat.reduceBEq, Nat.reducePow]; rfl) (Marks.nil _) ?_)
          simp only [Vthen, VinBlock, if_true, if_false, Nat.reduceEqDiff, reduceCtorEq]
          refine WpV.cond rfl (fun hb => WpV.skip ?_) (fun hb => WpV.exit ?_)
          · have hlt : (i : Int) < (b.length : Int) := of_decide_eq_true ‹_›
            have hlt' : i < b.length := by omega
            have hqi := int_at' (L := b) hlt'
            have hyl := hbm i hlt'
            have y0 : ¬ (b.getD i 0 < 0) := by omega
            have y5 : ¬ (b.getD i 0 ≥ (Bd.length : Int)) := by omega
            simp only [Vthen, VinBlock, if_true, if_false, Nat.reduceEqDiff, reduceCtorEq]
            refine WpV.seq (WpV.block ?_)
            by_cases hi0 : i = 0
            · have e0 : ¬ ((i : Int) > 0) := by omega
              refine WpV.seq (WpV.regionD Tryz.mixed (by kernel_rfl) (by kernel_rfl) ?_)
              refine LexD.take 8 (by rfl) (by simp only [go_sem, reduceCtorEq, Nat.reduceAdd, Nat.reduceMul, Nat.reduceSub, Nat.reduceLT, Nat.reduceLeDiff, Nat.reduceEqDiff, Nat.reduceBEq, Nat.reducePow, hlt, hqi, y0, y5, e0]; rfl) ?_
              refine LexD.take 8 (by rfl) (by simp only [go_sem, reduceCtorEq, Nat.reduceAdd, Nat.reduceMul, Nat.reduceSub, Nat.reduceLT, Nat.reduceLeDiff, Nat.reduceEqDiff, Nat.reduceBEq, Nat.reducePow, hlt, hqi, y0, y5, e0]; rfl) ?_
              refine LexD.take 8 (by rfl) (by simp only [go_sem, reduceCtorEq, Nat.reduceAdd, Nat.reduceMul, Nat.reduceSub, Nat.reduceLT, Nat.reduceLeDiff, Nat.reduceEqDiff, Nat.reduceBEq, Nat.reducePow, hlt, hqi, y0, y5, e0]; rfl) ?_
              refine LexD.take 6 (by rfl) (by simp only [go_sem, reduceCtorEq, Nat.reduceAdd, Nat.reduceMul, Nat.reduceSub, Nat.reduceLT, Nat.reduceLeDiff, Nat.reduceEqDiff, Nat.reduceBEq, Nat.reducePow, hlt, hqi, y0, y5, e0]; rfl) (LexD.nilE ⟨Marks.nil _, ?_⟩)
              simp only [Vthen, VinBlock, if_true, if_false, Nat.reduceEqDiff, reduceCtorEq]
              refine WpV.cond rfl (fun hb => by cases hb) (fun hb => WpV.skip ?_)
              simp only [Vthen, VinBlock, if_true, if_false, Nat.reduceEqDiff, reduceCtorEq]
              refine WpV.regionE (by simp only [go_sem, reduceCtorEq, Nat.reduceAdd, Nat.reduceMul, Nat.reduceSub, Nat.reduceLT, Nat.reduceLeDiff, Nat.reduceEqDiff, Nat.reduceBEq, Nat.reducePow, hnext]; rfl) (Marks.nil _) ?_
              simp only [Vthen, VinBlock, if_true, if_false, Nat.reduceEqDiff, reduceCtorEq]
              exact ⟨by first | rfl | trivial, hlt', .cons rfl rfl (.cons rfl rfl (.cons rfl rfl (.nil _))), by first | rfl | trivial⟩
            · have e0 : (i : Int) > 0 := by omega
              have wi : IntKind.i64.wrap ((i : Int) - 1) = ((i - 1 : Nat) : Int) := by rw [wrap64 (by omega)]; omega
              have hlt3 : ((i - 1 : Nat) : Int) < (b.length : Int) := by omega
              have hqj := int_at' (L := b) (k := i - 1) (by omega)
              have hua := up_at hbu (i := i - 1) (by omega)
              rw [show i - 1 + 1 = i by omega] at hua
              have yle : ¬ (b.getD i 0 ≤ b.getD (i - 1) 0) := by omega
              refine WpV.seq (WpV.regionD Tryz.mixed (by kernel_rfl) (by kernel_rfl) ?_)
              refine LexD.take 8 (by rfl) (by simp only [go_sem, reduceCtorEq, Nat.reduceAdd, Nat.reduceMul, Nat.reduceSub, Nat.reduceLT, Nat.reduceLeDiff, Nat.reduceEqDiff, Nat.reduceBEq, Nat.reducePow, hlt, hqi, y0, y5, e0, wi, hlt3, hqj, yle]; rfl) ?_
              refine LexD.take 8 (by rfl) (by simp only [go_sem, reduceCtorEq, Nat.reduceAdd, Nat.reduceMul, Nat.reduceSub, Nat.reduceLT, Nat.reduceLeDiff, Nat.reduceEqDiff, Nat.reduceBEq, Nat.reducePow, hlt, hqi, y0, y5, e0, wi, hlt3, hqj, yle]; rfl) ?_
              refine LexD.take 8 (by rfl) (by simp only [go_sem, reduceCtorEq, Nat.reduceAdd, Nat.reduceMul, Nat.reduceSub, Nat.reduceLT, Nat.reduceLeDiff, Nat.reduceEqDiff, Nat.reduceBEq, Nat.reducePow, hlt, hqi, y0, y5, e0, wi, hlt3, hqj, yle]; rfl) ?_
              refine LexD.take 6 (by rfl) (by simp only [go_sem, reduceCtorEq, Nat.reduceAdd, Nat.reduceMul, Nat.reduceSub, Nat.reduceLT, Nat.reduceLeDiff, Nat.reduceEqDiff, Nat.reduceBEq, Nat.reducePow, hlt, hqi, y0, y5, e0, wi, hlt3, hqj, yle]; rfl) (LexD.nilE ⟨Marks.nil _, ?_⟩)
              simp only [Vthen, VinBlock, if_true, if_false, Nat.reduceEqDiff, reduceCtorEq]
              refine WpV.cond rfl (fun hb => by cases hb) (fun hb => WpV.skip ?_)
              simp only [Vthen, VinBlock, if_true, if_false, Nat.reduceEqDiff, reduceCtorEq]
              refine WpV.regionE (by simp only [go_sem, reduceCtorEq, Nat.reduceAdd, Nat.reduceMul, Nat.reduceSub, Nat.reduceLT, Nat.reduceLeDiff, Nat.reduceEqDiff, Nat.reduceBEq, Nat.reducePow, hnext]; rfl) (Marks.nil _) ?_
              simp only [Vthen, VinBlock, if_true, if_false, Nat.reduceEqDiff, reduceCtorEq]
              exact ⟨by first | rfl | trivial, hlt', .cons rfl rfl (.cons rfl rfl (.cons rfl rfl (.nil _))), by first | rfl | trivial⟩
          · simp only [Vthen, VinBlock, if_true, if_false, Nat.reduceEqDiff, reduceCtorEq]
            exact ⟨by first | rfl | trivial, by first | rfl | trivial, Sub.nil _⟩
      refine WpV.seq (WpV.region ?_)
      refine WpOps.step (by rfl) (by rfl) (OpW.callY rfl (by rfl) (by rfl) (by rfl) (enters_of Tryz.func17 (by kernel_rfl) rfl) ((known_any H).mono ?_))
      rintro _ _ ⟨rfl, hH⟩
      replace hH := hH.symm
      subst hH
      refine WpOps.take 1 (by simp only [go_sem, reduceCtorEq, Nat.reduceAdd, Nat.reduceMul, Nat.reduceSub, Nat.reduceLT, Nat.reduceLeDiff, Nat.reduceEqDiff, Nat.reduceBEq, Nat.reducePow]; rfl) (WpOps.nil ⟨Marks.nil _, ?_⟩)
      simp only [Vthen, VinBlock, if_true, if_false, Nat.reduceEqDiff, reduceCtorEq]
      refine WpV.ret ⟨Marks.nil _, List.nodup_nil, _, by simp only [Tryz.results7]; simp only [go_sem, reduceCtorEq, Nat.reduceAdd, Nat.reduceMul, Nat.reduceSub, Nat.reduceLT, Nat.reduceLeDiff, Nat.reduceEqDiff, Nat.reduceBEq, Nat.reducePow]; rfl, ?_⟩
      exact ⟨rfl, rfl⟩
end Go.Proofs.YtaekibilldjnmaaGreat
namespace Go.Proofs.YtaekibilldjnmaaGreat
open Go.ChangeShapes Go.WideShapes Go.ChangeAt Go.RowKit Go.Deep

theorem Tryz.ownKnob : ownKnob Tryz.prog.godebug = none := by kernel_rfl
theorem Tryz.laidOut : laidOutB Tryz.prog = true := by kernel_rfl
theorem Tryz.cells5 : Tryz.prog.cellsOf 5 = 1 := by kernel_rfl
theorem Tryz.cells22 : Tryz.prog.cellsOf 22 = 6 * 1 := by kernel_rfl
theorem Tryz.cells24 : Tryz.prog.cellsOf 24 = 3 * 1 := by kernel_rfl
theorem Tryz.cells59 : Tryz.prog.cellsOf 59 = 2 * 1 := by kernel_rfl
theorem Tryz.cells23 : Tryz.prog.cellsOf 23 = 1 := by kernel_rfl
theorem Tryz.cells26 : Tryz.prog.cellsOf 26 = 10 := by kernel_rfl
theorem Tryz.cellTypes26 : Tryz.prog.cellTypes Tryz.prog.depth 26 = some [5, 5, 5, 5, 5, 5, 23, 5, 5, 5] := by kernel_rfl

section
variable {Hh : Type} {enc : TypeId × Value → Hh} {w : World} {base : Nat} {spare : Nat → Bool} {held : Bool}
theorem byte_wf {n : Int} (h : Lit.wf (.int .u8 n) = true) : Byte n := by
  simp only [Lit.wf, Bool.and_eq_true, decide_eq_true_eq] at h
  have h1 : IntKind.u8.min = 0 := rfl
  have h2 : IntKind.u8.max = 255 := rfl
  rw [h1, h2] at h
  unfold Byte
  omega
theorem flat_bytes : ∀ l : List Int, l.flatMap (fun n => [vbyte n]) = l.map vbyte
  | [] => rfl
  | n :: l => by rw [List.flatMap_cons, flat_bytes l]; rfl
theorem rd_byte : Rd Tryz.prog Hh enc w base spare held 5 (fun n : Int => [vbyte n]) Byte := fun fuel cs x h => by
  obtain ⟨n, h1, h2⟩ := rd_int Tryz.underlying5 fuel cs x h
  exact ⟨n, byte_wf h1, h2⟩
/-- An array of bytes. -/
theorem rd_bytes {t : TypeId} {n : Nat} (ht : Tryz.prog.underlying t = some (.array n 5)) (hc : Tryz.prog.cellsOf t = n * 1) : Rd Tryz.prog Hh enc w base spare held t (fun l : List Int => l.map vbyte) (fun l => l.length = n ∧ ∀ b ∈ l, Byte b) := fun fuel cs x h => by
  obtain ⟨l, h1, h2⟩ := rd_array ht hc Tryz.cells5 (by decide) (fun _ => rfl) rd_byte fuel cs x h
  have h3 : CellsD w (l.flatMap fun n => [vbyte n]) cs := h2
  rw [flat_bytes] at h3
  exact ⟨l, h1, h3⟩
/-- Two bytes. -/
theorem rd_two : Rd Tryz.prog Hh enc w base spare held 59 prC (fun p => Byte p.1 ∧ Byte p.2) := fun fuel cs x h => by
  obtain ⟨l, ⟨h1, h2⟩, h3⟩ := rd_bytes Tryz.underlying59 Tryz.cells59 fuel cs x h
  rcases l with _ | ⟨a, _ | ⟨b, _ | ⟨c, r⟩⟩⟩ <;> simp at h1
  exact ⟨(a, b), ⟨h2 a (by simp), h2 b (by simp)⟩, h3⟩
end

set_option maxRecDepth 100000 in
/-- What the first argument reads as. -/
theorem type_read {Hh : Type} {enc : TypeId × Value → Hh} {w : World} {base : Nat} {spare : Nat → Bool} {held : Bool} {r : Reach} {b0 : Nat} {v : Value} {d : DataW Hh} {p : List MemPlace} (hv : Value.okWide Tryz.prog w r b0 26 v) (h : DataW.Trod enc Tryz.prog w base spare held 26 v d p) :
    ∃ x : TyA, x.Ok ∧ Den ρ0 w (.agg x.cells) v := by
  simp only [Value.okWide, Tryz.underlying26] at hv
  obtain ⟨cs, rfl, hsz, ts, hts, -, hcell⟩ := hv
  rw [Tryz.cellTypes26] at hts
  cases hts
  rw [Tryz.cells26] at hsz
  obtain ⟨fuel, hf⟩ := h
  obtain ⟨xs, n, _, _, hl, hxl, hel⟩ := DataW.trod_struct Tryz.underlying26 hf
  have hxl' : xs.length = 3 := hxl
  have f0 : DataW.trod enc Tryz.prog w base spare held n 22 ((cs.toList.drop 0).take (Tryz.prog.cellsOf 22)) = xs[0]? := hel 0 _ rfl
  have f1 : DataW.trod enc Tryz.prog w base spare held n 23 ((cs.toList.drop 6).take (Tryz.prog.cellsOf 23)) = xs[1]? := hel 1 _ rfl
  have f2 : DataW.trod enc Tryz.prog w base spare held n 24 ((cs.toList.drop 7).take (Tryz.prog.cellsOf 24)) = xs[2]? := hel 2 _ rfl
  rw [Tryz.cells22, List.getElem?_eq_getElem (by omega)] at f0
  rw [Tryz.cells23, List.getElem?_eq_getElem (by omega)] at f1
  rw [Tryz.cells24, List.getElem?_eq_getElem (by omega)] at f2
  obtain ⟨wd, ⟨a1, a2⟩, a3⟩ := rd_bytes Tryz.underlying22 Tryz.cells22 _ _ _ f0
  obtain ⟨nl, prs, b1, b2, b3⟩ := rd_slice Tryz.underlying23 Tryz.cells59 (by decide) (fun _ => rfl) rd_two (fun a len cap e => by
    have h6 : cs[6]? = some (.slice (some a) len cap) := by
      have : ((cs.toList.drop 6).take 1)[0]? = some (.slice (some a) len cap) := by rw [e]; rfl
      simpa using this
    obtain ⟨u, hu, hk⟩ := hcell 6 _ h6
    have hu' : u = 23 := by simpa using hu.symm
    subst hu'
    exact slice_spot Tryz.underlying23 hk) f1
  obtain ⟨fr, ⟨c1, c2⟩, c3⟩ := rd_bytes Tryz.underlying24 Tryz.cells24 _ _ _ f2
  rcases fr with _ | ⟨g0, _ | ⟨g1, _ | ⟨g2, _ | ⟨g3, r⟩⟩⟩⟩ <;> simp at c1
  refine ⟨⟨wd, nl, false, prs, g0, g1, g2⟩, ⟨a1, a2, by unfold maxLen at b2; simp only; omega, b1, c2 _ (by simp), c2 _ (by simp), c2 _ (by simp)⟩, CellsD.agg ?_⟩
  unfold TyA.cells
  refine CellsD.append ?_ (CellsD.append (a := [.sl nl false prs.length (prs.flatMap prC)]) (b := [vbyte g0, vbyte g1, vbyte g2]) ?_ ?_)
  · rw [List.length_map, a1]; exact a3
  · rw [List.length_map, a1]; exact b3
  · rw [List.length_map, a1, List.drop_drop, show 6 + [AV.sl nl false prs.length (prs.flatMap prC)].length = 7 from rfl]
    have : (cs.toList.drop 7).take 3 = cs.toList.drop 7 := List.take_of_length_le (by simp; omega)
    rw [← this]; exact c3
set_option maxRecDepth 100000 in
theorem slice_arg {P : Program} {w : World} {r : Reach} {b0 : Nat} {t e : TypeId} {v : Value} (ht : P.underlying t = some (.slice e)) (h : Value.okWide P w r b0 t v) : v.cells.toList = [v] ∧ ∀ a len cap, v = .slice (some a) len cap → a.spot = none := by
  simp only [Value.okWide, ht] at h
  refine ⟨?_, fun a len cap e => slice_spot ht (e ▸ h)⟩
  simp only [Cell.okWide, Cell.ok, ht] at h
  cases v <;> first | rfl | (simp at h)
set_option maxRecDepth 100000 in
theorem bytes_arg {Hh : Type} {enc : TypeId × Value → Hh} {w : World} {base : Nat} {spare : Nat → Bool} {held : Bool} {r : Reach} {b0 : Nat} {v : Value} {d : DataW Hh} {p : List MemPlace} (hv : Value.okWide Tryz.prog w r b0 27 v) (h : DataW.Trod enc Tryz.prog w base spare held 27 v d p) :
    ∃ (nl : Bool) (l : List Int), (∀ n ∈ l, Byte n) ∧ l.length ≤ 9223372036854775807 ∧ Den ρ0 w (.sl nl false l.length (l.map vbyte)) v := by
  obtain ⟨h1, h2⟩ := slice_arg Tryz.underlying27 hv
  obtain ⟨fuel, hf⟩ := h
  rw [h1] at hf
  obtain ⟨nl, l, b1, b2, b3⟩ := rd_slice Tryz.underlying27 Tryz.cells5 (by decide) (fun _ => rfl) rd_byte (fun a len cap e => h2 a len cap (by simpa using e)) hf
  obtain ⟨y, hy, hd⟩ := b3.2.at (i := 0) rfl
  simp only [List.getElem?_cons_zero, Option.some.injEq] at hy
  subst hy
  rw [flat_bytes] at hd
  exact ⟨nl, l, b1, by unfold maxLen at b2; omega, hd⟩
set_option maxRecDepth 100000 in
theorem six_arg {Hh : Type} {enc : TypeId × Value → Hh} {w : World} {base : Nat} {spare : Nat → Bool} {held : Bool} {r : Reach} {b0 : Nat} {v : Value} {d : DataW Hh} {p : List MemPlace} (hv : Value.okWide Tryz.prog w r b0 22 v) (h : DataW.Trod enc Tryz.prog w base spare held 22 v d p) :
    ∃ l : List Int, l.length = 6 ∧ (∀ n ∈ l, Byte n) ∧ Den ρ0 w (.agg (l.map vbyte)) v := by
  simp only [Value.okWide, Tryz.underlying22] at hv
  obtain ⟨cs, rfl, -⟩ := hv
  obtain ⟨fuel, hf⟩ := h
  obtain ⟨l, ⟨a1, a2⟩, a3⟩ := rd_bytes Tryz.underlying22 Tryz.cells22 _ _ _ hf
  exact ⟨l, a1, a2, CellsD.agg a3⟩

end Go.Proofs.YtaekibilldjnmaaGreat
namespace Go.Proofs.YtaekibilldjnmaaGreat
open Go.Proofs

/-- The sum of the first ones. -/
def pre (k : Nat) (l : List Int) : Int := (l.take k).sum
theorem pre_succ : ∀ (k : Nat) (l : List Int), pre (k + 1) l = pre k l + l.getD k 0
  | 0, [] => rfl
  | 0, x :: l => by simp [pre]
  | k + 1, [] => by simp [pre]
  | k + 1, x :: l => by
    have := pre_succ k l
    unfold pre at *
    simp only [List.take_succ_cons, List.sum_cons, List.getD_cons_succ]
    rw [this]; omega
theorem pre_zero (l : List Int) : pre 0 l = 0 := by simp [pre]
theorem pre_len (l : List Int) : pre l.length l = l.sum := by simp [pre]
theorem pre_congr : ∀ (k : Nat) (a b : List Int), (∀ i, i < k → a.getD i 0 = b.getD i 0) → pre k a = pre k b
  | 0, a, b, _ => by simp [pre]
  | k + 1, a, b, h => by rw [pre_succ, pre_succ, pre_congr k a b (fun i hi => h i (by omega)), h k (by omega)]
theorem pre_le : ∀ (k : Nat) (a b : List Int), (∀ i, i < k → a.getD i 0 ≤ b.getD i 0) → pre k a ≤ pre k b
  | 0, a, b, _ => by simp [pre]
  | k + 1, a, b, h => by
    rw [pre_succ, pre_succ]
    have := pre_le k a b (fun i hi => h i (by omega))
    have := h k (by omega)
    omega
/-- Filling leaves as much as it can for the last ones. -/
theorem fill_best {ms o : List Int} {hi : Int} : ∀ (k : Nat) (g : List Int) (r : Int), k ≤ g.length → 0 ≤ r → (∀ i, i < k → g.getD i 0 ≤ o.getD i 0) → (∀ i, i < k → o.getD i 0 + ms.getD i 0 ≤ hi) → pre k g + r ≤ pre k o →
    ∃ g', fillF ms hi k g r = some (g', 0) ∧ pre k g' = pre k g + r ∧ (∀ i, k ≤ i → g'.getD i 0 = g.getD i 0) ∧ ∀ j, j ≤ k → pre j g' ≤ pre j o
  | 0, g, r, _, hr, _, _, hp => by
    rw [pre_zero, pre_zero] at hp
    have : r = 0 := by omega
    subst this
    exact ⟨g, rfl, by simp [pre], fun _ _ => rfl, fun j hj => by rw [Nat.le_zero.1 hj, pre_zero, pre_zero]; exact Int.le_refl _⟩
  | k + 1, g, r, hk, hr, hg, ho, hp => by
    rw [pre_succ, pre_succ] at hp
    have g1 := hg k (by omega)
    have o1 := ho k (by omega)
    have hle := pre_le k g o (fun i hi => hg i (by omega))
    have hx : fillX ms g hi r k ≤ r ∧ 0 ≤ fillX ms g hi r k ∧ (fillX ms g hi r k = r ∨ fillX ms g hi r k = hi - ms.getD k 0 - g.getD k 0) := by unfold fillX; split <;> omega
    rw [fillF]
    generalize fillX ms g hi r k = x at hx
    rw [if_neg (by omega)]
    have hset : ∀ i, i ≠ k → (g.set k (g.getD k 0 + x)).getD i 0 = g.getD i 0 := fun i hne => by rw [getD_set (by omega), if_neg hne]
    have hpc := pre_congr k (g.set k (g.getD k 0 + x)) g (fun i hi => hset i (by omega))
    obtain ⟨g', e1, e2, e3, e4⟩ := fill_best (ms := ms) (o := o) (hi := hi) k (g.set k (g.getD k 0 + x)) (r - x) (by simp; omega) (by omega)
      (fun i hi' => by rw [hset i (by omega)]; exact hg i (by omega)) (fun i hi' => ho i (by omega)) (by rw [hpc]; omega)
    have hk' := e3 k (Nat.le_refl _)
    rw [getD_set (by omega), if_pos rfl] at hk'
    have hpk : pre (k + 1) g' = pre (k + 1) g + r := by rw [pre_succ, pre_succ, e2, hpc, hk']; omega
    refine ⟨g', e1, hpk, fun i hi' => by rw [e3 i (by omega), hset i (by omega)], fun j hj => ?_⟩
    by_cases e : j = k + 1
    · subst e; rw [hpk, pre_succ, pre_succ]; omega
    · exact e4 j (by omega)

/-- No greater, by the first place that differs. -/
def leL : List Int → List Int → Bool
  | [], _ => true
  | _ :: _, [] => false
  | a :: x, b :: y => decide (a < b) || (decide (a = b) && leL x y)
theorem leL_refl : ∀ a, leL a a = true
  | [] => rfl
  | a :: x => by simp [leL, leL_refl x]
theorem leL_trans : ∀ a b c, leL a b = true → leL b c = true → leL a c = true
  | [], _, _, _, _ => by simp [leL]
  | _ :: _, [], _, h, _ => by simp [leL] at h
  | _ :: _, _ :: _, [], _, h => by simp [leL] at h
  | a :: x, b :: y, c :: z, h1, h2 => by
    have ih := leL_trans x y z
    simp only [leL, Bool.or_eq_true, Bool.and_eq_true, decide_eq_true_eq] at *
    rcases h1 with h1 | ⟨h1, h1'⟩ <;> rcases h2 with h2 | ⟨h2, h2'⟩
    · exact .inl (by omega)
    · exact .inl (by omega)
    · exact .inl (by omega)
    · exact .inr ⟨by omega, ih h1' h2'⟩
theorem leL_of_compare : ∀ a b : List Int, (¬ compareF a b < 0 → leL b a = true) ∧ (compareF a b < 0 → leL a b = true)
  | [], [] => ⟨fun _ => rfl, fun _ => rfl⟩
  | [], _ :: _ => ⟨fun h => by simp [compareF] at h, fun _ => rfl⟩
  | _ :: _, [] => ⟨fun _ => rfl, fun h => by simp [compareF] at h⟩
  | x :: a, y :: b => by
    have ih := leL_of_compare a b
    simp only [compareF, leL, Bool.or_eq_true, Bool.and_eq_true, decide_eq_true_eq]
    by_cases e : x = y
    · subst e
      have : (cmpI x x == 0) = true := by unfold cmpI; simp
      rw [this]
      simp only [if_true]
      exact ⟨fun h => .inr ⟨by trivial, ih.1 h⟩, fun h => .inr ⟨by trivial, ih.2 h⟩⟩
    · by_cases h : x < y
      · have h0 : cmpI x y = -1 := by unfold cmpI; simp [h]
        rw [h0]
        exact ⟨fun h' => by simp at h', fun _ => .inl h⟩
      · have h0 : cmpI x y = 1 := by unfold cmpI; simp [h]; omega
        rw [h0]
        exact ⟨fun _ => .inl (by omega), fun h' => by simp at h'⟩
/-- Whose first sums are no greater, is no greater. -/
theorem leL_pre : ∀ (a b : List Int), a.length = b.length → (∀ j, j ≤ a.length → pre j a ≤ pre j b) → leL a b = true
  | [], _, _, _ => by simp [leL]
  | _ :: _, [], h, _ => by simp at h
  | x :: a, y :: b, hl, h => by
    simp only [leL, Bool.or_eq_true, Bool.and_eq_true, decide_eq_true_eq]
    have h1 := h 1 (by simp)
    have h1' : x ≤ y := by simpa [pre] using h1
    by_cases e : x < y
    · exact .inl e
    · have he : x = y := by omega
      subst he
      refine .inr ⟨rfl, leL_pre a b (by simpa using hl) fun j hj => ?_⟩
      have := h (j + 1) (by simpa using hj)
      unfold pre at this ⊢
      simp only [List.take_succ_cons, List.sum_cons] at this
      omega

/-- Gaps that fill the room, none closer than it may be. -/
structure FillsB (c : Cs) (w : List Int) (room : Int) (o : List Int) : Prop where
  len : o.length = w.length - 1
  ge : ∀ i, i < o.length → (c.closest w).getD i 0 ≤ o.getD i 0
  sum : o.sum = room
/-- Their looks lie in a span. -/
def Alike (c : Cs) (w : List Int) (s : Int) (o : List Int) : Prop := ∀ i j, i < o.length → j < o.length → (o.getD i 0 + (c.mores w).getD i 0) - (o.getD j 0 + (c.mores w).getD j 0) ≤ s

theorem least_look (c : Cs) (w o : List Int) : ∀ n, 0 < n → ∃ k, k < n ∧ ∀ i, i < n → o.getD k 0 + (c.mores w).getD k 0 ≤ o.getD i 0 + (c.mores w).getD i 0
  | 0, h => absurd h (Nat.lt_irrefl _)
  | 1, _ => ⟨0, by omega, fun i hi => by rw [show i = 0 by omega]; exact Int.le_refl _⟩
  | n + 2, _ => by
    obtain ⟨k, hk, h⟩ := least_look c w o (n + 1) (by omega)
    by_cases e : o.getD k 0 + (c.mores w).getD k 0 ≤ o.getD (n + 1) 0 + (c.mores w).getD (n + 1) 0
    · exact ⟨k, by omega, fun i hi => by
        by_cases e2 : i = n + 1
        · subst e2; exact e
        · exact h i (by omega)⟩
    · exact ⟨n + 1, by omega, fun i hi => by
        by_cases e2 : i = n + 1
        · subst e2; exact Int.le_refl _
        · have := h i (by omega); omega⟩
/-- For gaps that fill the room and look alike, some low look gives gaps that are no greater. -/
theorem between_best {c : Cs} (hc : c.Fair) {w : List Int} (h2 : 2 ≤ w.length) {s : Nat} {room : Int} {o : List Int} (hf : FillsB c w room o) (ha : Alike c w s o) :
    ∃ (lo : Nat) (g : List Int), (lo : Int) < room + 6 ∧ c.betweenF w lo ((lo : Int) + (s : Int)) room = some (g, 0) ∧ leL g o = true := by
  have hol := hf.len
  have hcl := Cs.closest_len c w
  have hml : (c.mores w).length = w.length - 1 := Cs.moreN_len c w _
  have hcge : ∀ i, i < w.length - 1 → 0 ≤ (c.closest w).getD i 0 := fun i hi => (Cs.closest_le hc w _ (getD_mem (by omega))).1
  have hge : ∀ i, i < o.length → 0 ≤ o.getD i 0 := fun i hi => by have := hf.ge i hi; have := hcge i (by omega); omega
  obtain ⟨-, hs⟩ := getD_le_sum o hge
  have hlook : ∀ i, i < o.length → 0 ≤ o.getD i 0 + (c.mores w).getD i 0 ∧ o.getD i 0 + (c.mores w).getD i 0 ≤ room + 5 := fun i hi => by
    have a := hf.ge i hi
    have b := Cs.mores_le hc w (w.length - 1) _ (getD_mem (xs := c.mores w) (k := i) (by omega))
    have d := hs i hi
    rw [hf.sum] at d
    have l0 := hc.least
    rw [Cs.close_at c w (by omega)] at a
    unfold Cs.close at a
    constructor
    · split at a <;> omega
    · omega
  obtain ⟨k, hk, hmin⟩ := least_look c w o o.length (by omega)
  have hkl := hlook k hk
  refine ⟨(o.getD k 0 + (c.mores w).getD k 0).toNat, ?_⟩
  have hlo : (((o.getD k 0 + (c.mores w).getD k 0).toNat : Nat) : Int) = o.getD k 0 + (c.mores w).getD k 0 := by omega
  generalize (o.getD k 0 + (c.mores w).getD k 0).toNat = lo at hlo
  have hop : ∀ i, i < w.length - 1 → (c.openF w lo).getD i 0 ≤ o.getD i 0 := fun i hi => by
    rw [Cs.open_at c w lo hi]
    have a := hf.ge i (by omega)
    have b := hmin i (by omega)
    unfold Cs.open1
    split <;> omega
  have hpo := pre_le (w.length - 1) _ _ hop
  have hpl := pre_len (c.openF w lo)
  rw [Cs.openF_len] at hpl
  have hpo2 := pre_len o
  rw [hol, hf.sum] at hpo2
  obtain ⟨g, e1, e2, e3, e4⟩ := fill_best (ms := c.mores w) (o := o) (hi := (lo : Int) + (s : Int)) (w.length - 1) (c.openF w lo) (room - (c.openF w lo).sum) (by rw [Cs.openF_len]; exact Nat.le_refl _) (by omega) hop
    (fun i hi => by have := ha i k (by omega) hk; omega) (by omega)
  have hgl := Cs.between_len (c := c) (w := w) e1
  exact ⟨g, by omega, e1, leL_pre g o (by omega) (fun j hj => e4 j (by omega))⟩
/-- The list that is found is no greater than any that was seen. -/
theorem alike_least {c : Cs} {w : List Int} {s room : Int} : ∀ (k lo : Nat) (g : List Int), lo < k → c.betweenF w lo ((lo : Int) + s) room = some (g, 0) → ∃ b, c.alikeN w s room k = some b ∧ leL b g = true
  | 0, lo, g, h, _ => absurd h (Nat.not_lt_zero _)
  | k + 1, lo, g, h, hb => by
    rw [Cs.alikeN_succ]
    unfold Cs.alikeStep
    by_cases e : lo = k
    · subst e
      rw [hb]
      simp only [beq_self_eq_true, if_true]
      split
      · exact ⟨g, rfl, leL_refl g⟩
      · rename_i b _
        obtain ⟨h1, h2⟩ := leL_of_compare g b
        by_cases hc : compareF g b < 0
        · rw [if_pos hc]; exact ⟨g, rfl, leL_refl g⟩
        · rw [if_neg hc]; exact ⟨b, rfl, h1 hc⟩
    · obtain ⟨b, hb1, hb2⟩ := alike_least k lo g (by omega) hb
      rw [hb1]
      split
      · exact ⟨b, rfl, hb2⟩
      · rename_i g2 r _
        split
        · simp only
          obtain ⟨h1, h2⟩ := leL_of_compare g2 b
          by_cases hc : compareF g2 b < 0
          · rw [if_pos hc]; exact ⟨g2, rfl, leL_trans _ _ _ (h2 hc) hb2⟩
          · rw [if_neg hc]; exact ⟨b, rfl, hb2⟩
        · exact ⟨b, rfl, hb2⟩
theorem alike_best {c : Cs} (hc : c.Fair) {w : List Int} (h2 : 2 ≤ w.length) {s : Nat} {room : Int} {o : List Int} (hf : FillsB c w room o) (ha : Alike c w s o) : ∃ b, c.alikeN w s room (room + 6).toNat = some b ∧ leL b o = true := by
  obtain ⟨lo, g, h1, h3, h4⟩ := between_best hc h2 hf ha
  obtain ⟨b, h5, h6⟩ := alike_least (room + 6).toNat lo g (by omega) h3
  exact ⟨b, h5, leL_trans _ _ _ h6 h4⟩
theorem between_fills {c : Cs} (hc : c.Fair) {w : List Int} {lo : Nat} {hi room : Int} {g : List Int} (h : c.betweenF w lo hi room = some (g, 0)) : FillsB c w room g := by
  have hl := Cs.between_len h
  have hol := Cs.openF_len c w lo
  unfold Cs.betweenF at h
  obtain ⟨h1, h2⟩ := fill_in _ _ _ _ _ (by rw [hol]; exact Nat.le_refl _) h
  refine ⟨hl, fun i hi => ?_, by omega⟩
  have a := (h2 i (by omega)).1
  rw [Cs.open_at c w lo (by omega)] at a
  unfold Cs.open1 at a
  split at a <;> omega
theorem alike_fills {c : Cs} (hc : c.Fair) {w : List Int} {s room : Int} : ∀ (k : Nat) (g : List Int), c.alikeN w s room k = some g → FillsB c w room g
  | 0, g, h => by cases h
  | k + 1, g, h => by
    rw [Cs.alikeN_succ] at h
    have ih := alike_fills hc (w := w) (s := s) (room := room) k
    unfold Cs.alikeStep at h
    split at h
    · exact ih g h
    · rename_i g2 r hb
      split at h
      · rename_i hr0
        have hr0' : r = 0 := by simpa using hr0
        subst hr0'
        split at h
        · cases h; exact between_fills hc hb
        · rename_i b' hst
          split at h
          · cases h; exact between_fills hc hb
          · cases h; exact ih _ hst
      · exact ih g h
/-- Laid gaps are the best ones. -/
theorem lay_best {c : Cs} (hc : c.Fair) {w : List Int} (hw : c.Word w) (h2 : 2 ≤ w.length) {n : Int} (hn : 1 ≤ n ∧ n ≤ 400) (hgo : c.needF [w] ≤ n) {g : List Int} {s : Nat} (h : c.layF w n = some (g, s)) :
    FillsB c w (c.roomF w n) g ∧ Alike c w s g ∧ (∀ o s', FillsB c w (c.roomF w n) o → Alike c w s' o → 0 ≤ s' → (s : Int) ≤ s') ∧ ∀ o, FillsB c w (c.roomF w n) o → Alike c w s o → leL g o = true := by
  have hrm := Cs.room_le hc hw hn hgo
  obtain ⟨g2, s2, e, hsl, hla⟩ := lay_laid hc hw h2 hn hgo
  rw [h] at e
  cases e
  unfold Cs.layF at h
  rw [if_neg (by omega)] at h
  generalize c.roomF w n = room at *
  rw [List.findSome?_eq_some_iff] at h
  obtain ⟨l1, a, l2, hl, hm, hno⟩ := h
  rw [Option.map_eq_some_iff] at hm
  obtain ⟨g', hg', he⟩ := hm
  cases he
  have hfill := alike_fills hc _ _ hg'
  have hlt : ∀ t, t < s → t ∈ l1 := fun t ht => by
    have h1 : l1 = List.range s := by
      have hl1 : l1.length = s := by
        have hh : (List.range (room + 6).toNat)[l1.length]? = some s := by rw [hl]; simp
        rw [List.getElem?_eq_some_iff] at hh
        obtain ⟨hh, hh2⟩ := hh
        rw [List.getElem_range] at hh2; exact hh2
      have : l1 = (List.range (room + 6).toNat).take l1.length := by rw [hl]; simp
      rw [this, List.take_range, hl1]
      congr 1
      omega
    rw [h1]; exact List.mem_range.2 ht
  obtain ⟨lo, hlk⟩ := hla.look
  refine ⟨hfill, fun i j hi hj => by have := hlk i hi; have := hlk j hj; omega, fun o s' ho hao h0 => ?_, fun o ho hao => ?_⟩
  · by_cases hh : (s : Int) ≤ s'
    · exact hh
    · exfalso
      have hn' := hno s'.toNat (hlt _ (by omega))
      rw [Option.map_eq_none_iff] at hn'
      obtain ⟨b, hb, -⟩ := alike_best hc h2 (s := s'.toNat) ho (by rw [show ((s'.toNat : Nat) : Int) = s' by omega]; exact hao)
      rw [hn'] at hb; cases hb
  · obtain ⟨b, hb, hle⟩ := alike_best hc h2 ho hao
    rw [hg'] at hb; cases hb; exact hle
end Go.Proofs.YtaekibilldjnmaaGreat
namespace Go.Proofs.YtaekibilldjnmaaGreat
open Go.Proofs

def lessF : List Int → List Int → Bool
  | [], _ => false
  | _ :: _, [] => false
  | x :: a, y :: b => if (x != y) = true then decide (x < y) else lessF a b
theorem less_no : ∀ a b : List Int, leL b a = true → lessF a b = false
  | [], _, _ => rfl
  | _ :: _, [], _ => rfl
  | x :: a, y :: b, h => by
    have ih := less_no a b
    simp only [leL, Bool.or_eq_true, Bool.and_eq_true, decide_eq_true_eq] at h
    unfold lessF
    split
    · rename_i hne
      have : x ≠ y := by simpa using hne
      rcases h with h | h
      · exact decide_eq_false (by omega)
      · omega
    · rename_i hne
      have : x = y := by simpa using hne
      rcases h with h | h
      · omega
      · exact ih h.2

set_option maxHeartbeats 4000000 in
theorem less_any (H : Hp) (nl clip nl2 clip2 : Bool) (a b : List Int) (ha : a.length ≤ 1000) (hab : a.length = b.length) :
    CallV Tryz.prog 18 [vints nl clip a, vints nl2 clip2 b] H (fun r H' => r = .bool (lessF a b) ∧ H' = H) := by
  refine CallV.body Tryz.func18 rfl Tryz.ntmps18 (by rfl) ?_
  refine WpV.seq (WpV.regionE (by simp only [go_sem, reduceCtorEq, Nat.reduceAdd, Nat.reduceMul, Nat.reduceSub, Nat.reduceLT, Nat.reduceLeDiff, Nat.reduceEqDiff, Nat.reduceBEq, Nat.reducePow]; rfl) (Marks.nil _) ?_)
  simp only [Vthen, VinBlock, if_true, if_false, Nat.reduceEqDiff, reduceCtorEq]
  refine WpV.seq ?_
  refine WpV.seq (WpV.regionE (by simp only [go_sem, reduceCtorEq, Nat.reduceAdd, Nat.reduceMul, Nat.reduceSub, Nat.reduceLT, Nat.reduceLeDiff, Nat.reduceEqDiff, Nat.reduceBEq, Nat.reducePow]; rfl) (Marks.nil _) ?_)
  simp only [Vthen, VinBlock, if_true, if_false, Nat.reduceEqDiff, reduceCtorEq]
  refine WpV.block (WpV.loopP a.length (fun k => lessF a b = lessF (a.drop k) (b.drop k)) (fun k => [(0, vints nl clip a), (1, vints nl2 clip2 b), (5, vint k)]) (fun _ => H) rfl ?_ rfl ?_)
  · exact .cons rfl rfl (.cons rfl rfl (.cons rfl rfl (.nil _)))
  · rintro k hk hcf
    refine WpV.seq ?_
    by_cases hlt' : k < a.length
    · have hlt : (k : Int) < (a.length : Int) := by omega
      have hltb' : k < b.length := by omega
      have hltb : (k : Int) < (b.length : Int) := by omega
      have hga := ints_get a hlt'
      have hgb := ints_get b hltb'
      rw [List.drop_eq_getElem_cons hlt', List.drop_eq_getElem_cons hltb'] at hcf
      have hnk : IntKind.i64.wrap ((k : Int) + 1) = ((k + 1 : Nat) : Int) := by rw [wrap64 (by omega)]; rfl
      generalize a[k] = x at hga hcf
      generalize b[k] = y at hgb hcf
      refine WpV.seq (WpV.regionE (by simp only [go_sem, reduceCtorEq, Nat.reduceAdd, Nat.reduceMul, Nat.reduceSub, Nat.reduceLT, Nat.reduceLeDiff, Nat.reduceEqDiff, Nat.reduceBEq, Nat.reducePow, hlt, hltb]; rfl) (Marks.nil _) ?_)
      simp only [Vthen, VinBlock, if_true, if_false, Nat.reduceEqDiff, reduceCtorEq]
      refine WpV.cond rfl (fun hb => WpV.skip ?_) (fun hb => by cases hb)
      simp only [Vthen, VinBlock, if_true, if_false, Nat.reduceEqDiff, reduceCtorEq]
      refine WpV.seq (WpV.block ?_)
      cases hz : (x != y)
      · refine WpV.seq (WpV.regionDE Tryz.mixed (by kernel_rfl) (by kernel_rfl) (by rfl) (by simp only [go_sem, reduceCtorEq, Nat.reduceAdd, Nat.reduceMul, Nat.reduceSub, Nat.reduceLT, Nat.reduceLeDiff, Nat.reduceEqDiff, Nat.reduceBEq, Nat.reducePow, hlt, hltb, hga, hgb, hz]; rfl) (Marks.nil _) ?_)
        simp only [Vthen, VinBlock, if_true, if_false, Nat.reduceEqDiff, reduceCtorEq]
        refine WpV.cond rfl (fun hb => by cases hb) (fun hb => WpV.skip ?_)
        simp only [Vthen, VinBlock, if_true, if_false, Nat.reduceEqDiff, reduceCtorEq]
        refine WpV.regionE (by simp only [go_sem, reduceCtorEq, Nat.reduceAdd, Nat.reduceMul, Nat.reduceSub, Nat.reduceLT, Nat.reduceLeDiff, Nat.reduceEqDiff, Nat.reduceBEq, Nat.reducePow, hnk]; rfl) (Marks.nil _) ?_
        simp only [Vthen, VinBlock, if_true, if_false, Nat.reduceEqDiff, reduceCtorEq]
        exact ⟨by first | rfl | trivial, hlt', (by rw [hcf, lessF, if_neg (by rw [hz]; decide)]), .cons rfl rfl (.cons rfl rfl (.cons rfl rfl (.nil _))), by first | rfl | trivial⟩
      · refine WpV.seq (WpV.regionDE Tryz.mixed (by kernel_rfl) (by kernel_rfl) (by rfl) (by simp only [go_sem, reduceCtorEq, Nat.reduceAdd, Nat.reduceMul, Nat.reduceSub, Nat.reduceLT, Nat.reduceLeDiff, Nat.reduceEqDiff, Nat.reduceBEq, Nat.reducePow, hlt, hltb, hga, hgb, hz]; rfl) (Marks.nil _) ?_)
        simp only [Vthen, VinBlock, if_true, if_false, Nat.reduceEqDiff, reduceCtorEq]
        refine WpV.cond rfl (fun hb => ?_) (fun hb => by cases hb)
        refine WpV.seq (WpV.regionDE Tryz.mixed (by kernel_rfl) (by kernel_rfl) (by rfl) (by simp only [go_sem, reduceCtorEq, Nat.reduceAdd, Nat.reduceMul, Nat.reduceSub, Nat.reduceLT, Nat.reduceLeDiff, Nat.reduceEqDiff, Nat.reduceBEq, Nat.reducePow, hlt, hltb, hga, hgb]; rfl) (Marks.nil _) ?_)
        simp only [Vthen, VinBlock, if_true, if_false, Nat.reduceEqDiff, reduceCtorEq]
        refine WpV.ret ⟨Marks.nil _, List.nodup_nil, _, by simp only [Tryz.results18]; simp only [go_sem, reduceCtorEq, Nat.reduceAdd, Nat.reduceMul, Nat.reduceSub, Nat.reduceLT, Nat.reduceLeDiff, Nat.reduceEqDiff, Nat.reduceBEq, Nat.reducePow]; rfl, ?_⟩
        exact ⟨by rw [hcf, lessF, if_pos hz], rfl⟩
    · have hge : k = a.length := by omega
      subst hge
      have hlt : ¬ ((a.length : Int) < (a.length : Int)) := by omega
      refine WpV.seq (WpV.regionE (by simp only [go_sem, reduceCtorEq, Nat.reduceAdd, Nat.reduceMul, Nat.reduceSub, Nat.reduceLT, Nat.reduceLeDiff, Nat.reduceEqDiff, Nat.reduceBEq, Nat.reducePow, hlt]; rfl) (Marks.nil _) ?_)
      simp only [Vthen, VinBlock, if_true, if_false, Nat.reduceEqDiff, reduceCtorEq]
      refine WpV.cond rfl (fun hb => by cases hb) (fun hb => WpV.exit ?_)
      simp only [Vthen, VinBlock, if_true, if_false, Nat.reduceEqDiff, reduceCtorEq]
      refine WpV.seq (WpV.regionE (by simp only [go_sem, reduceCtorEq, Nat.reduceAdd, Nat.reduceMul, Nat.reduceSub, Nat.reduceLT, Nat.reduceLeDiff, Nat.reduceEqDiff, Nat.reduceBEq, Nat.reducePow]; rfl) (Marks.nil _) ?_)
      simp only [Vthen, VinBlock, if_true, if_false, Nat.reduceEqDiff, reduceCtorEq]
      refine WpV.ret ⟨Marks.nil _, List.nodup_nil, _, by simp only [Tryz.results18]; simp only [go_sem, reduceCtorEq, Nat.reduceAdd, Nat.reduceMul, Nat.reduceSub, Nat.reduceLT, Nat.reduceLeDiff, Nat.reduceEqDiff, Nat.reduceBEq, Nat.reducePow]; rfl, ?_⟩
      exact ⟨by rw [hcf, List.drop_length]; rfl, rfl⟩

def mxI (a b : Int) : Int := if a < b then b else a
def wideI (lk : Nat → Int) (i m : Nat) (n : Int) : Int := (List.range m).foldl (fun n k => mxI n (lk i - lk k)) n
def wideN (lk : Nat → Int) (m i : Nat) : Int := (List.range i).foldl (fun n i => wideI lk i m n) 0
theorem wideI_succ (lk : Nat → Int) (i m : Nat) (n : Int) : wideI lk i (m + 1) n = mxI (wideI lk i m n) (lk i - lk m) := by
  unfold wideI; rw [List.range_succ, List.foldl_append]; rfl
theorem wideN_succ (lk : Nat → Int) (m i : Nat) : wideN lk m (i + 1) = wideI lk i m (wideN lk m i) := by
  unfold wideN; rw [List.range_succ, List.foldl_append]; rfl
theorem wideI_spec (lk : Nat → Int) (i : Nat) (n : Int) : ∀ m, n ≤ wideI lk i m n ∧ (∀ k, k < m → lk i - lk k ≤ wideI lk i m n) ∧ (wideI lk i m n = n ∨ ∃ k, k < m ∧ wideI lk i m n = lk i - lk k)
  | 0 => ⟨Int.le_refl _, fun k hk => absurd hk (Nat.not_lt_zero _), .inl rfl⟩
  | m + 1 => by
    obtain ⟨h1, h2, h3⟩ := wideI_spec lk i n m
    rw [wideI_succ]
    generalize wideI lk i m n = x at *
    have hx : x ≤ mxI x (lk i - lk m) ∧ lk i - lk m ≤ mxI x (lk i - lk m) ∧ (mxI x (lk i - lk m) = x ∨ mxI x (lk i - lk m) = lk i - lk m) := by unfold mxI; split <;> omega
    refine ⟨by omega, fun k hk => ?_, ?_⟩
    · by_cases e : k = m
      · subst e; exact hx.2.1
      · have := h2 k (by omega); omega
    · rcases hx.2.2 with e | e
      · rw [e]
        rcases h3 with h3 | ⟨k, hk, h3⟩
        · exact .inl h3
        · exact .inr ⟨k, by omega, h3⟩
      · exact .inr ⟨m, by omega, e⟩
theorem wideN_spec (lk : Nat → Int) (m : Nat) : ∀ i, 0 ≤ wideN lk m i ∧ (∀ j k, j < i → k < m → lk j - lk k ≤ wideN lk m i) ∧ (wideN lk m i = 0 ∨ ∃ j k, j < i ∧ k < m ∧ wideN lk m i = lk j - lk k)
  | 0 => ⟨Int.le_refl _, fun j k hj => absurd hj (Nat.not_lt_zero _), .inl rfl⟩
  | i + 1 => by
    obtain ⟨h1, h2, h3⟩ := wideN_spec lk m i
    rw [wideN_succ]
    obtain ⟨a1, a2, a3⟩ := wideI_spec lk i (wideN lk m i) m
    generalize wideI lk i m (wideN lk m i) = x at *
    refine ⟨by omega, fun j k hj hk => ?_, ?_⟩
    · by_cases e : j = i
      · subst e; exact a2 k hk
      · have := h2 j k (by omega) hk; omega
    · rcases a3 with a3 | ⟨k, hk, a3⟩
      · rw [a3]
        rcases h3 with h3 | ⟨j, k, hj, hk, h3⟩
        · exact .inl h3
        · exact .inr ⟨j, k, by omega, hk, h3⟩
      · exact .inr ⟨i, k, by omega, hk, a3⟩
def Cs.lookN (c : Cs) (w gs : List Int) (i : Nat) : Int := gs.getD i 0 + (c.mores w).getD i 0
def Cs.wideF (c : Cs) (w gs : List Int) : Int := wideN (c.lookN w gs) gs.length gs.length

set_option maxHeartbeats 4000000 in
theorem wide_any (H : Hp) (c : Cs) (hc : c.Valid) (nl clip nl2 clip2 : Bool) (w gs : List Int) (hw : c.Word w) (hgl : gs.length = w.length - 1) (hgs : ∀ x ∈ gs, 0 ≤ x ∧ x ≤ 1000) :
    CallV Tryz.prog 15 [.agg c.cells, vints nl clip w, vints nl2 clip2 gs] H (fun r H' => r = vint (c.wideF w gs) ∧ H' = H) := by
  have hwl := hw.2.1
  have hmo := Cs.mores_le hc.fair w (w.length - 1)
  have hml := Cs.moreN_len c w (w.length - 1)
  have hlk : ∀ i, i < gs.length → CallV Tryz.prog 20 [.agg c.cells, vints nl clip w, vint i, vint (gs.getD i 0)] H (fun r H' => r = vint (c.lookN w gs i) ∧ H' = H) := fun i hi =>
    look_any H c hc nl clip w hw i (by omega) _ (by have := hgs _ (getD_mem (xs := gs) hi); omega)
  have hbd : ∀ i, i < gs.length → -10 ≤ c.lookN w gs i ∧ c.lookN w gs i ≤ 1010 := fun i hi => by
    have := hgs _ (getD_mem (xs := gs) hi)
    have := hmo _ (getD_mem (xs := c.mores w) (k := i) (by rw [hml]; omega))
    unfold Cs.lookN; omega
  have hgt : ∀ i, i < gs.length → (gs.map vint)[i]? = some (vint (gs.getD i 0)) := fun i hi => int_at' hi
  unfold Cs.wideF
  generalize c.lookN w gs = lk at hlk hbd ⊢
  have hm7 : gs.length ≤ 6 := by omega
  generalize hM : gs.length = M at *
  refine CallV.body Tryz.func15 rfl Tryz.ntmps15 (by rfl) ?_
  refine WpV.seq (WpV.regionE (by simp only [go_sem, reduceCtorEq, Nat.reduceAdd, Nat.reduceMul, Nat.reduceSub, Nat.reduceLT, Nat.reduceLeDiff, Nat.reduceEqDiff, Nat.reduceBEq, Nat.reducePow]; rfl) (Marks.nil _) ?_)
  simp only [Vthen, VinBlock, if_true, if_false, Nat.reduceEqDiff, reduceCtorEq]
  refine WpV.seq (WpV.regionE (by simp only [go_sem, reduceCtorEq, Nat.reduceAdd, Nat.reduceMul, Nat.reduceSub, Nat.reduceLT, Nat.reduceLeDiff, Nat.reduceEqDiff, Nat.reduceBEq, Nat.reducePow]; rfl) (Marks.nil _) ?_)
  simp only [Vthen, VinBlock, if_true, if_false, Nat.reduceEqDiff, reduceCtorEq]
  refine WpV.seq ?_
  refine WpV.seq (WpV.regionE (by simp only [go_sem, reduceCtorEq, Nat.reduceAdd, Nat.reduceMul, Nat.reduceSub, Nat.reduceLT, Nat.reduceLeDiff, Nat.reduceEqDiff, Nat.reduceBEq, Nat.reducePow]; rfl) (Marks.nil _) ?_)
  simp only [Vthen, VinBlock, if_true, if_false, Nat.reduceEqDiff, reduceCtorEq]
  refine WpV.block (WpV.loopN M (fun i => [(1, vints nl clip w), (2, vints nl2 clip2 gs), (3, .cp c.cells 0), (7, vint (wideN lk M i)), (8, vint i)]) (fun _ => H) ?_ rfl ?_)
  · exact .cons rfl rfl (.cons rfl rfl (.cons rfl rfl (.cons rfl rfl (.cons rfl rfl (.nil _)))))
  · intro i hi
    refine WpV.seq ?_
    refine WpV.seq (WpV.regionE (by simp only [go_sem, reduceCtorEq, Nat.reduceAdd, Nat.reduceMul, Nat.reduceSub, Nat.reduceLT, Nat.reduceLeDiff, Nat.reduceEqDiff, Nat.reduceBEq, Nat.reducePow, hM]; rfl) (Marks.nil _) ?_)
    simp only [Vthen, VinBlock, if_true, if_false, Nat.reduceEqDiff, reduceCtorEq]
    refine WpV.cond rfl (fun hb => WpV.skip ?_) (fun hb => WpV.exit ?_)
    · have hlt : (i : Int) < (M : Int) := of_decide_eq_true ‹_›
      have hlt' : i < M := by omega
      have hni : IntKind.i64.wrap ((i : Int) + 1) = ((i + 1 : Nat) : Int) := by rw [wrap64 (by omega)]; rfl
      have hsi := wideN_succ lk M i
      have hgi := hgt i hlt'
      have hli := hlk i hlt'
      have hbi := hbd i hlt'
      generalize wideN lk M i = n0 at hsi ⊢
      simp only [Vthen, VinBlock, if_true, if_false, Nat.reduceEqDiff, reduceCtorEq]
      refine WpV.seq (WpV.block ?_)
      refine WpV.seq (WpV.regionE (by simp only [go_sem, reduceCtorEq, Nat.reduceAdd, Nat.reduceMul, Nat.reduceSub, Nat.reduceLT, Nat.reduceLeDiff, Nat.reduceEqDiff, Nat.reduceBEq, Nat.reducePow]; rfl) (Marks.nil _) ?_)
      simp only [Vthen, VinBlock, if_true, if_false, Nat.reduceEqDiff, reduceCtorEq]
      refine WpV.block (WpV.loopN M (fun k => [(1, vints nl clip w), (2, vints nl2 clip2 gs), (3, .cp c.cells 0), (7, vint (wideI lk i k n0)), (8, vint i), (9, vint k)]) (fun _ => H) ?_ rfl ?_)
      · exact .cons rfl rfl (.cons rfl rfl (.cons rfl rfl (.cons rfl rfl (.cons rfl rfl (.cons rfl rfl (.nil _))))))
      · intro k hk
        refine WpV.seq ?_
        refine WpV.seq (WpV.regionE (by simp only [go_sem, reduceCtorEq, Nat.reduceAdd, Nat.reduceMul, Nat.reduceSub, Nat.reduceLT, Nat.reduceLeDiff, Nat.reduceEqDiff, Nat.reduceBEq, Nat.reducePow, hM]; rfl) (Marks.nil _) ?_)
        simp only [Vthen, VinBlock, if_true, if_false, Nat.reduceEqDiff, reduceCtorEq]
        refine WpV.cond rfl (fun hb => WpV.skip ?_) (fun hb => WpV.exit ?_)
        · have hltk : (k : Int) < (M : Int) := of_decide_eq_true ‹_›
          have hltk' : k < M := by omega
          have hnk : IntKind.i64.wrap ((k : Int) + 1) = ((k + 1 : Nat) : Int) := by rw [wrap64 (by omega)]; rfl
          have hsk := wideI_succ lk i k n0
          have hgk := hgt k hltk'
          have hlk2 := hlk k hltk'
          have hbk := hbd k hltk'
          have hwr : IntKind.i64.wrap (lk i - lk k) = lk i - lk k := wrap64 (by omega)
          generalize wideI lk i k n0 = n1 at hsk ⊢
          generalize gs.getD i 0 = gi at hgi hli
          generalize gs.getD k 0 = gk at hgk hlk2
          simp only [Vthen, VinBlock, if_true, if_false, Nat.reduceEqDiff, reduceCtorEq]
          refine WpV.seq (WpV.block ?_)
          refine WpV.regionTN 19 Tryz.mixed (by kernel_rfl) (by kernel_rfl) (by kernel_rfl) ?_
          refine LexD.take 8 (by rfl) (by simp only [go_sem, reduceCtorEq, Nat.reduceAdd, Nat.reduceMul, Nat.reduceSub, Nat.reduceLT, Nat.reduceLeDiff, Nat.reduceEqDiff, Nat.reduceBEq, Nat.reducePow, hM, hlt, hltk, hgi, hgk, hwr]; rfl) ?_
          refine LexD.step (by rfl) (by rfl) (OpW.callY rfl (by rfl) (by rfl) (by rfl) (enters_of Tryz.func20 (by kernel_rfl) rfl) (hli)) ?_
          refine LexD.take 7 (by rfl) (by simp only [go_sem, reduceCtorEq, Nat.reduceAdd, Nat.reduceMul, Nat.reduceSub, Nat.reduceLT, Nat.reduceLeDiff, Nat.reduceEqDiff, Nat.reduceBEq, Nat.reducePow, hM, hlt, hltk, hgi, hgk, hwr]; rfl) ?_
          refine LexD.step (by rfl) (by rfl) (OpW.callY rfl (by rfl) (by rfl) (by rfl) (enters_of Tryz.func20 (by kernel_rfl) rfl) (hlk2)) ?_
          refine LexD.take 2 (by rfl) (by simp only [go_sem, reduceCtorEq, Nat.reduceAdd, Nat.reduceMul, Nat.reduceSub, Nat.reduceLT, Nat.reduceLeDiff, Nat.reduceEqDiff, Nat.reduceBEq, Nat.reducePow, hM, hlt, hltk, hgi, hgk, hwr]; rfl) ?_
          refine LexD.nilE ?_
          refine LexT.take 1 (by simp only [go_sem, reduceCtorEq, Nat.reduceAdd, Nat.reduceMul, Nat.reduceSub, Nat.reduceLT, Nat.reduceLeDiff, Nat.reduceEqDiff, Nat.reduceBEq, Nat.reducePow, hM, hlt, hltk, hgi, hgk, hwr]; rfl) (LexT.nilE ⟨Marks.nil _, ?_⟩)
          simp only [Vthen, VinBlock, if_true, if_false, Nat.reduceEqDiff, reduceCtorEq]
          refine WpV.regionE (by simp only [go_sem, reduceCtorEq, Nat.reduceAdd, Nat.reduceMul, Nat.reduceSub, Nat.reduceLT, Nat.reduceLeDiff, Nat.reduceEqDiff, Nat.reduceBEq, Nat.reducePow, hnk]; rfl) (Marks.nil _) ?_
          simp only [Vthen, VinBlock, if_true, if_false, Nat.reduceEqDiff, reduceCtorEq]
          exact ⟨by first | rfl | trivial, hltk', .cons rfl rfl (.cons rfl rfl (.cons rfl rfl (.cons rfl (by rw [hsk]; unfold mxI; congr 1) (.cons rfl rfl (.cons rfl rfl (.nil _)))))), by first | rfl | trivial⟩
        · have hge : k = M := by have := of_decide_eq_false ‹_›; omega
          subst hge
          simp only [Vthen, VinBlock, if_true, if_false, Nat.reduceEqDiff, reduceCtorEq]
          refine WpV.regionE (by simp only [go_sem, reduceCtorEq, Nat.reduceAdd, Nat.reduceMul, Nat.reduceSub, Nat.reduceLT, Nat.reduceLeDiff, Nat.reduceEqDiff, Nat.reduceBEq, Nat.reducePow, hni]; rfl) (Marks.nil _) ?_
          simp only [Vthen, VinBlock, if_true, if_false, Nat.reduceEqDiff, reduceCtorEq]
          exact ⟨by first | rfl | trivial, hlt', .cons rfl rfl (.cons rfl rfl (.cons rfl rfl (.cons rfl (by rw [hsi]) (.cons rfl rfl (.nil _))))), by first | rfl | trivial⟩
    · have hge : i = M := by have := of_decide_eq_false ‹_›; omega
      subst hge
      simp only [Vthen, VinBlock, if_true, if_false, Nat.reduceEqDiff, reduceCtorEq]
      refine WpV.seq (WpV.regionE (by simp only [go_sem, reduceCtorEq, Nat.reduceAdd, Nat.reduceMul, Nat.reduceSub, Nat.reduceLT, Nat.reduceLeDiff, Nat.reduceEqDiff, Nat.reduceBEq, Nat.reducePow]; rfl) (Marks.nil _) ?_)
      simp only [Vthen, VinBlock, if_true, if_false, Nat.reduceEqDiff, reduceCtorEq]
      refine WpV.ret ⟨Marks.nil _, List.nodup_nil, _, by simp only [Tryz.results15]; simp only [go_sem, reduceCtorEq, Nat.reduceAdd, Nat.reduceMul, Nat.reduceSub, Nat.reduceLT, Nat.reduceLeDiff, Nat.reduceEqDiff, Nat.reduceBEq, Nat.reducePow]; rfl, ?_⟩
      exact ⟨rfl, rfl⟩
end Go.Proofs.YtaekibilldjnmaaGreat
