/- Gaps are narrowed by ties. -/
import Derived.Test.YtpkadofgmhninaaAgg
namespace Go.Proofs.Ytpkadofgmhninaa
open Go.RowKit
attribute [local go_sem] Oper.semAt_some
attribute [local irreducible] CSet.gat

theorem But.quiet {m n : Nat} {w A B : World} (h : But m w A) (q : Quiet n A B) (hn : w.heap.size ≤ n) : But m w B :=
  ⟨q.os.trans h.os, q.tape.trans h.tape, q.output.trans h.output, Nat.le_trans h.size q.size, fun k hk hm => by
    have h1 := h.block k hk hm
    have h2 : ∃ o, w.heap[k]? = some o := ⟨_, Array.getElem?_eq_getElem hk⟩
    obtain ⟨o, ho⟩ := h2
    rw [ho] at h1 ⊢
    exact q.same k o h1 (.inl (by omega))⟩
theorem cells_but {w0 w A : World} {B : Nat} (h : CellsOf w0 w) (b : But B w A) (hB : w0.heap.size ≤ B) : CellsOf w0 A := fun p v hc =>
  b.cell (by have := lt_of_cell hc; omega) (h p v hc)

set_option maxRecDepth 100000 in
set_option maxHeartbeats 8000000 in
theorem hold_any (w0 : World) (gf : FuncId) (fs : Array Value) (eg : ∀ args w, (callFunc gf args).run Try.prog w = .ok (.enter gf args) w) (B : Nat) (g : List Int) (ts : List CSet.Tie) (w : World) (hseq : SeqQ gf fs #[] ETie ts (CellsOf w0)) (hG : GapsW w B g) (hc : CellsOf w0 w) (hB : w0.heap.size ≤ B) (ht : ∀ t, t ∈ ts → t.a < 6 ∧ t.b < 6) :
    Calls Try.prog 59 #[.pointer (some ⟨B, 0, none⟩), .func (.func gf) fs #[]] w fun e w' => (∃ v, e = .returned v) ∧ GapsW w' B (CSet.hold g ts) ∧ But B w w' := by
  have hBw : B < w.heap.size := (Array.getElem?_eq_some_iff.1 hG.2).1
  have HG := Lib.hid hG
  have HC := Lib.hid hc
  have HT := Lib.hid ht
  clear hG hc ht
  refine (callsIn_wide (n := 0)).1 (callsIn_of_wp_marks Try.func59 rfl trivial ?_ rfl)
  simp only [Try.ntmps59, List.size_toArray, List.length_cons, List.length_nil, Nat.reduceAdd, Nat.reduceSub, Array.replicate_succ, Array.replicate_zero, List.push_toArray, List.append_toArray, List.nil_append, List.cons_append]
  gi_wp2_with fail
  have x0 := Boxed.new w 135 (.pointer (some ⟨B, 0, none⟩))
  have b0 := (Bel.refl w).alloc (.cells #[.pointer (some ⟨B, 0, none⟩)] 135)
  have z0 : (w.alloc (.cells #[.pointer (some ⟨B, 0, none⟩)] 135)).heap.size = w.heap.size + 1 := World.size_alloc _ _
  generalize w.alloc (.cells #[.pointer (some ⟨B, 0, none⟩)] 135) = w1 at *
  refine rf_outer (gf := gf) (fs := fs) (lb := #[]) rfl eg hseq (HC.out.trans b0.cells) (fun A C h q => h.trans q.cells) (fun W vs x h => by rw [show vs = _ from h]; rfl)
    (fun pre W => GapsW W B (CSet.hold g pre) ∧ But B w W ∧ Boxed W w.heap.size 135 (.pointer (some ⟨B, 0, none⟩)))
    (fun _ _ _ => False)
    (fun pre A C h q => ⟨h.1.quiet q, h.2.1.quiet q (by omega), q.boxed h.2.2⟩)
    (fun c pre A C h q => h)
    ⟨HG.out.bel b0, b0.but B, x0⟩ ?round ?done ?stop
  case stop =>
    rintro d c pre W hd hpre h
    exact h.elim
  case done =>
    rintro d W hd ⟨h1, h2, h3⟩ hcw hK
    have HM5 : Hid (Marks w1.heap.size [d] W) := Lib.hid ⟨by simp, fun e he => by
      simp at he; subst he; exact ⟨hd, hK⟩⟩
    have H1 := Lib.hid h1
    have H2 := Lib.hid h2
    clear h1 h2 h3 hcw hK
    gi_wp2_with fail
    refine leaves_marks w1.heap.size [d] _ HM5.out (fun W6 q => leaves_out (results_none rfl _ _ _) ?_)
    exact ⟨⟨_, rfl⟩, H1.out.quiet q, H2.out.quiet q (by omega)⟩
  case round =>
    rintro l pre x vs W hl ⟨hg, hb, hx⟩ hcw hpre hE
    rw [show vs = _ from hE]
    have hz0 := Lib.hid z0
    clear z0
    gi_wp2_with fail
    refine ⟨(Bel.refl W).alloc _, fun W2 q _ _ => ?_⟩
    have z0 := hz0.out
    have hc3 := (C3.new W (.int .i64 (x.a : Int)) (.int .i64 (x.b : Int)) (.int .i64 x.by_) 147).of q.cells
    have hWW : Quiet w1.heap.size W W2 := (((Bel.refl W).alloc (.cells #[.int .i64 (x.a : Int), .int .i64 (x.b : Int), .int .i64 x.by_] 147)).quiet _).trans q
    have HG2 := Lib.hid (hg.quiet hWW)
    have HB2 := Lib.hid (hb.quiet hWW (by omega))
    have HX2 := Lib.hid (hWW.boxed hx)
    have HCW := Lib.hid HC.out
    have hst : CSet.hold g (pre ++ [x]) = (CSet.hold g pre).set (6 * x.a + x.b) (min (CSet.gat (CSet.hold g pre) x.a x.b) x.by_) := by unfold CSet.hold; rw [List.foldl_append]; rfl
    have HST := Lib.hid hst
    have hxm : x ∈ ts := hpre.subset (by simp)
    obtain ⟨hxa, hxb⟩ := HT.out x hxm
    obtain ⟨e1, -⟩ := HG2.out.cell hxa hxb
    have e0 := HX2.out.cell
    obtain ⟨t0, t1, t2⟩ := hc3
    have hl1 : w1.heap.size ≤ l := hl
    clear hg hb hx hcw hpre hE q hWW hst hxm z0
    have z1 : w.heap.size + 1 ≤ w1.heap.size := by have := hz0.out; omega
    generalize x.a = xa at *
    generalize x.b = xb at *
    generalize x.by_ = xy at *
    generalize CSet.hold g pre = gg at *
    generalize CSet.gat gg xa xb = x1 at *
    generalize W.heap.size = C at *
    gi_wp2_with fail
    refine region_tail 20 (fun i v W => match i with
      | 0 => v = .pointer (some ⟨B, 0, none⟩)
      | 1 => v = .pointer (some ⟨C, 0, none⟩)
      | 2 => v = .int .i64 (xa : Int)
      | 3 => v = .pointer (some ⟨C, 1, none⟩)
      | 4 => v = .int .i64 (xb : Int)
      | 5 => v = .pointer (some ⟨B, 0, none⟩)
      | 6 => v = .pointer (some ⟨C, 0, none⟩)
      | 7 => v = .int .i64 (xa : Int)
      | 8 => v = .pointer (some ⟨C, 1, none⟩)
      | 9 => v = .int .i64 (xb : Int)
      | 10 => v = .pointer (some ⟨B, 0, none⟩)
      | 11 => v = .pointer (some ⟨B, xa * 6, none⟩)
      | 12 => v = .pointer (some ⟨B, xa * 6 + xb, none⟩)
      | 13 => v = .int .i64 x1
      | 14 => v = .pointer (some ⟨C, 2, none⟩)
      | 15 => v = .int .i64 xy
      | 16 => v = .int .i64 (min x1 xy)
      | 17 => v = .pointer (some ⟨B, 0, none⟩)
      | 18 => v = .pointer (some ⟨B, xa * 6, none⟩)
      | 19 => v = .pointer (some ⟨B, xa * 6 + xb, none⟩)
      | _ => True) (by kernel_rfl) (by kernel_rfl) (by kernel_rfl) (by kernel_rfl) ?_ ?_ ?_
    · intro i v W W' h hb
      split at h <;> first | exact h | exact h.bel hb | exact fun e => (h e).bel hb | exact ⟨h.1.bel hb, h.2⟩
    · refine ⟨?_, ?_, ?_, ?_, ?_, ?_, ?_, ?_, ?_, ?_, ?_, ?_, ?_, ?_, ?_, ?_, ?_, ?_, ?_, ?_, trivial⟩
      · refine growOp_k ?_; intro vs W hW hd K HK
        clear hd
        have e0 := hW.cell e0
        simp only [putAll, Act.put, List.setIfInBounds_toArray, List.set_cons_succ, List.set_cons_zero, Nat.reduceAdd, Nat.zero_add]
        gi_wp2_with fail
        refine HK.out _ _ ?_ ?_ ?_
        · simp only [putAll, Act.put, List.setIfInBounds_toArray, List.set_cons_succ, List.set_cons_zero, Nat.reduceAdd, Nat.zero_add] <;> kernel_rfl
        · rfl
        · exact Bel.refl _
      · refine growOp_k ?_; intro vs W hW hd K HK
        clear hd
        simp only [putAll, Act.put, List.setIfInBounds_toArray, List.set_cons_succ, List.set_cons_zero, Nat.reduceAdd, Nat.zero_add]
        gi_wp2_with fail
        refine HK.out _ _ ?_ ?_ ?_
        · simp only [putAll, Act.put, List.setIfInBounds_toArray, List.set_cons_succ, List.set_cons_zero, Nat.reduceAdd, Nat.zero_add] <;> kernel_rfl
        · rfl
        · exact Bel.refl _
      · refine growOp_k ?_; intro vs W hW hd K HK
        have h1 : (vs 1) = .pointer (some ⟨C, 0, none⟩) := hd 1 (by decide)
        clear hd
        have t0 := hW.cell t0
        simp only [putAll, Act.put, List.setIfInBounds_toArray, List.set_cons_succ, List.set_cons_zero, Nat.reduceAdd, Nat.zero_add, h1]
        gi_wp2_with fail
        refine HK.out _ _ ?_ ?_ ?_
        · simp only [putAll, Act.put, List.setIfInBounds_toArray, List.set_cons_succ, List.set_cons_zero, Nat.reduceAdd, Nat.zero_add, h1] <;> kernel_rfl
        · rfl
        · exact Bel.refl _
      · refine growOp_k ?_; intro vs W hW hd K HK
        clear hd
        simp only [putAll, Act.put, List.setIfInBounds_toArray, List.set_cons_succ, List.set_cons_zero, Nat.reduceAdd, Nat.zero_add]
        gi_wp2_with fail
        refine HK.out _ _ ?_ ?_ ?_
        · simp only [putAll, Act.put, List.setIfInBounds_toArray, List.set_cons_succ, List.set_cons_zero, Nat.reduceAdd, Nat.zero_add] <;> kernel_rfl
        · rfl
        · exact Bel.refl _
      · refine growOp_k ?_; intro vs W hW hd K HK
        have h3 : (vs 3) = .pointer (some ⟨C, 1, none⟩) := hd 3 (by decide)
        clear hd
        have t1 := hW.cell t1
        simp only [putAll, Act.put, List.setIfInBounds_toArray, List.set_cons_succ, List.set_cons_zero, Nat.reduceAdd, Nat.zero_add, h3]
        gi_wp2_with fail
        refine HK.out _ _ ?_ ?_ ?_
        · simp only [putAll, Act.put, List.setIfInBounds_toArray, List.set_cons_succ, List.set_cons_zero, Nat.reduceAdd, Nat.zero_add, h3] <;> kernel_rfl
        · rfl
        · exact Bel.refl _
      · refine growOp_k ?_; intro vs W hW hd K HK
        clear hd
        have e0 := hW.cell e0
        simp only [putAll, Act.put, List.setIfInBounds_toArray, List.set_cons_succ, List.set_cons_zero, Nat.reduceAdd, Nat.zero_add]
        gi_wp2_with fail
        refine HK.out _ _ ?_ ?_ ?_
        · simp only [putAll, Act.put, List.setIfInBounds_toArray, List.set_cons_succ, List.set_cons_zero, Nat.reduceAdd, Nat.zero_add] <;> kernel_rfl
        · rfl
        · exact Bel.refl _
      · refine growOp_k ?_; intro vs W hW hd K HK
        clear hd
        simp only [putAll, Act.put, List.setIfInBounds_toArray, List.set_cons_succ, List.set_cons_zero, Nat.reduceAdd, Nat.zero_add]
        gi_wp2_with fail
        refine HK.out _ _ ?_ ?_ ?_
        · simp only [putAll, Act.put, List.setIfInBounds_toArray, List.set_cons_succ, List.set_cons_zero, Nat.reduceAdd, Nat.zero_add] <;> kernel_rfl
        · rfl
        · exact Bel.refl _
      · refine growOp_k ?_; intro vs W hW hd K HK
        have h6 : (vs 6) = .pointer (some ⟨C, 0, none⟩) := hd 6 (by decide)
        clear hd
        have t0 := hW.cell t0
        simp only [putAll, Act.put, List.setIfInBounds_toArray, List.set_cons_succ, List.set_cons_zero, Nat.reduceAdd, Nat.zero_add, h6]
        gi_wp2_with fail
        refine HK.out _ _ ?_ ?_ ?_
        · simp only [putAll, Act.put, List.setIfInBounds_toArray, List.set_cons_succ, List.set_cons_zero, Nat.reduceAdd, Nat.zero_add, h6] <;> kernel_rfl
        · rfl
        · exact Bel.refl _
      · refine growOp_k ?_; intro vs W hW hd K HK
        clear hd
        simp only [putAll, Act.put, List.setIfInBounds_toArray, List.set_cons_succ, List.set_cons_zero, Nat.reduceAdd, Nat.zero_add]
        gi_wp2_with fail
        refine HK.out _ _ ?_ ?_ ?_
        · simp only [putAll, Act.put, List.setIfInBounds_toArray, List.set_cons_succ, List.set_cons_zero, Nat.reduceAdd, Nat.zero_add] <;> kernel_rfl
        · rfl
        · exact Bel.refl _
      · refine growOp_k ?_; intro vs W hW hd K HK
        have h8 : (vs 8) = .pointer (some ⟨C, 1, none⟩) := hd 8 (by decide)
        clear hd
        have t1 := hW.cell t1
        simp only [putAll, Act.put, List.setIfInBounds_toArray, List.set_cons_succ, List.set_cons_zero, Nat.reduceAdd, Nat.zero_add, h8]
        gi_wp2_with fail
        refine HK.out _ _ ?_ ?_ ?_
        · simp only [putAll, Act.put, List.setIfInBounds_toArray, List.set_cons_succ, List.set_cons_zero, Nat.reduceAdd, Nat.zero_add, h8] <;> kernel_rfl
        · rfl
        · exact Bel.refl _
      · refine growOp_k ?_; intro vs W hW hd K HK
        have h5 : (vs 5) = .pointer (some ⟨B, 0, none⟩) := hd 5 (by decide)
        clear hd
        simp only [putAll, Act.put, List.setIfInBounds_toArray, List.set_cons_succ, List.set_cons_zero, Nat.reduceAdd, Nat.zero_add, h5]
        gi_wp2_with fail
        refine HK.out _ _ ?_ ?_ ?_
        · simp only [putAll, Act.put, List.setIfInBounds_toArray, List.set_cons_succ, List.set_cons_zero, Nat.reduceAdd, Nat.zero_add, h5] <;> kernel_rfl
        · rfl
        · exact Bel.refl _
      · refine growOp_k ?_; intro vs W hW hd K HK
        have h10 : (vs 10) = .pointer (some ⟨B, 0, none⟩) := hd 10 (by decide)
        have h7 : (vs 7) = .int .i64 (xa : Int) := hd 7 (by decide)
        clear hd
        simp only [putAll, Act.put, List.setIfInBounds_toArray, List.set_cons_succ, List.set_cons_zero, Nat.reduceAdd, Nat.zero_add, h10, h7]
        gi_wp2_with fail
        refine HK.out _ _ ?_ ?_ ?_
        · simp only [putAll, Act.put, List.setIfInBounds_toArray, List.set_cons_succ, List.set_cons_zero, Nat.reduceAdd, Nat.zero_add, h10, h7] <;> kernel_rfl
        · rfl
        · exact Bel.refl _
      · refine growOp_k ?_; intro vs W hW hd K HK
        have h11 : (vs 11) = .pointer (some ⟨B, xa * 6, none⟩) := hd 11 (by decide)
        have h9 : (vs 9) = .int .i64 (xb : Int) := hd 9 (by decide)
        clear hd
        simp only [putAll, Act.put, List.setIfInBounds_toArray, List.set_cons_succ, List.set_cons_zero, Nat.reduceAdd, Nat.zero_add, h11, h9]
        gi_wp2_with fail
        refine HK.out _ _ ?_ ?_ ?_
        · simp only [putAll, Act.put, List.setIfInBounds_toArray, List.set_cons_succ, List.set_cons_zero, Nat.reduceAdd, Nat.zero_add, h11, h9] <;> kernel_rfl
        · rfl
        · exact Bel.refl _
      · refine growOp_k ?_; intro vs W hW hd K HK
        have h12 : (vs 12) = .pointer (some ⟨B, xa * 6 + xb, none⟩) := hd 12 (by decide)
        clear hd
        have e1 := hW.cell e1
        simp only [putAll, Act.put, List.setIfInBounds_toArray, List.set_cons_succ, List.set_cons_zero, Nat.reduceAdd, Nat.zero_add, h12]
        gi_wp2_with fail
        refine HK.out _ _ ?_ ?_ ?_
        · simp only [putAll, Act.put, List.setIfInBounds_toArray, List.set_cons_succ, List.set_cons_zero, Nat.reduceAdd, Nat.zero_add, h12] <;> kernel_rfl
        · rfl
        · exact Bel.refl _
      · refine growOp_k ?_; intro vs W hW hd K HK
        clear hd
        simp only [putAll, Act.put, List.setIfInBounds_toArray, List.set_cons_succ, List.set_cons_zero, Nat.reduceAdd, Nat.zero_add]
        gi_wp2_with fail
        refine HK.out _ _ ?_ ?_ ?_
        · simp only [putAll, Act.put, List.setIfInBounds_toArray, List.set_cons_succ, List.set_cons_zero, Nat.reduceAdd, Nat.zero_add] <;> kernel_rfl
        · rfl
        · exact Bel.refl _
      · refine growOp_k ?_; intro vs W hW hd K HK
        have h14 : (vs 14) = .pointer (some ⟨C, 2, none⟩) := hd 14 (by decide)
        clear hd
        have t2 := hW.cell t2
        simp only [putAll, Act.put, List.setIfInBounds_toArray, List.set_cons_succ, List.set_cons_zero, Nat.reduceAdd, Nat.zero_add, h14]
        gi_wp2_with fail
        refine HK.out _ _ ?_ ?_ ?_
        · simp only [putAll, Act.put, List.setIfInBounds_toArray, List.set_cons_succ, List.set_cons_zero, Nat.reduceAdd, Nat.zero_add, h14] <;> kernel_rfl
        · rfl
        · exact Bel.refl _
      · refine growOp_k ?_; intro vs W hW hd K HK
        have h13 : (vs 13) = .int .i64 x1 := hd 13 (by decide)
        have h15 : (vs 15) = .int .i64 xy := hd 15 (by decide)
        clear hd
        simp only [putAll, Act.put, List.setIfInBounds_toArray, List.set_cons_succ, List.set_cons_zero, Nat.reduceAdd, Nat.zero_add, h13, h15]
        gi_wp2_with fail
        refine HK.out _ _ ?_ ?_ ?_
        · simp only [putAll, Act.put, List.setIfInBounds_toArray, List.set_cons_succ, List.set_cons_zero, Nat.reduceAdd, Nat.zero_add, h13, h15] <;> kernel_rfl
        · first | rfl | (show _ = _; simp [valOf]; omega) | simp [valOf]
        · exact Bel.refl _
      · refine growOp_k ?_; intro vs W hW hd K HK
        have h0 : (vs 0) = .pointer (some ⟨B, 0, none⟩) := hd 0 (by decide)
        clear hd
        simp only [putAll, Act.put, List.setIfInBounds_toArray, List.set_cons_succ, List.set_cons_zero, Nat.reduceAdd, Nat.zero_add, h0]
        gi_wp2_with fail
        refine HK.out _ _ ?_ ?_ ?_
        · simp only [putAll, Act.put, List.setIfInBounds_toArray, List.set_cons_succ, List.set_cons_zero, Nat.reduceAdd, Nat.zero_add, h0] <;> kernel_rfl
        · rfl
        · exact Bel.refl _
      · refine growOp_k ?_; intro vs W hW hd K HK
        have h17 : (vs 17) = .pointer (some ⟨B, 0, none⟩) := hd 17 (by decide)
        have h2 : (vs 2) = .int .i64 (xa : Int) := hd 2 (by decide)
        clear hd
        simp only [putAll, Act.put, List.setIfInBounds_toArray, List.set_cons_succ, List.set_cons_zero, Nat.reduceAdd, Nat.zero_add, h17, h2]
        gi_wp2_with fail
        refine HK.out _ _ ?_ ?_ ?_
        · simp only [putAll, Act.put, List.setIfInBounds_toArray, List.set_cons_succ, List.set_cons_zero, Nat.reduceAdd, Nat.zero_add, h17, h2] <;> kernel_rfl
        · rfl
        · exact Bel.refl _
      · refine growOp_k ?_; intro vs W hW hd K HK
        have h18 : (vs 18) = .pointer (some ⟨B, xa * 6, none⟩) := hd 18 (by decide)
        have h4 : (vs 4) = .int .i64 (xb : Int) := hd 4 (by decide)
        clear hd
        simp only [putAll, Act.put, List.setIfInBounds_toArray, List.set_cons_succ, List.set_cons_zero, Nat.reduceAdd, Nat.zero_add, h18, h4]
        gi_wp2_with fail
        refine HK.out _ _ ?_ ?_ ?_
        · simp only [putAll, Act.put, List.setIfInBounds_toArray, List.set_cons_succ, List.set_cons_zero, Nat.reduceAdd, Nat.zero_add, h18, h4] <;> kernel_rfl
        · rfl
        · exact Bel.refl _
    · intro vs V hW hall
      have g16 : vs 16 = .int .i64 (min x1 xy) := hall 16 (by decide)
      have g19 : vs 19 = .pointer (some ⟨B, xa * 6 + xb, none⟩) := hall 19 (by decide)
      clear hall
      simp only [putAll, Act.put, List.setIfInBounds_toArray, List.set_cons_succ, List.set_cons_zero, Nat.reduceAdd, Nat.zero_add, List.take_succ_cons, List.take_zero, List.drop_succ_cons, List.drop_zero, g16, g19]
      have HGW := Lib.hid (HG2.out.bel hW)
      have HBW := Lib.hid (HB2.out.trans (hW.but B))
      have HXW := Lib.hid (hW.boxed HX2.out)
      have hkW := hW.keep (n := w1.heap.size)
      have HKW := Lib.hid hkW
      obtain ⟨u1, u2⟩ := HGW.out.cell hxa hxb
      clear hW g16 g19 e0 e1 t0 t1 t2 hkW
      generalize min x1 xy = mn at *
      gi_wp2_with fail
      have e1 := But.set B (xa * 6 + xb) V (.int .i64 mn)
      exact ⟨cells_but HCW.out (HBW.out.trans e1) hB, HKW.out.trans (e1.keep (by omega)), by rw [HST.out]; exact HGW.out.set xa xb _, HBW.out.trans e1, e1.boxed (by omega) HXW.out⟩

end Go.Proofs.Ytpkadofgmhninaa
