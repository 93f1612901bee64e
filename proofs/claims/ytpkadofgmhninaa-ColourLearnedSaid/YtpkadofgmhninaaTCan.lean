/- Whether all plans but some can have been right. -/
import Derived.Test.YtpkadofgmhninaaTruths
namespace Go.Proofs.Ytpkadofgmhninaa
open Go.RowKit
attribute [local go_sem] Oper.semAt_some

theorem Try.info35 : (Try.prog.info? 35).map (fun i => (i.zero, i.size, i.bytes)) = some (some (.slice none 0 0), 1, 24) := by kernel_rfl
def keepTo (d : List Nat) (k : Nat) : List Nat := (List.range k).filter fun i => !d.contains i
theorem keepTo_succ (d : List Nat) (k : Nat) : keepTo d (k + 1) = keepTo d k ++ (if d.contains k then [] else [k]) := by
  unfold keepTo
  rw [List.range_succ, List.filter_append, List.filter_cons]
  cases d.contains k <;> simp
theorem keepTo_len (d : List Nat) (k : Nat) : (keepTo d k).length ≤ k := by
  have := List.length_filter_le (fun i => !d.contains i) (List.range k)
  rw [List.length_range] at this; exact this
theorem keepTo_lt {d : List Nat} {k i : Nat} (h : i ∈ keepTo d k) : i < k := by
  unfold keepTo at h; exact List.mem_range.1 (List.mem_filter.1 h).1
/-- A block of five cells. -/
def Row5 (W : World) (B : Nat) (a b c d e : Value) (t : TypeId) : Prop := W.heap[B]? = some (.cells #[a, b, c, d, e] t (0, 0))
theorem Row5.c5 {W : World} {B : Nat} {a b c d e : Value} {t : TypeId} (h : Row5 W B a b c d e t) : C5 W B a b c d e ∧ W.frozen? ⟨B, 4, none⟩ = false := by
  unfold Row5 at h
  refine ⟨⟨?_, ?_, ?_, ?_, ?_⟩, ?_⟩ <;> simp [World.cell?, World.frozen?, h]
theorem Row5.set {W : World} {B : Nat} {a b c d e : Value} {t : TypeId} (h : Row5 W B a b c d e t) (x : Value) : Row5 (W.setCell ⟨B, 4, none⟩ x) B a b c d x t := by
  unfold Row5 at h ⊢
  rw [Go.setCell_eq_setRow W B 4 _ _ _ x h, Go.setRow_heap W B _ _ _ _ h]
  simp
theorem Row5.bel {A C : World} {B : Nat} {a b c d e : Value} {t : TypeId} (h : Row5 A B a b c d e t) (q : Bel A C) : Row5 C B a b c d e t :=
  (q.block B (Array.getElem?_eq_some_iff.1 h).1).trans h

theorem plns_of {W : World} {base : Nat} {v : Value} {ps : List Rounds} {d : List Nat} {lx : Nat → Value} (k : Nat) (h : W.ownsRow base 35 1 v (keepTo d k).length ((keepTo d k).map lx)) (hx : ∀ i, i < k → Rnds W (lx i) (ps.getD i [])) :
    Plns W v ((keepTo d k).map fun i => ps.getD i []) := by
  have h' : W.ownsRow base 35 1 v ((keepTo d k).map lx).length ((keepTo d k).map lx) := by rw [List.length_map]; exact h
  obtain ⟨a, c, e, h1, h2, h3, h4⟩ := own_vals h'
  rw [List.length_map] at e h1 h4
  refine ⟨a, c, fun i => lx ((keepTo d k).getD i 0), by rw [List.length_map]; exact e, by rw [List.length_map]; exact h1, h2, h3, fun i hi => ?_⟩
  rw [List.length_map] at hi
  obtain ⟨b, off, e', q⟩ := h4 i hi
  have hm : (keepTo d k).getD i 0 ∈ keepTo d k := by rw [getD_lt _ _ _ hi]; exact List.getElem_mem hi
  refine ⟨b, off, e', ?_, ?_⟩
  · rw [q]; simp [List.getD, List.getElem?_eq_getElem hi]
  · have := hx _ (keepTo_lt hm)
    have e2 : ((keepTo d k).map fun i => ps.getD i []).getD i [] = ps.getD ((keepTo d k).getD i 0) [] := by simp [List.getD, List.getElem?_eq_getElem hi]
    rw [e2]; exact this

theorem own_sl {A : World} {base : Nat} {e : TypeId} {size n : Nat} {v : Value} {xs : List Value} (h : A.ownsRow base e size v n xs) : ∃ a k c, v = .slice a k c := by
  obtain ⟨h0, ⟨rfl, h1⟩ | ⟨g, cap, cur, rfl, hg, hh, h2⟩⟩ := h
  · exact ⟨_, _, _, rfl⟩
  · exact ⟨_, _, _, rfl⟩
theorem ownsRow_but {m base : Nat} {A B : World} {e : TypeId} {size n : Nat} {v : Value} {xs : List Value} (h : A.ownsRow base e size v n xs) (hb : But m A B) (hm : m < base) : B.ownsRow base e size v n xs := by
  obtain ⟨h0, ⟨rfl, h1⟩ | ⟨g, cap, cur, rfl, hg, hh, h2⟩⟩ := h
  · exact ⟨h0, .inl ⟨rfl, h1⟩⟩
  · exact ⟨h0, .inr ⟨g, cap, cur, rfl, hg, (hb.block g (Array.getElem?_eq_some_iff.1 hh).1 (by omega)).trans hh, h2⟩⟩

set_option maxRecDepth 100000 in
set_option maxHeartbeats 8000000 in
theorem tcan_any (s : CSet) (hs : s.Ok) (pv ev lv dv : Value) (ps : List Rounds) (d : List Nat) (w : World) (hpv : Paints w pv s.paints) (hev : Pairs w ev s.eats) (hlv : Plns w lv ps) (hd : Cols w dv d) (hp : ∀ p, p ∈ ps → PlanOk s.paints.length p) (hlen : ps.length ≤ 1000) :
    Calls Try.prog 50 #[.agg #[pv, .int .i64 s.near, .int .i64 s.give, ev, lv], dv] w fun e w' => e = .returned (.bool (s.canDrop ps d)) ∧ Bel w w' := by
  obtain ⟨i0, hi, hz0, hz1, hz2⟩ := info_parts Try.info35
  have kc := fun x W (hW : Bel w W) => contains_any dv d x W (hd.bel hW)
  have kt := fun W (hW : Bel w W) v2 qs (h : Plns W v2 qs) (hq : ∀ q, q ∈ qs → q ∈ ps) => truths_any s hs pv ev v2 qs W (hpv.bel hW) (hev.bel hW) h (fun q hqm => hp q (hq q hqm))
  obtain ⟨pa, pc, rfl, -, -, -, -⟩ := hpv
  obtain ⟨ea, ec, rfl, -, -, -, -⟩ := hev
  obtain ⟨la, lc, lx, rfl, hl1, hl2, -, hl3⟩ := hlv
  obtain ⟨da, dc, rfl, -, -, -, -⟩ := hd
  unfold maxLen at hl2
  simp only [List.length_map] at kc ⊢
  have KC := Lib.hid kc
  have KT := Lib.hid kt
  have HL3 := Lib.hid hl3
  have HSN := Lib.hid (keepTo_succ d)
  have HKL := Lib.hid (keepTo_len d)
  clear kc kt hl3 hp hs
  obtain ⟨c0, c1, c2, c3, c4⟩ := (C5.new w (.slice pa s.paints.length pc) (.int .i64 s.near) (.int .i64 s.give) (.slice ea s.eats.length ec) (.slice la ps.length lc) 92)
  have hc0 := Lib.hid (show C5 (w.alloc (.cells #[.slice pa s.paints.length pc, .int .i64 s.near, .int .i64 s.give, .slice ea s.eats.length ec, .slice la ps.length lc] 92)) w.heap.size (.slice pa s.paints.length pc) (.int .i64 s.near) (.int .i64 s.give) (.slice ea s.eats.length ec) (.slice la ps.length lc) from ⟨c0, c1, c2, c3, c4⟩)
  obtain ⟨W1, hW1⟩ : ∃ W1, (w.alloc (.cells #[.slice pa s.paints.length pc, .int .i64 s.near, .int .i64 s.give, .slice ea s.eats.length ec, .slice la ps.length lc] 92)).alloc (.cells #[.slice pa s.paints.length pc, .int .i64 s.near, .int .i64 s.give, .slice ea s.eats.length ec, .slice none 0 0] 92) = W1 := ⟨_, rfl⟩
  have hr0 : Row5 W1 (w.heap.size + 1) (.slice pa s.paints.length pc) (.int .i64 s.near) (.int .i64 s.give) (.slice ea s.eats.length ec) (.slice none 0 0) 92 := by
    rw [← hW1]
    have := World.alloc_heap_new (w.alloc (.cells #[.slice pa s.paints.length pc, .int .i64 s.near, .int .i64 s.give, .slice ea s.eats.length ec, .slice la ps.length lc] 92)) (.cells #[.slice pa s.paints.length pc, .int .i64 s.near, .int .i64 s.give, .slice ea s.eats.length ec, .slice none 0 0] 92)
    rw [World.size_alloc] at this
    exact this
  have hb0 : Bel w W1 := by rw [← hW1]; exact ((Bel.refl w).alloc _).alloc _
  have hc1 : C5 W1 w.heap.size (.slice pa s.paints.length pc) (.int .i64 s.near) (.int .i64 s.give) (.slice ea s.eats.length ec) (.slice la ps.length lc) := by rw [← hW1]; exact hc0.out.bel ((Bel.refl _).alloc _)
  have hz1' : W1.heap.size = w.heap.size + 2 := by rw [← hW1]; simp
  have HR0 := Lib.hid hr0
  have HB0 := Lib.hid hb0
  have HC1 := Lib.hid hc1
  have HZ := Lib.hid hz1'
  have HW1 := Lib.hid hW1
  clear hr0 hb0 hc1 hW1 hz1' hc0
  refine (callsIn_wide (n := 0)).1 (callsIn_of_wp Try.func50 rfl trivial ?_ rfl)
  simp only [Try.ntmps50, List.size_toArray, List.length_cons, List.length_nil, Nat.reduceAdd, Nat.reduceSub, Array.replicate_succ, Array.replicate_zero, List.push_toArray, List.append_toArray, List.nil_append, List.cons_append]
  gi_wp2_with fail
  rw [HW1.out]
  clear c0 c1 c2 c3 c4
  obtain ⟨c0, c1, c2, c3, c4⟩ := HC1.out
  gi_loopw [17] (fun i wr => ∃ (k : Nat) (lv2 : Value), k ≤ ps.length ∧ i = .int .i64 k ∧ wr.ownsRow W1.heap.size 35 1 lv2 (keepTo d k).length ((keepTo d k).map lx) ∧ Row5 wr (w.heap.size + 1) (.slice pa s.paints.length pc) (.int .i64 s.near) (.int .i64 s.give) (.slice ea s.eats.length ec) lv2 92 ∧ Bel w wr ∧ W1.heap.size ≤ wr.heap.size) (fun i _ => ps.length - (intOf i).toNat)
  case atStart => exact ⟨0, _, Nat.zero_le _, rfl, ⟨rfl, .inl ⟨rfl, rfl⟩⟩, HR0.out, HB0.out, Nat.le_refl _⟩
  case round =>
    clear c0 c1 c2 c3 c4
    obtain ⟨k, lv2, hk, rfl, ho, hr, hb, hsz⟩ := hrel
    have HO := Lib.hid ho
    have HR := Lib.hid hr
    have HB := Lib.hid hb
    clear ho hr hb
    by_cases hlt : k < ps.length
    · obtain ⟨lb, loff, rfl, lcell, hrn⟩ := HL3.out k hlt
      have lcell := HB.out.cell lcell
      have hkc := KC.out k wr HB.out
      have hks := HSN.out k
      have HKS := Lib.hid hks
      have hkl := HKL.out k
      have HLX := Lib.hid (show [lx k].map id = [lx k] from rfl)
      obtain ⟨ra, rc, er, -, -, -, -⟩ := hrn
      have ER := Lib.hid er
      rw [er] at lcell
      clear hks er
      generalize (ps.getD k []).length = pl at *
      generalize hkeep : keepTo d k = R at *
      have HKP := Lib.hid hkeep
      clear hkeep
      generalize d.contains k = b at *
      cases b with
      | true =>
        gi_wp2_with fail
        refine ⟨trivial, rfl, (callsW hkc).mono ?_⟩
        rintro e w3 ⟨rfl, hb3⟩
        replace hb3 : Bel wr w3 := hb3 ▸ Bel.refl _
        have N1 := Lib.hid (ownsRow_bel HO.out hb3)
        have N2 := Lib.hid (HR.out.bel hb3)
        have N3 := Lib.hid (HB.out.trans hb3)
        have hs3 := hb3.size
        clear hb3 lcell hkc
        gi_wp2_with fail
        go_roundw
        case rel => exact ⟨k + 1, lv2, by omega, by go_num, by rw [HKS.out]; simpa using N1.out, N2.out, N3.out, by omega⟩
        case measure => simp [intOf]; omega
      | false =>
        gi_wp2_with fail
        refine ⟨trivial, rfl, (callsW hkc).mono ?_⟩
        rintro e w3 ⟨rfl, hb3⟩
        replace hb3 : Bel wr w3 := hb3 ▸ Bel.refl _
        have N1 := Lib.hid (ownsRow_bel HO.out hb3)
        have N2 := Lib.hid (HR.out.bel hb3)
        have N3 := Lib.hid (HB.out.trans hb3)
        have hs3 := hb3.size
        clear hb3 lcell hkc
        obtain ⟨⟨d0, d1, d2, d3, d4⟩, -⟩ := N2.out.c5
        have hm1 : R.length + 1 ≤ maxLen := by unfold maxLen; omega
        have hm2 : (R.length + 1) * 24 ≤ 140737488355328 := by omega
        have hm3 : W1.heap.size ≤ (w3.alloc (.cells #[.slice ra pl rc] 35)).heap.size := by simp; omega
        gi_wp2_with (gi_at_builtin; refine wpListIn_append_own _ rfl _ _ 73 rfl W1.heap.size 35 i0 (.slice none 0 0) 1 24 Try.underlying73 hi hz0 hz1 hz2 rfl (by decide) _ _ _ rfl (N1.out.alloc _) ⟨w3.heap.size, 0, none⟩ 1 1 [.slice ra pl rc] rfl rfl (one_new _ _ _) (by simp [Value.oneCell']) hm1 hm2 hm3 ?_; intro v' w4 hown2 hgrow _; obtain ⟨xa, xk, xc, rfl⟩ := own_sl hown2; have HO2 := Lib.hid hown2; have HBL := Lib.hid (Below.grown (Below.refl W1.heap.size _) hgrow hm3 (fun k hk => (N1.out.lt k hk).1)); have HB4 := Lib.hid (((N3.out.alloc _)).grown hgrow (fun k hk => by have := (N1.out.lt k hk).1; have := HB0.out.size; omega)); have hr4 : Row5 w4 (w.heap.size + 1) (.slice pa s.paints.length pc) (.int .i64 s.near) (.int .i64 s.give) (.slice ea s.eats.length ec) lv2 92 := (HBL.out.block _ (by have := HZ.out; omega)).trans (N2.out.bel ((Bel.refl _).alloc _)); have HR4 := Lib.hid hr4; obtain ⟨⟨g0, g1, g2, g3, g4⟩, g5⟩ := hr4.c5; clear hown2 hgrow hr4 d0 d1 d2 d3 d4)
        have hs4 := HBL.out.size
        have e1 := But.set (w.heap.size + 1) 4 w4 (.slice xa xk xc)
        have hz := HZ.out
        go_roundw
        case rel =>
          refine ⟨k + 1, .slice xa xk xc, by omega, by go_num, ?_, HR4.out.set _, e1.bel HB4.out (by omega), by have := e1.size; simp at hs4; omega⟩
          rw [HKS.out]
          have h := ownsRow_but HO2.out e1 (by omega)
          simpa [ER.out] using h
        case measure => simp [intOf]; omega
    · obtain rfl : k = ps.length := by omega
      have hpl := Lib.hid (plns_of (ps := ps) (d := d) (lx := lx) ps.length HO.out (fun i hi => by
        obtain ⟨_, _, _, _, h⟩ := HL3.out i hi
        exact h.bel HB.out))
      have htr := KT.out wr HB.out lv2 _ hpl.out (fun q hq => by
        obtain ⟨i, hi, rfl⟩ := List.mem_map.1 hq
        rw [getD_lt _ _ _ (keepTo_lt hi)]; exact List.getElem_mem _)
      have HTR := Lib.hid htr
      obtain ⟨va, vc, vx, ev, -, -, -, -⟩ := hpl.out
      obtain ⟨⟨d0, d1, d2, d3, d4⟩, -⟩ := HR.out.c5
      have hcd : s.canDrop ps d = s.truly ((keepTo d ps.length).map fun i => ps.getD i []) := rfl
      have HCD := Lib.hid hcd
      clear htr hlt hcd
      generalize ((keepTo d ps.length).map fun i => ps.getD i []).length = vl at *
      subst ev
      gi_wp2_with fail
      refine ⟨trivial, rfl, (callsW HTR.out).mono ?_⟩
      rintro e w5 ⟨hg, sg, rfl, hl1, hl2, -, hb5⟩
      have U := Lib.hid (HB.out.trans hb5)
      generalize s.truly ((keepTo d ps.length).map fun i => ps.getD i []) = bt at *
      clear hb5 d0 d1 d2 d3 d4
      gi_wp2_with (with_reducible refine stop_store89 8 (.tmp 36) ?_)
      unfold Stopped
      refine wpListIn_store89 8 (.tmp 36) w5.heap.size hg zeros36.toArray rfl rfl ((Below.heap_alloc _ _ _ (by simp)).trans (World.alloc_heap_new w5 _)) zeros36_size hl1 ?_
      intro V1 hg1 hb1 hz1
      refine wpListIn_store89 9 (.tmp 37) (w5.heap.size + 1) sg zeros36.toArray rfl rfl ((hb1.block _ (by simp) (by omega)).trans (by have := World.alloc_heap_new (w5.alloc (.cells zeros36.toArray 89)) (.cells zeros36.toArray 89); rw [World.size_alloc] at this; exact this)) zeros36_size hl2 ?_
      intro V2 hg2 hb2 hz2
      have hsu := U.out.size
      have UB := Lib.hid (hb2.bel (hb1.bel ((U.out.alloc _).alloc _) (by omega)) (by omega))
      clear hg1 hb1 hg2 hb2 hz1 hz2
      gi_wp2_with fail
      go_ret
      exact ⟨by rw [HCD.out]; rfl, UB.out⟩

end Go.Proofs.Ytpkadofgmhninaa
