/- A copy of a set. -/
import Derived.Test.YtpkadofgmhninaaFresh
namespace Go.Proofs.Ytpkadofgmhninaa
open Go.RowKit
attribute [local go_sem] Oper.semAt_some

theorem Try.info56 : (Try.prog.info? 56).map (fun i => (i.zero, i.size, i.bytes)) = some (some (.agg #[.int .i64 0, .int .i64 0, .int .i64 0, .int .i64 0, .int .i64 0, .int .i64 0]), 6, 48) := by kernel_rfl
theorem Try.info85 : (Try.prog.info? 85).map (fun i => (i.zero, i.size, i.bytes)) = some (some (.agg #[.int .i64 0, .int .i64 0]), 2, 16) := by kernel_rfl
/-- A block of four cells. -/
def Row4 (W : World) (B : Nat) (a b c d : Value) (t : TypeId) : Prop := W.heap[B]? = some (.cells #[a, b, c, d] t (0, 0))
theorem Row4.c4 {W : World} {B : Nat} {a b c d : Value} {t : TypeId} (h : Row4 W B a b c d t) : C4 W B a b c d := by
  unfold Row4 at h
  refine ⟨?_, ?_, ?_, ?_⟩ <;> simp [World.cell?, h]
theorem Row4.fro {W : World} {B : Nat} {a b c d : Value} {t : TypeId} (h : Row4 W B a b c d t) (k : Nat) : W.frozen? ⟨B, k, none⟩ = false := by
  unfold Row4 at h
  simp [World.frozen?, h]
theorem Row4.bel {A C : World} {B : Nat} {a b c d : Value} {t : TypeId} (h : Row4 A B a b c d t) (q : Bel A C) : Row4 C B a b c d t := (q.block B (Array.getElem?_eq_some_iff.1 h).1).trans h
theorem Row4.but {A C : World} {B m : Nat} {a b c d : Value} {t : TypeId} (h : Row4 A B a b c d t) (q : But m A C) (hm : B ≠ m) : Row4 C B a b c d t := (q.block B (Array.getElem?_eq_some_iff.1 h).1 hm).trans h
theorem Pairs.but {A B : World} {m b off n c : Nat} {ps : List (Nat × Nat)} (hx : Pairs A (.slice (some ⟨b, off, none⟩) n c) ps) (hm : b ≠ m) (h : But m A B) : Pairs B (.slice (some ⟨b, off, none⟩) n c) ps := by
  obtain ⟨a, c', e, h1, h2, hz, h3⟩ := hx
  refine ⟨a, c', e, h1, h2, hz, fun i hi => ?_⟩
  obtain ⟨b', off', e', k0, k1⟩ := h3 i hi
  subst e'
  injection e with e1 e2 e3
  injection e1 with e1
  injection e1 with e1 e4
  subst e1
  exact ⟨_, _, rfl, h.cell hm k0, h.cell hm k1⟩

theorem Paints.safe {W V : World} {ga n gc B : Nat} {ps : List Paint} {a : Option Addr} {k c : Nat} {y z u : Value} {t : TypeId} (h : Paints W (.slice (some ⟨ga, 0, none⟩) n gc) ps) (r : Row4 W B (.slice a k c) y z u t) (q : But B W V) : Paints V (.slice (some ⟨ga, 0, none⟩) n gc) ps := by
  by_cases e : ga = B
  · obtain ⟨a', c', e1, h1, h2, hz, h3⟩ := h
    refine ⟨a', c', e1, h1, h2, hz, fun i hi => ?_⟩
    exfalso
    obtain ⟨b, off, e2, k0, -⟩ := h3 0 (by omega)
    subst e2
    injection e1 with e1
    injection e1 with e1
    injection e1 with e1 e3
    subst e1 e3 e
    have := r.c4.1
    rw [Nat.zero_mul, Nat.zero_add] at k0
    rw [this] at k0
    cases k0
  · exact h.but e q
theorem Pairs.safe {W V : World} {ga n gc B : Nat} {ps : List (Nat × Nat)} {a : Option Addr} {k c : Nat} {y z u : Value} {t : TypeId} (h : Pairs W (.slice (some ⟨ga, 0, none⟩) n gc) ps) (r : Row4 W B (.slice a k c) y z u t) (q : But B W V) : Pairs V (.slice (some ⟨ga, 0, none⟩) n gc) ps := by
  by_cases e : ga = B
  · obtain ⟨a', c', e1, h1, h2, hz, h3⟩ := h
    refine ⟨a', c', e1, h1, h2, hz, fun i hi => ?_⟩
    exfalso
    obtain ⟨b, off, e2, k0, -⟩ := h3 0 (by omega)
    subst e2
    injection e1 with e1
    injection e1 with e1
    injection e1 with e1 e3
    subst e1 e3 e
    have := r.c4.1
    rw [Nat.zero_mul, Nat.zero_add] at k0
    rw [this] at k0
    cases k0
  · exact h.but e q

set_option maxRecDepth 100000 in
set_option maxHeartbeats 4000000 in
theorem own_any (s : CSet) (v : Value) (w : World) (hv : SetV w v s) (hp5 : s.paints.length ≤ 100) (he5 : s.eats.length ≤ 100) :
    Calls Try.prog 11 #[v] w fun e w' => ∃ v', e = .returned v' ∧ SetV w' v' s ∧ Bel w w' := by
  obtain ⟨i0, hp0, hp1, hp2, hp3⟩ := info_parts Try.info56
  obtain ⟨i1, he0, he1, he2, he3⟩ := info_parts Try.info85
  obtain ⟨pv, ev, rfl, h1, h2⟩ := hv
  have HPV := Lib.hid h1
  have HEV := Lib.hid h2
  obtain ⟨pa, pc, rfl, -, -, -, -⟩ := h1
  obtain ⟨ea, ec, rfl, -, -, -, -⟩ := h2
  have r1 : Row4 (w.alloc (.cells #[.slice pa s.paints.length pc, .int .i64 s.near, .int .i64 s.give, .slice ea s.eats.length ec] 31)) w.heap.size (.slice pa s.paints.length pc) (.int .i64 s.near) (.int .i64 s.give) (.slice ea s.eats.length ec) 31 := World.alloc_heap_new _ _
  have r2 := World.alloc_heap_new (w.alloc (.cells #[.slice pa s.paints.length pc, .int .i64 s.near, .int .i64 s.give, .slice ea s.eats.length ec] 31)) (.cells #[.slice none 0 0, .int .i64 0, .int .i64 0, .slice none 0 0] 31)
  rw [World.size_alloc] at r2
  obtain ⟨W0, hW0⟩ : ∃ W0, (w.alloc (.cells #[.slice pa s.paints.length pc, .int .i64 s.near, .int .i64 s.give, .slice ea s.eats.length ec] 31)).alloc (.cells #[.slice none 0 0, .int .i64 0, .int .i64 0, .slice none 0 0] 31) = W0 := ⟨_, rfl⟩
  have HROW : Hid (Row4 W0 w.heap.size (.slice pa s.paints.length pc) (.int .i64 s.near) (.int .i64 s.give) (.slice ea s.eats.length ec) 31) := Lib.hid (by rw [← hW0]; exact r1.bel ((Bel.refl _).alloc _))
  have HROW2 : Hid (Row4 W0 (w.heap.size + 1) (.slice none 0 0) (.int .i64 0) (.int .i64 0) (.slice none 0 0) 31) := Lib.hid (by rw [← hW0]; exact r2)
  have HB : Hid (Bel w W0) := Lib.hid (by rw [← hW0]; exact ((Bel.refl w).alloc _).alloc _)
  have HC := Lib.hid HROW.out.c4
  have HW0 := Lib.hid hW0
  clear r1 r2 hW0
  refine (callsIn_wide (n := 0)).1 (callsIn_of_wp Try.func11 rfl trivial ?_ rfl)
  simp only [Try.ntmps11, List.size_toArray, List.length_cons, List.length_nil, Nat.reduceAdd, Nat.reduceSub, Array.replicate_succ, Array.replicate_zero, List.push_toArray, List.append_toArray, List.nil_append, List.cons_append]
  gi_wp2_with fail
  rw [HW0.out]
  refine region_tail 9 (fun i v W => match i with
    | 0 => ∃ g, v = .slice (some ⟨g, 0, none⟩) 0 0
    | 1 => v = .pointer (some ⟨w.heap.size, 0, none⟩)
    | 2 => v = .slice pa s.paints.length pc
    | 3 => ∃ g c, v = .slice (some ⟨g, 0, none⟩) s.paints.length c ∧ Paints W v s.paints
    | 4 => ∃ g, v = .slice (some ⟨g, 0, none⟩) 0 0
    | 5 => v = .pointer (some ⟨w.heap.size, 3, none⟩)
    | 6 => v = .slice ea s.eats.length ec
    | 7 => ∃ g c, v = .slice (some ⟨g, 0, none⟩) s.eats.length c ∧ Pairs W v s.eats
    | 8 => v = .pointer (some ⟨w.heap.size, 0, none⟩)
    | _ => True) (by kernel_rfl) (by kernel_rfl) (by kernel_rfl) (by kernel_rfl) ?_ ?_ ?_
  · intro i v W W' h hb
    split at h <;> first | exact h | exact h.bel hb | exact fun e => (h e).bel hb | exact ⟨h.1.bel hb, h.2⟩ | (obtain ⟨g, c, h1, h2⟩ := h; exact ⟨g, c, h1, h2.bel hb⟩)
  · refine ⟨?_, ?_, ?_, ?_, ?_, ?_, ?_, ?_, ?_, trivial⟩
    · refine growOp_k ?_; intro vs W hW hd K HK
      clear hd
      simp only [putAll, Act.put, List.setIfInBounds_toArray, List.set_cons_succ, List.set_cons_zero, Nat.reduceAdd, Nat.zero_add]
      gi_wp2_with fail
      refine HK.out _ _ ?_ ?_ ?_
      · simp only [putAll, Act.put, List.setIfInBounds_toArray, List.set_cons_succ, List.set_cons_zero, Nat.reduceAdd, Nat.zero_add] <;> kernel_rfl
      · exact ⟨_, rfl⟩
      · exact (Bel.refl _).alloc _
    · refine growOp_k ?_; intro vs W hW hd K HK
      clear hd
      simp only [putAll, Act.put, List.setIfInBounds_toArray, List.set_cons_succ, List.set_cons_zero, Nat.reduceAdd, Nat.zero_add]
      gi_wp2_with fail
      refine HK.out _ _ ?_ ?_ ?_
      · simp only [putAll, Act.put, List.setIfInBounds_toArray, List.set_cons_succ, List.set_cons_zero, Nat.reduceAdd, Nat.zero_add] <;> kernel_rfl
      · rfl
      · exact Bel.refl _
    · refine growOp_k ?_; intro vs W hW hd K HK
      have h1 : (vs 1) = .pointer (some ⟨w.heap.size, 0, none⟩) := hd 1 (by decide)
      clear hd
      obtain ⟨c0, c1, c2, c3⟩ := HC.out.bel hW
      simp only [putAll, Act.put, List.setIfInBounds_toArray, List.set_cons_succ, List.set_cons_zero, Nat.reduceAdd, Nat.zero_add, h1]
      gi_wp2_with fail
      refine HK.out _ _ ?_ ?_ ?_
      · simp only [putAll, Act.put, List.setIfInBounds_toArray, List.set_cons_succ, List.set_cons_zero, Nat.reduceAdd, Nat.zero_add, h1] <;> kernel_rfl
      · rfl
      · exact Bel.refl _
    · refine growOp_k ?_; intro vs W hW hd K HK
      have h0 : ∃ g, (vs 0) = .slice (some ⟨g, 0, none⟩) 0 0 := hd 0 (by decide)
      have h2 : (vs 2) = .slice pa s.paints.length pc := hd 2 (by decide)
      clear hd
      simp only [putAll, Act.put, List.setIfInBounds_toArray, List.set_cons_succ, List.set_cons_zero, Nat.reduceAdd, Nat.zero_add, h2]
      obtain ⟨g, e0⟩ := h0
      simp only [e0]
      refine wpListIn_append_empty rfl _ _ 28 rfl 56 i0 _ 6 48 Try.underlying28 hp0 hp1 hp2 hp3 g _ _ _ rfl rfl (s.paints.flatMap paintRow) (by rw [rows_len _ 6 (fun _ => rfl)]) ((HPV.out.bel (HB.out.trans hW)).news).2.2 ((HPV.out.bel (HB.out.trans hW)).news).2.1 (by omega) (by decide) ?_
      intro gb cap W' hb1 hb2 hb3 hb4
      gi_wp2_with fail
      refine HK.out _ _ ?_ ?_ ?_
      · simp only [putAll, Act.put, List.setIfInBounds_toArray, List.set_cons_succ, List.set_cons_zero, Nat.reduceAdd, Nat.zero_add, h2, e0] <;> kernel_rfl
      · exact ⟨_, _, rfl, Paints.of_news hb2 hb3 hb4⟩
      · exact hb1
    · refine growOp_k ?_; intro vs W hW hd K HK
      clear hd
      simp only [putAll, Act.put, List.setIfInBounds_toArray, List.set_cons_succ, List.set_cons_zero, Nat.reduceAdd, Nat.zero_add]
      gi_wp2_with fail
      refine HK.out _ _ ?_ ?_ ?_
      · simp only [putAll, Act.put, List.setIfInBounds_toArray, List.set_cons_succ, List.set_cons_zero, Nat.reduceAdd, Nat.zero_add] <;> kernel_rfl
      · exact ⟨_, rfl⟩
      · exact (Bel.refl _).alloc _
    · refine growOp_k ?_; intro vs W hW hd K HK
      clear hd
      simp only [putAll, Act.put, List.setIfInBounds_toArray, List.set_cons_succ, List.set_cons_zero, Nat.reduceAdd, Nat.zero_add]
      gi_wp2_with fail
      refine HK.out _ _ ?_ ?_ ?_
      · simp only [putAll, Act.put, List.setIfInBounds_toArray, List.set_cons_succ, List.set_cons_zero, Nat.reduceAdd, Nat.zero_add] <;> kernel_rfl
      · rfl
      · exact Bel.refl _
    · refine growOp_k ?_; intro vs W hW hd K HK
      have h5 : (vs 5) = .pointer (some ⟨w.heap.size, 3, none⟩) := hd 5 (by decide)
      clear hd
      obtain ⟨c0, c1, c2, c3⟩ := HC.out.bel hW
      simp only [putAll, Act.put, List.setIfInBounds_toArray, List.set_cons_succ, List.set_cons_zero, Nat.reduceAdd, Nat.zero_add, h5]
      gi_wp2_with fail
      refine HK.out _ _ ?_ ?_ ?_
      · simp only [putAll, Act.put, List.setIfInBounds_toArray, List.set_cons_succ, List.set_cons_zero, Nat.reduceAdd, Nat.zero_add, h5] <;> kernel_rfl
      · rfl
      · exact Bel.refl _
    · refine growOp_k ?_; intro vs W hW hd K HK
      have h4 : ∃ g, (vs 4) = .slice (some ⟨g, 0, none⟩) 0 0 := hd 4 (by decide)
      have h6 : (vs 6) = .slice ea s.eats.length ec := hd 6 (by decide)
      clear hd
      simp only [putAll, Act.put, List.setIfInBounds_toArray, List.set_cons_succ, List.set_cons_zero, Nat.reduceAdd, Nat.zero_add, h6]
      obtain ⟨g, e0⟩ := h4
      simp only [e0]
      refine wpListIn_append_empty rfl _ _ 29 rfl 85 i1 _ 2 16 Try.underlying29 he0 he1 he2 he3 g _ _ _ rfl rfl (s.eats.flatMap pairRow) (by rw [rows_len _ 2 (fun _ => rfl)]) ((HEV.out.bel (HB.out.trans hW)).news).2.2 ((HEV.out.bel (HB.out.trans hW)).news).2.1 (by omega) (by decide) ?_
      intro gb cap W' hb1 hb2 hb3 hb4
      gi_wp2_with fail
      refine HK.out _ _ ?_ ?_ ?_
      · simp only [putAll, Act.put, List.setIfInBounds_toArray, List.set_cons_succ, List.set_cons_zero, Nat.reduceAdd, Nat.zero_add, h6, e0] <;> kernel_rfl
      · exact ⟨_, _, rfl, Pairs.of_news hb2 hb3 hb4⟩
      · exact hb1
    · refine growOp_k ?_; intro vs W hW hd K HK
      clear hd
      simp only [putAll, Act.put, List.setIfInBounds_toArray, List.set_cons_succ, List.set_cons_zero, Nat.reduceAdd, Nat.zero_add]
      gi_wp2_with fail
      refine HK.out _ _ ?_ ?_ ?_
      · simp only [putAll, Act.put, List.setIfInBounds_toArray, List.set_cons_succ, List.set_cons_zero, Nat.reduceAdd, Nat.zero_add] <;> kernel_rfl
      · rfl
      · exact Bel.refl _
  · intro vs W hW hall
    have g3 : ∃ g c, vs 3 = .slice (some ⟨g, 0, none⟩) s.paints.length c ∧ Paints W (vs 3) s.paints := hall 3 (by decide)
    have g7 : ∃ g c, vs 7 = .slice (some ⟨g, 0, none⟩) s.eats.length c ∧ Pairs W (vs 7) s.eats := hall 7 (by decide)
    have g8 : vs 8 = .pointer (some ⟨w.heap.size, 0, none⟩) := hall 8 (by decide)
    clear hall
    simp only [putAll, Act.put, List.setIfInBounds_toArray, List.set_cons_succ, List.set_cons_zero, Nat.reduceAdd, Nat.zero_add, List.take_succ_cons, List.take_zero, List.drop_succ_cons, List.drop_zero, g8]
    obtain ⟨ga, gc, e3, hpp⟩ := g3
    obtain ⟨gb, gd, e7, hqq⟩ := g7
    rw [e3] at hpp
    rw [e7] at hqq
    simp only [e3, e7]
    have HBW := Lib.hid (HB.out.trans hW)
    have HPP := Lib.hid hpp
    have HQQ := Lib.hid hqq
    have HR := Lib.hid (HROW.out.bel hW)
    have HR2 := Lib.hid (HROW2.out.bel hW)
    clear hW hpp hqq e3 e7 g8
    have f0 := HR.out.fro 0
    have f3 := HR.out.fro 3
    obtain ⟨c0, c1, c2, c3⟩ := HR.out.c4
    obtain ⟨U, hU⟩ : ∃ U, (W.setCell ⟨w.heap.size, 0, none⟩ (.slice (some ⟨ga, 0, none⟩) s.paints.length gc)).setCell ⟨w.heap.size, 3, none⟩ (.slice (some ⟨gb, 0, none⟩) s.eats.length gd) = U := ⟨_, rfl⟩
    have hbu : But w.heap.size W U := by rw [← hU]; exact (But.set _ _ _ _).trans (But.set _ _ _ _)
    have hru : Row4 U w.heap.size (.slice (some ⟨ga, 0, none⟩) s.paints.length gc) (.int .i64 s.near) (.int .i64 s.give) (.slice (some ⟨gb, 0, none⟩) s.eats.length gd) 31 := by
      rw [← hU]; exact heap_set (heap_set HR.out 0 _) 3 _
    have hru2 : Row4 U (w.heap.size + 1) (.slice none 0 0) (.int .i64 0) (.int .i64 0) (.slice none 0 0) 31 := HR2.out.but hbu (by omega)
    have hbw := hbu.bel HBW.out (Nat.le_refl _)
    have HBU := Lib.hid hbu
    have HRU2 := Lib.hid hru2
    have HBW2 := Lib.hid hbw
    obtain ⟨d0, d1, d2, d3⟩ := hru.c4
    obtain ⟨x0, x1, x2, x3⟩ := hru2.c4
    have y0 := hru2.fro 0
    have y1 := hru2.fro 1
    have y2 := hru2.fro 2
    have y3 := hru2.fro 3
    rw [← hU] at d0 d1 d2 d3 x0 x1 x2 x3 y0 y1 y2 y3
    have HU := Lib.hid hU
    clear hU hbu hru hru2 hbw
    gi_wp2_with fail
    rw [HU.out]
    obtain ⟨V, hV⟩ : ∃ V, (((U.setCell ⟨w.heap.size + 1, 0, none⟩ (.slice (some ⟨ga, 0, none⟩) s.paints.length gc)).setCell ⟨w.heap.size + 1, 1, none⟩ (.int .i64 s.near)).setCell ⟨w.heap.size + 1, 2, none⟩ (.int .i64 s.give)).setCell ⟨w.heap.size + 1, 3, none⟩ (.slice (some ⟨gb, 0, none⟩) s.eats.length gd) = V := ⟨_, rfl⟩
    have hbv : But (w.heap.size + 1) U V := by rw [← hV]; exact ((But.set _ _ _ _).trans (But.set _ _ _ _)).trans ((But.set _ _ _ _).trans (But.set _ _ _ _))
    have hrv : Row4 V (w.heap.size + 1) (.slice (some ⟨ga, 0, none⟩) s.paints.length gc) (.int .i64 s.near) (.int .i64 s.give) (.slice (some ⟨gb, 0, none⟩) s.eats.length gd) 31 := by
      rw [← hV]; exact heap_set (heap_set (heap_set (heap_set HRU2.out 0 _) 1 _) 2 _) 3 _
    rw [hV]
    have hP := (HPP.out.safe HR.out HBU.out).safe HRU2.out hbv
    have hQ := (HQQ.out.safe HR.out HBU.out).safe HRU2.out hbv
    have hbw := hbv.bel HBW2.out (by omega)
    obtain ⟨z0, z1, z2, z3⟩ := hrv.c4
    exact bodyPost_ret (v := .agg #[.slice (some ⟨ga, 0, none⟩) s.paints.length gc, .int .i64 s.near, .int .i64 s.give, .slice (some ⟨gb, 0, none⟩) s.eats.length gd]) (by simp [results, Try.results11, go_sem, z0, z1, z2, z3]) rfl ⟨_, rfl, ⟨_, _, rfl, hP, hQ⟩, hbw⟩

end Go.Proofs.Ytpkadofgmhninaa
