/- How often each colour is fired, and how many firings there are. -/
import Derived.Test.YtpkadofgmhninaaRf
import Derived.Stop.RegionWithIn
namespace Go.Proofs.Ytpkadofgmhninaa
open Go.RowKit
attribute [local go_sem] Oper.semAt_some

set_option maxRecDepth 100000 in
set_option maxHeartbeats 1000000 in
theorem backward_any (a : Option Addr) (n c : Nat) (w : World) :
    Calls Try.prog 64 #[.slice a n c] w fun e w' => e = .returned (.func (.func 87) #[] #[.pointer (some ⟨w.heap.size, 0, none⟩)]) ∧ w.alloc (.cells #[.slice a n c] 35) = w' := by
  go_enter Try.func64, Try.ntmps64
  go_wp2
  go_ret
  exact ⟨rfl, rfl⟩

set_option maxRecDepth 100000 in
set_option maxHeartbeats 1000000 in
theorem firings1_any (nr gv : Int) (pv ev rv : Value) (s : CSet) (c B : Nat) (w : World) (hp : Paints w pv s.paints) (hc : c < s.paints.length) (h5 : C5 w B pv (.int .i64 nr) (.int .i64 gv) ev rv) :
    Calls Try.prog 67 #[.int .i64 (c : Int), .pointer (some ⟨B, 0, none⟩)] w fun e w' => e = .returned (.int .i64 (s.paint c).coats) ∧ w = w' := by
  obtain ⟨a, cp, rfl, h1, h2, -, h3⟩ := hp
  obtain ⟨c0, c1, c2, c3, c4⟩ := h5
  obtain ⟨b, off, rfl, q0, q1, q2, q3, q4, q5⟩ := h3 c hc
  unfold maxLen at h2
  clear h3
  have hx : (s.paint c).coats = (s.paints.getD c ⟨0, 0, 0, 0, 0, 0⟩).coats := rfl
  have HX := Lib.hid hx
  clear hx
  generalize s.paints.getD c ⟨0, 0, 0, 0, 0, 0⟩ = p at *
  generalize s.paint c = p' at *
  go_enter Try.func67, Try.ntmps67
  go_wp2
  go_ret
  exact ⟨ret_int HX.out.symm, rfl⟩

theorem nodup_le : ∀ (n : Nat) (l : List Nat), l.Nodup → (∀ c, c ∈ l → c < n) → l.length ≤ n
  | 0, [], _, _ => Nat.le_refl _
  | 0, x :: _, _, h => absurd (h x (by simp)) (Nat.not_lt_zero _)
  | n + 1, l, hd, h => by
    by_cases hm : n ∈ l
    · have h1 := nodup_le n (l.erase n) (hd.erase n) (fun c hc => by
        have h2 := (List.Nodup.mem_erase_iff hd).1 hc
        have := h c h2.2
        have := h2.1
        omega)
      rw [List.length_erase_of_mem hm] at h1
      omega
    · have h1 := nodup_le n l hd (fun c hc => by
        have := h c hc
        have : c ≠ n := fun e => hm (e ▸ hc)
        omega)
      omega
theorem PlanOk.flat {n : Nat} {p : Rounds} (h : PlanOk n p) : p.flatten.length ≤ n :=
  nodup_le n _ h.once (fun c hc => by
    obtain ⟨r, hr, hcr⟩ := List.mem_flatten.1 hc
    exact (h.asc r hr).1 c hcr)
theorem len_flat : ∀ (p : Rounds), (∀ r, r ∈ p → r ≠ []) → p.length ≤ p.flatten.length
  | [], _ => Nat.le_refl _
  | r :: p, h => by
    have h1 := len_flat p (fun r' hr' => h r' (by simp [hr']))
    have h2 : r.length ≠ 0 := fun e => h r (by simp) (List.length_eq_zero_iff.1 e)
    simp only [List.length_cons, List.flatten_cons, List.length_append]
    omega
theorem PlanOk.len {n : Nat} {p : Rounds} (h : PlanOk n p) : p.length ≤ n := Nat.le_trans (len_flat p h.some_) h.flat
theorem Cl.len {n : Nat} {l : List Nat} (h : Cl n l) : l.length ≤ n := nodup_le n l h.2 h.1
theorem Asc.len {n : Nat} {l : List Nat} (h : Asc n l) : l.length ≤ n := h.cl.len

theorem foldl_max_map (s : CSet) (l : List Nat) : ∀ m : Int, (l.map fun (c : Nat) => (s.paint c).coats).foldl max m = l.foldl (fun m c => max m (s.paint c).coats) m := by
  induction l with
  | nil => intro m; rfl
  | cons x l ih => intro m; exact ih _
theorem maxOf_most (s : CSet) (l : List Nat) (hne : l ≠ []) (hpos : ∀ c, c ∈ l → 0 ≤ (s.paint c).coats) : maxOf (l.map fun (c : Nat) => (s.paint c).coats) = s.most l := by
  cases l with
  | nil => exact absurd rfl hne
  | cons x l =>
    have := hpos x (by simp)
    unfold maxOf CSet.most
    simp only [List.map_cons, List.drop_succ_cons, List.drop_zero, List.getD_cons_zero, List.foldl_cons]
    rw [foldl_max_map, show max 0 (s.paint x).coats = (s.paint x).coats by omega]

theorem fire_bound (s : CSet) (hs : s.Ok) (p : Rounds) (hp : ∀ r, r ∈ p → ∀ c, c ∈ r → c < s.paints.length) : 0 ≤ (s.fire p).2 ∧ (s.fire p).2 ≤ 3 * p.length := by
  induction p with
  | nil => exact ⟨by simp [CSet.fire], by simp [CSet.fire]⟩
  | cons r p ih =>
    have h1 := ih (fun r' hr' => hp r' (by simp [hr']))
    have h2 : ∀ (l : List Nat) (m : Int), 0 ≤ m → m ≤ 3 → (∀ c, c ∈ l → c < s.paints.length) → 0 ≤ l.foldl (fun m c => max m (s.paint c).coats) m ∧ l.foldl (fun m c => max m (s.paint c).coats) m ≤ 3 := by
      intro l
      induction l with
      | nil => intro m h h' _; exact ⟨h, h'⟩
      | cons x l ih => intro m h h' hl; have := hs.paints x (hl x (by simp)); exact ih (max m (s.paint x).coats) (by omega) (by omega) (fun c hc => hl c (by simp [hc]))
    have h3 := h2 r 0 (by omega) (by omega) (hp r (by simp))
    simp only [CSet.fire, CSet.most, List.length_cons]
    omega

theorem mk0_ints : ∀ w : World, (Instr.makeSlice 32 (.int .i64 (0 : Int)) (.int .i64 (0 : Int))).run Try.prog w = .ok (.slice (some ⟨w.heap.size, 0, none⟩) 0 0) (w.alloc (.cells (Array.replicate 0 (.int .i64 0)) 3)) := fun _ => by kernel_rfl
theorem mk1_ints : ∀ w : World, (Instr.makeSlice 32 (.int .i64 (1 : Int)) (.int .i64 (1 : Int))).run Try.prog w = .ok (.slice (some ⟨w.heap.size, 0, none⟩) 1 1) (w.alloc (.cells (Array.replicate 1 (.int .i64 0)) 3)) := fun _ => by kernel_rfl
theorem mk2_ints : ∀ w : World, (Instr.makeSlice 32 (.int .i64 (2 : Int)) (.int .i64 (2 : Int))).run Try.prog w = .ok (.slice (some ⟨w.heap.size, 0, none⟩) 2 2) (w.alloc (.cells (Array.replicate 2 (.int .i64 0)) 3)) := fun _ => by kernel_rfl
theorem mk3_ints : ∀ w : World, (Instr.makeSlice 32 (.int .i64 (3 : Int)) (.int .i64 (3 : Int))).run Try.prog w = .ok (.slice (some ⟨w.heap.size, 0, none⟩) 3 3) (w.alloc (.cells (Array.replicate 3 (.int .i64 0)) 3)) := fun _ => by kernel_rfl
theorem mk4_ints : ∀ w : World, (Instr.makeSlice 32 (.int .i64 (4 : Int)) (.int .i64 (4 : Int))).run Try.prog w = .ok (.slice (some ⟨w.heap.size, 0, none⟩) 4 4) (w.alloc (.cells (Array.replicate 4 (.int .i64 0)) 3)) := fun _ => by kernel_rfl
theorem mk5_ints : ∀ w : World, (Instr.makeSlice 32 (.int .i64 (5 : Int)) (.int .i64 (5 : Int))).run Try.prog w = .ok (.slice (some ⟨w.heap.size, 0, none⟩) 5 5) (w.alloc (.cells (Array.replicate 5 (.int .i64 0)) 3)) := fun _ => by kernel_rfl
theorem mk_ints (n : Nat) (h : n ≤ 5) (w : World) : (Instr.makeSlice 32 (.int .i64 (n : Int)) (.int .i64 (n : Int))).run Try.prog w = .ok (.slice (some ⟨w.heap.size, 0, none⟩) n n) (w.alloc (.cells (Array.replicate n (.int .i64 0)) 3)) := by
  have this : n = 0 ∨ n = 1 ∨ n = 2 ∨ n = 3 ∨ n = 4 ∨ n = 5 := by omega
  rcases this with rfl | rfl | rfl | rfl | rfl | rfl
  · exact mk0_ints w
  · exact mk1_ints w
  · exact mk2_ints w
  · exact mk3_ints w
  · exact mk4_ints w
  · exact mk5_ints w

/-- All that lay in A lies in B as it lay, but for some blocks. -/
structure ButP (M : Nat → Prop) (A B : World) : Prop where
  os : B.os = A.os
  tape : B.tape = A.tape
  output : B.output = A.output
  size : A.heap.size ≤ B.heap.size
  block : ∀ k, k < A.heap.size → ¬ M k → B.heap[k]? = A.heap[k]?
theorem ButP.refl (M : Nat → Prop) (A : World) : ButP M A A := ⟨rfl, rfl, rfl, Nat.le_refl _, fun _ _ _ => rfl⟩
theorem ButP.trans {M : Nat → Prop} {A B C : World} (h : ButP M A B) (k : ButP M B C) : ButP M A C :=
  ⟨k.os.trans h.os, k.tape.trans h.tape, k.output.trans h.output, Nat.le_trans h.size k.size, fun i hi hm => (k.block i (Nat.lt_of_lt_of_le hi h.size) hm).trans (h.block i hi hm)⟩
theorem Bel.butP {A B : World} (h : Bel A B) (M : Nat → Prop) : ButP M A B := ⟨h.os, h.tape, h.output, h.size, fun k hk _ => h.block k hk⟩
theorem ButP.set (M : Nat → Prop) (m o : Nat) (A : World) (v : Value) (h : M m) : ButP M A (A.setCell ⟨m, o, none⟩ v) :=
  ⟨rfl, rfl, rfl, by simp [World.setCell], fun k _ hm => Below.heap_setCell _ _ _ _ (fun e => hm (by rw [e]; exact h))⟩
theorem ButP.bel {M : Nat → Prop} {w A B : World} (h : Bel w A) (k : ButP M A B) (hm : ∀ i, i < w.heap.size → ¬ M i) : Bel w B :=
  ⟨k.os.trans h.os, k.tape.trans h.tape, k.output.trans h.output, Nat.le_trans h.size k.size, fun i hi => (k.block i (Nat.lt_of_lt_of_le hi h.size) (hm i hi)).trans (h.block i hi)⟩
theorem ButP.keep {M : Nat → Prop} {n : Nat} {A B : World} (h : ButP M A B) (hm : ∀ i, n ≤ i → ¬ M i) : KeepFrom n A B := ⟨h.size, fun k hk hl => h.block k hl (hm k hk)⟩
theorem ButP.boxed {M : Nat → Prop} {A B : World} (h : ButP M A B) {k : Nat} {t : TypeId} {v : Value} (hk : ¬ M k) (hb : Boxed A k t v) : Boxed B k t v := (h.block k hb.lt hk).trans hb
theorem ButP.cell {M : Nat → Prop} {A B : World} (h : ButP M A B) {p : Addr} {v : Value} (hp : ¬ M p.block) (hc : A.cell? p = some v) : B.cell? p = some v :=
  (World.cell?_of_block (w := A) (h.block p.block (lt_of_cell hc) hp)).trans hc
theorem Quiet.frozen {n : Nat} {A B : World} (h : Quiet n A B) {p : Addr} {v : Value} (hc : A.cell? p = some v) (hf : A.frozen? p = false) : B.frozen? p = false := by
  obtain ⟨o, ho, hcs⟩ := cells_of_cell hc
  have := h.same _ _ ho (.inr hcs)
  exact (World.frozen?_of_block (w := A) (this.trans ho.symm)).trans hf
theorem Quiet.c5 {n : Nat} {A B : World} (h : Quiet n A B) {k : Nat} {a b c d e : Value} (hc : C5 A k a b c d e) : C5 B k a b c d e :=
  ⟨h.cell hc.1, h.cell hc.2.1, h.cell hc.2.2.1, h.cell hc.2.2.2.1, h.cell hc.2.2.2.2⟩
theorem ButP.c5 {M : Nat → Prop} {A B : World} (h : ButP M A B) {k : Nat} {a b c d e : Value} (hk : ¬ M k) (hc : C5 A k a b c d e) : C5 B k a b c d e :=
  ⟨h.cell hk hc.1, h.cell hk hc.2.1, h.cell hk hc.2.2.1, h.cell hk hc.2.2.2.1, h.cell hk hc.2.2.2.2⟩

/-- The numbers of each colour, in a row of their own. -/
def Each (W : World) (g n : Nat) (f : Nat → Int) : Prop := ∀ c, c < n → W.cell? ⟨g, c, none⟩ = some (.int .i64 (f c)) ∧ W.frozen? ⟨g, c, none⟩ = false

theorem Each.quiet {n : Nat} {A B : World} (h : Quiet n A B) {g m : Nat} {f : Nat → Int} (he : Each A g m f) : Each B g m f :=
  fun c hc => ⟨h.cell (he c hc).1, h.frozen (he c hc).1 (he c hc).2⟩
theorem Each.bel {A B : World} (h : Bel A B) {g m : Nat} {f : Nat → Int} (he : Each A g m f) : Each B g m f :=
  fun c hc => ⟨h.cell (he c hc).1, h.frozen (he c hc).1 (he c hc).2⟩
theorem Each.set {A : World} {g m : Nat} {f : Nat → Int} (he : Each A g m f) {x : Nat} (hx : x < m) (v : Int) : Each (A.setCell ⟨g, x, none⟩ (.int .i64 v)) g m (fun c => if c = x then v else f c) := by
  intro c hc
  refine ⟨?_, by rw [World.frozen?_setCell]; exact (he c hc).2⟩
  by_cases e : c = x
  · subst e
    rw [World.cell?_setCell_same' _ _ _ (by rw [(he c hx).1]; rfl)]
    simp
  · have hne : (⟨g, x, none⟩ : Addr) ≠ ⟨g, c, none⟩ := by intro h; injection h with _ h2; omega
    rw [World.cell?_setCell_other (h := hne), (he c hc).1]
    simp [e]

set_option maxRecDepth 100000 in
set_option maxHeartbeats 1000000 in
theorem firings_any (s : CSet) (hs : s.Ok) (pv ev rv : Value) (p : Rounds) (w : World) (hf : Fd w pv ev rv s p) (hp : PlanOk s.paints.length p) :
    Calls Try.prog 34 #[.agg #[pv, .int .i64 s.near, .int .i64 s.give, ev, rv]] w fun e w' => ∃ ea eb, e = .returned (.tuple #[.slice (some ⟨ea, 0, none⟩) s.paints.length eb, .int .i64 (s.fire p).2]) ∧ s.paints.length ≤ eb ∧ eb ≤ maxLen ∧ (∀ c, c < s.paints.length → w'.cell? ⟨ea, c, none⟩ = some (.int .i64 ((s.fire p).1 c))) ∧ Bel w w' := by
  obtain ⟨pa, pc, rfl, hp1, hp2, -, -⟩ := hf.paints
  obtain ⟨ra, rc, rfl, hr1, hr2, -, -⟩ := hf.rounds
  obtain ⟨i0, hi, hz0, hz1, hz2⟩ := info_parts Try.info3
  have hn5 := hs.n5
  have m1 : i0.bytes * s.paints.length ≤ 281474976710656 := by rw [hz2]; omega
  have m2 : s.paints.length ≤ maxLen := by unfold maxLen; omega
  unfold maxLen at hp2 hr2
  have hmk := mk_ints s.paints.length hn5
  refine (callsIn_wide (n := 0)).1 (callsIn_of_wp_marks Try.func34 rfl trivial ?_ rfl)
  simp only [Try.ntmps34, List.size_toArray, List.length_cons, List.length_nil, Nat.reduceAdd, Nat.reduceSub, Array.replicate_succ, Array.replicate_zero, List.push_toArray, List.append_toArray, List.nil_append, List.cons_append]
  gi_wp2_with fail
  refine ⟨trivial, rfl, ?_⟩
  obtain ⟨W0, hW0⟩ : ∃ W0, ((((w.alloc (.cells #[.slice pa s.paints.length pc, .int .i64 s.near, .int .i64 s.give, ev, .slice ra (List.length p) rc] 95)).alloc
    (.cells #[.slice (some ⟨w.heap.size + 1 + 1 + 1, 0, none⟩) s.paints.length s.paints.length] 32)).alloc (.cells #[.int .i64 0] 3)).alloc (.cells (Array.replicate s.paints.length (.int .i64 0)) 3)) = W0 := ⟨_, rfl⟩
  rw [hW0]
  have b0 : Bel w W0 := by rw [← hW0]; exact ((((Bel.refl w).alloc _).alloc _).alloc _).alloc _
  have z0 : W0.heap.size = w.heap.size + 4 := by rw [← hW0]; simp
  have c50 : C5 W0 w.heap.size (.slice pa s.paints.length pc) (.int .i64 s.near) (.int .i64 s.give) ev (.slice ra (List.length p) rc) := by
    rw [← hW0]; exact (C5.new w _ _ _ _ _ 95).bel ((((Bel.refl _).alloc _).alloc _).alloc _)
  have x2 : Boxed W0 (w.heap.size + 1) 32 (.slice (some ⟨w.heap.size + 1 + 1 + 1, 0, none⟩) s.paints.length s.paints.length) := by
    rw [← hW0]; have := ((Boxed.new (w.alloc (.cells #[.slice pa s.paints.length pc, .int .i64 s.near, .int .i64 s.give, ev, .slice ra (List.length p) rc] 95)) 32 (.slice (some ⟨w.heap.size + 1 + 1 + 1, 0, none⟩) s.paints.length s.paints.length)).alloc (.cells #[.int .i64 0] 3)).alloc (.cells (Array.replicate s.paints.length (.int .i64 0)) 3)
    rw [World.size_alloc] at this; exact this
  have x3 : Boxed W0 (w.heap.size + 1 + 1) 3 (.int .i64 0) := by
    rw [← hW0]; have := (Boxed.new ((w.alloc (.cells #[.slice pa s.paints.length pc, .int .i64 s.near, .int .i64 s.give, ev, .slice ra (List.length p) rc] 95)).alloc (.cells #[.slice (some ⟨w.heap.size + 1 + 1 + 1, 0, none⟩) s.paints.length s.paints.length] 32)) 3 (.int .i64 0)).alloc (.cells (Array.replicate s.paints.length (.int .i64 0)) 3)
    simp only [World.size_alloc] at this; exact this
  have e4 : Each W0 (w.heap.size + 1 + 1 + 1) s.paints.length (fun _ => 0) := by
    intro c hc
    have h := World.alloc_heap_new (((w.alloc (.cells #[.slice pa s.paints.length pc, .int .i64 s.near, .int .i64 s.give, ev, .slice ra (List.length p) rc] 95)).alloc
      (.cells #[.slice (some ⟨w.heap.size + 1 + 1 + 1, 0, none⟩) s.paints.length s.paints.length] 32)).alloc (.cells #[.int .i64 0] 3)) (.cells (Array.replicate s.paints.length (.int .i64 0)) 3)
    rw [hW0] at h
    simp only [World.size_alloc] at h
    refine ⟨?_, ?_⟩
    · simp only [World.cell?, h]; simp [hc]
    · simp only [World.frozen?, h]; simp
  refine (callsW (backward_any ra (List.length p) rc W0)).mono ?_
  rintro e w1 ⟨rfl, hw1⟩
  have hb1 : Bel W0 w1 := by rw [← hw1]; exact (Bel.refl W0).alloc _
  have x5 : Boxed w1 W0.heap.size 35 (.slice ra (List.length p) rc) := by rw [← hw1]; exact Boxed.new W0 35 _
  have z1 : w1.heap.size = w.heap.size + 5 := by rw [← hw1]; simp; omega
  have hi0 : Bel w w1 ∧ C5 w1 w.heap.size (.slice pa s.paints.length pc) (.int .i64 s.near) (.int .i64 s.give) ev (.slice ra (List.length p) rc) ∧
      Boxed w1 (w.heap.size + 1) 32 (.slice (some ⟨w.heap.size + 1 + 1 + 1, 0, none⟩) s.paints.length s.paints.length) ∧ Boxed w1 (w.heap.size + 1 + 1) 3 (.int .i64 0) ∧ Each w1 (w.heap.size + 1 + 1 + 1) s.paints.length (fun _ => 0) :=
    ⟨b0.trans hb1, c50.bel hb1, hb1.boxed x2, hb1.boxed x3, e4.bel hb1⟩
  clear b0 c50 x2 x3 e4 hW0 hw1 hmk m1 m2
  have HI0 := Lib.hid hi0
  have Z0 := Lib.hid z0
  have Z1 := Lib.hid z1
  clear hi0 z0 z1
  gi_wp2_with fail
  refine rf_outer (gf := 87) (fs := #[]) (lb := #[.pointer (some ⟨W0.heap.size, 0, none⟩)]) rfl (enters_of Try.func87 (by kernel_rfl) rfl) (backward1_seq W0.heap.size (.slice ra (List.length p) rc) p)
    ⟨x5, hf.rounds.bel HI0.out.1⟩ (fun A B h q => ⟨q.boxed h.1, q.rnds h.2⟩) (fun W vs x h => by obtain ⟨_, _, rfl, _⟩ := h; rfl)
    (fun pre W => Bel w W ∧ C5 W w.heap.size (.slice pa s.paints.length pc) (.int .i64 s.near) (.int .i64 s.give) ev (.slice ra (List.length p) rc) ∧
      Boxed W (w.heap.size + 1) 32 (.slice (some ⟨w.heap.size + 1 + 1 + 1, 0, none⟩) s.paints.length s.paints.length) ∧ Boxed W (w.heap.size + 1 + 1) 3 (.int .i64 (s.fire pre.reverse).2) ∧ Each W (w.heap.size + 1 + 1 + 1) s.paints.length (s.fire pre.reverse).1)
    (fun _ _ _ => False)
    (fun pre A B h q => ⟨q.below h.1 (by have := Z1.out; omega), q.c5 h.2.1, q.boxed h.2.2.1, q.boxed h.2.2.2.1, h.2.2.2.2.quiet q⟩)
    (fun _ _ _ _ h _ => h)
    HI0.out ?round ?done ?stop
  case stop =>
    rintro d c pre W _ _ h
    exact h.elim
  case done =>
    rintro d W hd ⟨hb, hc5, h2, h3, h4⟩ ⟨h5, h6⟩ hK
    rw [List.reverse_reverse] at h3 h4
    have hc2 := h2.cell
    have hc3 := h3.cell
    have hf2 := h2.frozen
    have hf3 := h3.frozen
    have HB := Lib.hid hb
    have HX2 := Lib.hid h2
    have HX3 := Lib.hid h3
    have HE := Lib.hid h4
    clear hb hc5 h2 h3 h4 h5 h6
    gi_wp2_with fail
    gi_region
    all_goals
      obtain ⟨V, hV⟩ : ∃ V, ((W.setCell ⟨w.heap.size + 1, 0, none⟩ (.slice (some ⟨w.heap.size + 1 + 1 + 1, 0, none⟩) s.paints.length s.paints.length)).setCell ⟨w.heap.size + 1 + 1, 0, none⟩ (.int .i64 (s.fire p).2)).drew = V := ⟨_, rfl⟩
      have hbt : ButP (fun k => k = w.heap.size + 1 ∨ k = w.heap.size + 1 + 1) W V := by
        rw [← hV]; exact ((ButP.set _ _ _ _ _ (Or.inl rfl)).trans (ButP.set _ _ _ _ _ (Or.inr rfl))).trans (((Bel.refl _).drew).butP _)
      have v2 : Boxed V (w.heap.size + 1) 32 (.slice (some ⟨w.heap.size + 1 + 1 + 1, 0, none⟩) s.paints.length s.paints.length) := by
        rw [← hV]; exact (HX2.out.set _).other (by omega) _
      have v3 : Boxed V (w.heap.size + 1 + 1) 3 (.int .i64 (s.fire p).2) := by
        rw [← hV]; exact (HX3.out.other (by omega) _).set _
      have hbw : Bel w V := hbt.bel HB.out (fun i hi => by omega)
      have hKV : V.heap[d]? = some (.deferred (some [])) := (hbt.block d (Array.getElem?_eq_some_iff.1 hK).1 (by show ¬ (_ ∨ _); have := Z1.out; omega)).trans hK
      have hEV : ∀ c, c < s.paints.length → V.cell? ⟨w.heap.size + 1 + 1 + 1, c, none⟩ = some (.int .i64 ((s.fire p).1 c)) := fun c hc => hbt.cell (by show ¬ (w.heap.size + 1 + 1 + 1 = w.heap.size + 1 ∨ w.heap.size + 1 + 1 + 1 = w.heap.size + 1 + 1); omega) (HE.out c hc).1
      rw [hV]
      clear hV hc2 hc3 hf2 hf3 hbt
      have V2 := Lib.hid v2
      have V3 := Lib.hid v3
      have HBW := Lib.hid hbw
      have HEV := Lib.hid hEV
      clear v2 v3 hbw hEV
      gi_wp2_with fail
      have hq : Quiet w1.heap.size V (V.putObj d (.deferred none)) := Quiet.putObj _ hKV rfl hd
      have c2 := (hq.boxed V2.out).cell
      have c3 := (hq.boxed V3.out).cell
      refine ⟨by simp, .inl ⟨_, _, rfl, run_takeDeferred hKV, ?_⟩⟩
      refine ⟨.tuple #[.slice (some ⟨w.heap.size + 1 + 1 + 1, 0, none⟩) s.paints.length s.paints.length, .int .i64 (s.fire p).2], by simp [results, Try.results34, go_sem, c2, c3], _, _, rfl, Nat.le_refl _, by unfold maxLen; omega, fun c hc => hq.cell (HEV.out c hc), hq.below HBW.out (by have := Z1.out; omega)⟩
  case round =>
    rintro l pre x vs W hl ⟨hb, hc5, h2, h3, h4⟩ ⟨h5, h6⟩ hpre ⟨ii, xv, rfl, hel⟩
    have hxw := hel.cols hf.rounds hb
    have hx := hxw.bel hb
    clear hel
    gi_wp2_with fail
    refine ⟨Bel.refl _, fun W2 q _ _ => ?_⟩
    have hx2 := q.ints hx
    have HX := Lib.hid hx2
    obtain ⟨xa, xc, rfl, q1, q2, -, -⟩ := hx2
    have hb2 := q.below hb (by have := Z1.out; omega)
    have hc52 := q.c5 hc5
    have hx2' := q.boxed h2
    have hx3' := q.boxed h3
    have he4' := h4.quiet q
    have hx5' := q.boxed h5
    clear hb hc5 h2 h3 h4 h5 h6 q hx
    have HB2 := Lib.hid hb2
    have HC5 := Lib.hid hc52
    have HX2 := Lib.hid hx2'
    have HX3 := Lib.hid hx3'
    have HE4 := Lib.hid he4'
    have HX5 := Lib.hid hx5'
    have c3 := hx3'.cell
    have f3 := hx3'.frozen
    simp only [List.length_map] at q1 hxw
    have HXW := Lib.hid hxw
    clear hxw
    clear hb2 hc52 hx2' hx3' he4' hx5'
    have hxm : x ∈ p := by
      have : x ∈ p.reverse := by obtain ⟨t, ht⟩ := hpre; rw [← ht]; simp
      exact List.mem_reverse.1 this
    have hasc := hp.asc x hxm
    have hne := hp.some_ x hxm
    have hl5 : x.length ≤ 5 := Nat.le_trans hasc.len hn5
    have hmx : ∀ W' r, Ints W' r ((x.map fun (c : Nat) => (c : Int)).map fun i => (s.paint i.toNat).coats) → Calls Try.prog 65 #[r] W' fun e w' => e = .returned (.int .i64 (s.most x)) ∧ W' = w' := fun W' r h => by
      have e1 : ((x.map fun (c : Nat) => (c : Int)).map fun i => (s.paint i.toNat).coats) = x.map fun (c : Nat) => (s.paint c).coats := by rw [List.map_map]; rfl
      rw [e1] at h
      have := max_any r _ W' h (by simpa using hne) (fun y hy => by
        obtain ⟨c, hc, rfl⟩ := List.mem_map.1 hy
        have := hs.paints c (hasc.1 c hc); omega)
      rw [maxOf_most s x hne (fun c hc => by have := hs.paints c (hasc.1 c hc); omega)] at this
      exact this
    have hmp : ∀ W', Bel W2 W' → Calls Try.prog 66 #[.slice xa x.length xc, .func (.func 67) #[] #[.pointer (some ⟨w.heap.size, 0, none⟩)]] W' fun e w' => ∃ r, e = .returned r ∧ Ints w' r ((x.map fun (c : Nat) => (c : Int)).map fun i => (s.paint i.toNat).coats) ∧ Bel W' w' := fun W' hW' =>
      mapped_int 67 #[.pointer (some ⟨w.heap.size, 0, none⟩)] (enters_of Try.func67 (by kernel_rfl) rfl) _ _ (fun i => (s.paint i.toNat).coats) W' (by have h := HX.out.bel hW'; rw [List.length_map] at h; exact h) (by simp; omega)
        (fun i hi W'' hW'' => by
          obtain ⟨c, hc, rfl⟩ := List.mem_map.1 hi
          have := firings1_any s.near s.give (.slice pa s.paints.length pc) ev (.slice ra (List.length p) rc) s c w.heap.size W'' (hf.paints.bel ((HB2.out.trans hW').trans hW'')) (hasc.1 c hc) (HC5.out.bel (hW'.trans hW''))
          exact this.mono (fun e w' ⟨he, hw⟩ => ⟨by rw [he]; simp, by rw [← hw]; exact Bel.refl _⟩))
    have C3 := Lib.hid c3
    have F3 := Lib.hid f3
    have HMX := Lib.hid hmx
    have HMP := Lib.hid hmp
    clear hmx hmp
    have hbd := fire_bound s hs pre.reverse (fun r hr => (hp.asc r (by
      have h1 : r ∈ p.reverse := by obtain ⟨t, ht⟩ := hpre; rw [← ht]; simp; exact .inl (by simpa using hr)
      exact List.mem_reverse.1 h1)).1)
    have hmo : 0 ≤ s.most x ∧ s.most x ≤ 3 := by
      have h1 := fire_bound s hs [x] (fun r hr c hc => by simp at hr; subst hr; exact hasc.1 c hc)
      simp [CSet.fire] at h1; omega
    have hpl : pre.reverse.length ≤ 5 := by
      have h1 : (pre ++ [x]).length ≤ p.reverse.length := hpre.length_le
      have h2 := hp.len
      simp at h1 ⊢; omega
    have hfx := Lib.hid (show s.fire (pre ++ [x]).reverse = (fun c => if x.contains c then (s.fire pre.reverse).2 + s.most x else (s.fire pre.reverse).1 c, (s.fire pre.reverse).2 + s.most x) by
      rw [List.reverse_append]; rfl)
    obtain ⟨hb1, hb2⟩ := hbd
    obtain ⟨hm1, hm2⟩ := hmo
    have HXL := Lib.hid hasc
    clear hasc hne
    generalize hfire : s.fire pre.reverse = F at *
    have HF0 := Lib.hid hfire
    clear hfire
    generalize s.most x = M at *
    have hwr : IntKind.i64.wrap (F.2 + M) = F.2 + M := by rw [IntKind.wrap_i64]; omega
    gi_wp2_with fail
    gi_region_with (first | (refine ⟨trivial, rfl, ?_⟩; refine (CallsIn.inRound l (callsW (HMP.out W2.drew ((Bel.refl W2).drew)))).mono ?_; rintro e w2 ⟨r, rfl, hr2, hb2⟩; have HR2 := Lib.hid hr2; have HBB := Lib.hid (((Bel.refl W2).drew).trans hb2); have c3b := HBB.out.cell C3.out; have f3b := HBB.out.frozen C3.out F3.out; clear hr2 hb2) | (refine ⟨trivial, rfl, ?_⟩; refine (CallsIn.inRound l (callsW (HMX.out _ _ HR2.out))).mono ?_; rintro e w3 ⟨rfl, rfl⟩))
    all_goals
      have hbp : ButP (fun k => k = w.heap.size + 1 + 1 ∨ k = w.heap.size + 1 + 1 + 1) W2 (w2.setCell ⟨w.heap.size + 1 + 1, 0, none⟩ (.int .i64 (F.2 + M))) := (HBB.out.butP _).trans (ButP.set _ _ _ _ _ (.inl rfl))
      have hn3 := (HBB.out.boxed HX3.out).set (.int .i64 (F.2 + M))
      have hn4 : Each (w2.setCell ⟨w.heap.size + 1 + 1, 0, none⟩ (.int .i64 (F.2 + M))) (w.heap.size + 1 + 1 + 1) s.paints.length F.1 := fun c hc => by
        have h := HE4.out.bel HBB.out c hc
        have hne : (⟨w.heap.size + 1 + 1, 0, none⟩ : Addr) ≠ ⟨w.heap.size + 1 + 1 + 1, c, none⟩ := by intro h; injection h with h2; omega
        exact ⟨by rw [World.cell?_setCell_other (h := hne)]; exact h.1, by rw [World.frozen?_setCell]; exact h.2⟩
      clear c3b f3b c3 f3
      have HBP := Lib.hid hbp
      have HN3 := Lib.hid hn3
      have HN4 := Lib.hid hn4
      clear hbp hn3 hn4 HBB HR2 HMX HMP
      generalize w2.setCell ⟨w.heap.size + 1 + 1, 0, none⟩ (.int .i64 (F.2 + M)) = W3 at *
      gi_wp2_with fail
      gi_loopw [26] (fun i wr => ∃ j : Nat, j ≤ x.length ∧ i = .int .i64 j ∧ ButP (fun k => k = w.heap.size + 1 + 1 ∨ k = w.heap.size + 1 + 1 + 1) W2 wr ∧ Boxed wr (w.heap.size + 1 + 1) 3 (.int .i64 (F.2 + M)) ∧
        Each wr (w.heap.size + 1 + 1 + 1) s.paints.length (fun c => if (x.take j).contains c then F.2 + M else F.1 c)) (fun i _ => x.length - (intOf i).toNat)
      case atStart => exact ⟨0, Nat.zero_le _, rfl, HBP.out, HN3.out, by simpa using HN4.out⟩
      case round =>
        obtain ⟨j, hj, rfl, hbp, hn3, hn4⟩ := hrel
        have HBP2 := Lib.hid hbp
        have HN32 := Lib.hid hn3
        have HN42 := Lib.hid hn4
        by_cases hlt : j < x.length
        · have hxr : Cols wr (.slice xa x.length xc) x := HXW.out.bel (hbp.bel HB2.out (fun i hi => by omega))
          obtain ⟨xa', xc', e1, _, _, _, h3⟩ := hxr
          rw [List.length_map] at e1
          injection e1 with e1 e2 e3
          subst e1
          obtain ⟨b, off, rfl, hcell⟩ := h3 j (by simpa using hlt)
          rw [getD_map _ _ hlt] at hcell
          have hc2 := (hbp.boxed (by omega) HX2.out).cell
          have hc3 := hn3.cell
          have hy : x.getD j 0 < s.paints.length := by rw [getD_lt _ _ _ hlt]; exact HXL.out.1 _ (List.getElem_mem hlt)
          obtain ⟨e4, f4⟩ := hn4 _ hy
          have hset := HN42.out.set hy (F.2 + M)
          have hts := take_snocN x j hlt
          have HSET := Lib.hid hset
          have HTS := Lib.hid hts
          clear hbp hn3 hn4 h3 hset hts
          generalize x.getD j 0 = y at *
          gi_wp2_with fail
          go_roundw
          case rel =>
            refine ⟨j + 1, by omega, by go_num, HBP2.out.trans (ButP.set _ _ _ _ _ (.inr rfl)), ?_, ?_⟩
            · have : w.heap.size + 1 + 1 ≠ w.heap.size + 1 + 1 + 1 := by omega
              exact (But.set _ _ _ _).boxed this HN32.out
            · refine fun c hc => ?_
              have h := HSET.out c hc
              rw [HTS.out]
              refine ⟨?_, h.2⟩
              rw [h.1]
              by_cases e : c = y
              · simp [e]
              · simp [e]
          case measure => simp [intOf]; omega
        · have hjl : x.take j = x := List.take_of_length_le (by omega)
          have HJL := Lib.hid hjl
          clear hbp hn3 hn4 hjl
          gi_wp2_with fail
          have hbw : Bel w wr := HBP2.out.bel HB2.out (fun i hi => by omega)
          refine ⟨⟨HBP2.out.boxed (by have := Z0.out; omega) HX5.out, hf.rounds.bel hbw⟩, HBP2.out.keep (fun i hi => by have := Z1.out; omega), hbw, HBP2.out.c5 (by omega) HC5.out, HBP2.out.boxed (by omega) HX2.out, ?_, ?_⟩
          · rw [hfx.out]; exact HN32.out
          · have h := HN42.out
            rw [HJL.out] at h
            rw [hfx.out]; exact h

end Go.Proofs.Ytpkadofgmhninaa
