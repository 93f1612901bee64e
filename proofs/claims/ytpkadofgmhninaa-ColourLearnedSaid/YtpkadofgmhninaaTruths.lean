/- What is left of heats and stretches if all plans were right. -/
import Derived.Test.YtpkadofgmhninaaGapsOf
import Derived.Test.YtpkadofgmhninaaHold
import Derived.Test.YtpkadofgmhninaaSettle
import Derived.Test.YtpkadofgmhninaaGSpans
namespace Go.Proofs.Ytpkadofgmhninaa
open Go.RowKit
attribute [local go_sem] Oper.semAt_some
attribute [local irreducible] CSet.gat CSet.settle CSet.settled CSet.hold CSet.gapsOf

def Stopped (p : Prop) : Prop := p
theorem stop_store89 {F : Fence} {n : Nat} {ops : Array Oper} {rest : List Oper} {ty : TypeId} {pos : String} {after : Array Edge} {a : Act} {w : World} {Q : Exit → Act → World → Prop} (x : Tmp) (y : Operand)
    (h : Stopped (wpListIn F n Try.prog ops Q ({ dst := none, op := .store 89 (.tmp x) y, type := ty, pos := pos, after := after, guard := none } :: rest) a w)) : wpListIn F n Try.prog ops Q ({ dst := none, op := .store 89 (.tmp x) y, type := ty, pos := pos, after := after, guard := none } :: rest) a w := h
theorem stop_load89 {F : Fence} {n : Nat} {ops : Array Oper} {rest : List Oper} {dst : Option Tmp} {ty : TypeId} {pos : String} {after : Array Edge} {a : Act} {w : World} {Q : Exit → Act → World → Prop} (x : Tmp)
    (h : Stopped (wpListIn F n Try.prog ops Q ({ dst := dst, op := .load 89 (.tmp x), type := ty, pos := pos, after := after, guard := none } :: rest) a w)) : wpListIn F n Try.prog ops Q ({ dst := dst, op := .load 89 (.tmp x), type := ty, pos := pos, after := after, guard := none } :: rest) a w := h
theorem run_two_res {W : World} {B1 B2 : Nat} {g1 g2 : List Int} (h1 : GapsW W B1 g1) (h2 : GapsW W B2 g2) (b : Value) :
    ((Sem.run Try.prog (asAddr (.pointer (some ⟨B1, 0, none⟩))) W).andThen fun a w' => (Sem.run Try.prog (loadVar 89 a) w').andThen fun a w' =>
      (Sem.run Try.prog (asAddr (.pointer (some ⟨B2, 0, none⟩))) w').andThen fun a_1 w' => (Sem.run Try.prog (loadVar 89 a_1) w').andThen fun a_2 w' => Result.ok (Value.tuple #[a, a_2, b]) w') = .ok (.tuple #[gv g1, gv g2, b]) W := by
  simp only [asAddr, Sem.run_pure, Result.andThen_ok, run_load89 _ _ _ h1, run_load89 _ _ _ h2]
def zeroG : List Int := [0, 0, 0, 0, 0, 0, 0, 0, 0, 0, 0, 0, 0, 0, 0, 0, 0, 0, 0, 0, 0, 0, 0, 0, 0, 0, 0, 0, 0, 0, 0, 0, 0, 0, 0, 0]
theorem zeroG_len : zeroG.length = 36 := rfl
theorem zero_gv : Value.agg #[.int .i64 0, .int .i64 0, .int .i64 0, .int .i64 0, .int .i64 0, .int .i64 0, .int .i64 0, .int .i64 0, .int .i64 0, .int .i64 0, .int .i64 0, .int .i64 0, .int .i64 0, .int .i64 0, .int .i64 0, .int .i64 0, .int .i64 0, .int .i64 0, .int .i64 0, .int .i64 0, .int .i64 0, .int .i64 0, .int .i64 0, .int .i64 0, .int .i64 0, .int .i64 0, .int .i64 0, .int .i64 0, .int .i64 0, .int .i64 0, .int .i64 0, .int .i64 0, .int .i64 0, .int .i64 0, .int .i64 0, .int .i64 0] = gv zeroG := rfl
theorem spans_sl {W : World} {v : Value} {n : Nat} {lo hi : Nat → Int} (h : Spans W v n lo hi) : ∃ a c, v = .slice a n c := by
  obtain ⟨a, c, e, _⟩ := h; exact ⟨a, c, e⟩
theorem c5_but {m : Nat} {A B : World} {k : Nat} {a b c d e : Value} (q : But m A B) (hm : k ≠ m) (h : C5 A k a b c d e) : C5 B k a b c d e :=
  ⟨q.cell hm h.1, q.cell hm h.2.1, q.cell hm h.2.2.1, q.cell hm h.2.2.2.1, q.cell hm h.2.2.2.2⟩

/-- Gaps after the first k of some plans. -/
def heatTo (s : CSet) (ps : List Rounds) (k : Nat) : List Int := (ps.take k).foldl (fun g p => CSet.hold g (s.heatTies p)) s.heat0
def stretchTo (s : CSet) (ps : List Rounds) (k : Nat) : List Int := (ps.take k).foldl (fun g p => CSet.hold g (s.stretchTies p)) s.stretch0
theorem heatTo_succ (s : CSet) (ps : List Rounds) (k : Nat) (hk : k < ps.length) : heatTo s ps (k + 1) = CSet.hold (heatTo s ps k) (s.heatTies (ps.getD k [])) := by
  unfold heatTo; rw [List.take_succ_eq_append_getElem hk, List.foldl_append, getD_lt _ _ _ hk]; rfl
theorem stretchTo_succ (s : CSet) (ps : List Rounds) (k : Nat) (hk : k < ps.length) : stretchTo s ps (k + 1) = CSet.hold (stretchTo s ps k) (s.stretchTies (ps.getD k [])) := by
  unfold stretchTo; rw [List.take_succ_eq_append_getElem hk, List.foldl_append, getD_lt _ _ _ hk]; rfl
theorem heatG_eq (s : CSet) (ps : List Rounds) : s.heatG ps = CSet.settle (heatTo s ps ps.length) := by unfold heatTo CSet.heatG; rw [List.take_length]
theorem stretchG_eq (s : CSet) (ps : List Rounds) : s.stretchG ps = CSet.settle (stretchTo s ps ps.length) := by unfold stretchTo CSet.stretchG; rw [List.take_length]
theorem heatTies_by (s : CSet) (hs : s.Ok) (p : Rounds) : ∀ t, t ∈ s.heatTies p → -1000 ≤ t.by_ := by
  intro t ht
  unfold CSet.heatTies CSet.heatTiesOf CSet.heatTiesAt at ht
  simp only [List.mem_flatMap, List.mem_append, List.mem_map, List.mem_filter] at ht
  have := hs.near0
  obtain ⟨i, _, c, hc, ⟨o, _, rfl⟩ | ⟨o, ho, rfl⟩⟩ := ht
  · show -1000 ≤ s.near; omega
  · show (-1000 : Int) ≤ -1; omega
theorem stretchTies_by (s : CSet) (hs : s.Ok) (p : Rounds) : ∀ t, t ∈ s.stretchTies p → -1000 ≤ t.by_ := by
  intro t ht
  unfold CSet.stretchTies CSet.stretchTiesOf at ht
  simp only [List.mem_flatMap, List.mem_cons, List.not_mem_nil, or_false] at ht
  have := hs.give0
  obtain ⟨i, _, u, hu, o, ho, rfl | rfl⟩ := ht <;> (show -1000 ≤ s.give; omega)
theorem heatTo_in (s : CSet) (hs : s.Ok) (ps : List Rounds) (hp : ∀ p, p ∈ ps → PlanOk s.paints.length p) : ∀ k, k ≤ ps.length → (heatTo s ps k).length = 36 ∧ CSet.Within (-1000) 1000 (heatTo s ps k)
  | 0, _ => ⟨CSet.gapsOf_len _ _ _, CSet.within_gapsOf (fun c hc => by have := hs.paints c hc; omega) (by omega)⟩
  | k + 1, hk => by
    obtain ⟨h1, h2⟩ := heatTo_in s hs ps hp k (by omega)
    rw [heatTo_succ s ps k (by omega)]
    have hpk := hp (ps.getD k []) (by rw [getD_lt _ _ _ (by omega)]; exact List.getElem_mem _)
    have hn5 := hs.n5
    refine ⟨by rw [CSet.hold_len]; exact h1, h2.hold _ h1 (fun t ht => ?_)⟩
    have := heatTies_lt s hpk t ht
    exact ⟨by omega, by omega, heatTies_by s hs _ t ht⟩
theorem stretchTo_in (s : CSet) (hs : s.Ok) (ps : List Rounds) (hp : ∀ p, p ∈ ps → PlanOk s.paints.length p) : ∀ k, k ≤ ps.length → (stretchTo s ps k).length = 36 ∧ CSet.Within (-1000) 1000 (stretchTo s ps k)
  | 0, _ => ⟨CSet.gapsOf_len _ _ _, CSet.within_gapsOf (fun c hc => by have := hs.paints c hc; omega) (by omega)⟩
  | k + 1, hk => by
    obtain ⟨h1, h2⟩ := stretchTo_in s hs ps hp k (by omega)
    rw [stretchTo_succ s ps k (by omega)]
    have hpk := hp (ps.getD k []) (by rw [getD_lt _ _ _ (by omega)]; exact List.getElem_mem _)
    have hn5 := hs.n5
    refine ⟨by rw [CSet.hold_len]; exact h1, h2.hold _ h1 (fun t ht => ?_)⟩
    have := stretchTies_lt s hpk t ht
    exact ⟨by omega, by omega, stretchTies_by s hs _ t ht⟩
theorem within_mono {a b c d : Int} {g : List Int} (h : CSet.Within a b g) (h1 : c ≤ a) (h2 : b ≤ d) : CSet.Within c d g := fun x y hx hy => by
  have := h x y hx hy; omega

/-- What truths comes to. -/
def TruthR (s : CSet) (ps : List Rounds) (w : World) (e : Ending) (w' : World) : Prop :=
  ∃ hg sg, e = .returned (.tuple #[gv hg, gv sg, .bool (s.truly ps)]) ∧ hg.length = 36 ∧ sg.length = 36 ∧ (s.truly ps = true → hg = s.heatG ps ∧ sg = s.stretchG ps) ∧ Bel w w'

set_option maxRecDepth 100000 in
set_option maxHeartbeats 8000000 in
theorem truths_any (s : CSet) (hs : s.Ok) (pv ev lv : Value) (ps : List Rounds) (w : World) (hpv : Paints w pv s.paints) (hev : Pairs w ev s.eats) (hlv : Plns w lv ps) (hp : ∀ p, p ∈ ps → PlanOk s.paints.length p) :
    Calls Try.prog 31 #[.agg #[pv, .int .i64 s.near, .int .i64 s.give, ev, lv]] w (TruthR s ps w) := by
  have hn1 := hs.n1
  have hn5 := hs.n5
  have k2 := fun W (hW : Bel w W) => heatsOf_any s (.agg #[pv, .int .i64 s.near, .int .i64 s.give, ev]) W ⟨pv, ev, rfl, hpv.bel hW, hev.bel hW⟩ hn5
  have k3 := fun W (hW : Bel w W) => stretchesOf_any s (.agg #[pv, .int .i64 s.near, .int .i64 s.give, ev]) W ⟨pv, ev, rfl, hpv.bel hW, hev.bel hW⟩ hn5
  have kh := fun W sv (h : Spans W sv s.paints.length (fun i => (s.paint i).hl) (fun i => (s.paint i).hh)) => gapsOf_any sv s.paints.length _ _ W h hn1 hn5 (fun i hi => by have := hs.paints i hi; omega)
  have ks := fun W sv (h : Spans W sv s.paints.length (fun i => (s.paint i).sl) (fun i => (s.paint i).sh)) => gapsOf_any sv s.paints.length _ _ W h hn1 hn5 (fun i hi => by have := hs.paints i hi; omega)
  have kl := fun W (hW : Bel w W) rv p (hr : Rnds W rv p) (hpp : PlanOk s.paints.length p) => lasts_any s hs pv ev rv p W ⟨hpv.bel hW, hev.bel hW, hr⟩ hpp
  have kth := fun rv p (hr : Rnds w rv p) (hpp : PlanOk s.paints.length p) B g W (hG : GapsW W B g) (hW : Bel w W) (hB : w.heap.size ≤ B) => hold_any w 60 #[.agg #[pv, .int .i64 s.near, .int .i64 s.give, ev, rv]] (enters_of Try.func60 (by kernel_rfl) rfl) B g (s.heatTies p) W
    (heatTies_seq s hs pv ev rv p hpp w ⟨hpv, hev, hr⟩) hG hW.cells hB (fun t ht => by have := heatTies_lt s hpp t ht; omega)
  have kts := fun rv p (hr : Rnds w rv p) (hpp : PlanOk s.paints.length p) B g W (hG : GapsW W B g) (hW : Bel w W) (hB : w.heap.size ≤ B) => hold_any w 61 #[.agg #[pv, .int .i64 s.near, .int .i64 s.give, ev, rv]] (enters_of Try.func61 (by kernel_rfl) rfl) B g (s.stretchTies p) W
    (stretchTies_seq s hs pv ev rv p hpp w ⟨hpv, hev, hr⟩) hG hW.cells hB (fun t ht => by have := stretchTies_lt s hpp t ht; omega)
  have khi := heatTo_in s hs ps hp
  have ksi := stretchTo_in s hs ps hp
  obtain ⟨pa, pc, rfl, -, -, -, -⟩ := hpv
  obtain ⟨ea, ec, rfl, -, -, -, -⟩ := hev
  obtain ⟨la, lc, lx, rfl, hl1, hl2, -, hl3⟩ := hlv
  unfold maxLen at hl2
  have K2 := Lib.hid k2
  have K3 := Lib.hid k3
  have KH0 := Lib.hid kh
  have KS0 := Lib.hid ks
  have KL := Lib.hid kl
  have KTH := Lib.hid kth
  have KTS := Lib.hid kts
  have KHI := Lib.hid khi
  have KSI := Lib.hid ksi
  have HL3 := Lib.hid hl3
  have HP := Lib.hid hp
  clear k2 k3 kh ks kl kth kts khi ksi hl3 hs hp
  have hH0 : s.heat0 = CSet.gapsOf s.paints.length (fun i => (s.paint i).hl) (fun i => (s.paint i).hh) := rfl
  have hS0 : s.stretch0 = CSet.gapsOf s.paints.length (fun i => (s.paint i).sl) (fun i => (s.paint i).sh) := rfl
  have hT0 : heatTo s ps 0 = s.heat0 := rfl
  have hT1 : stretchTo s ps 0 = s.stretch0 := rfl
  rw [← hH0] at KH0
  rw [← hS0] at KS0
  have hl0 : s.heat0.length = 36 := by rw [← hT0]; exact (KHI.out 0 (by omega)).1
  have hl1' : s.stretch0.length = 36 := by rw [← hT1]; exact (KSI.out 0 (by omega)).1
  generalize s.heat0 = H0 at *
  generalize s.stretch0 = S0 at *
  have KH : Hid (∀ W sv, Spans W sv s.paints.length (fun i => (s.paint i).hl) (fun i => (s.paint i).hh) → Calls Try.prog 55 #[sv] W fun e w' => e = .returned (gv H0) ∧ Bel W w') := Lib.hid KH0.out
  have KS : Hid (∀ W sv, Spans W sv s.paints.length (fun i => (s.paint i).sl) (fun i => (s.paint i).sh) → Calls Try.prog 55 #[sv] W fun e w' => e = .returned (gv S0) ∧ Bel W w') := Lib.hid KS0.out
  have L0 := Lib.hid hl0
  have L1 := Lib.hid hl1'
  have T0 := Lib.hid hT0
  have T1 := Lib.hid hT1
  clear hH0 hS0 KH0 KS0 hl0 hl1' hT0 hT1
  obtain ⟨W0, hW0⟩ : ∃ W0, ((w.alloc (.cells #[.slice pa s.paints.length pc, .int .i64 s.near, .int .i64 s.give, .slice ea s.eats.length ec, .slice la ps.length lc] 92)).alloc (.cells zeros36.toArray 89)).alloc (.cells zeros36.toArray 89) = W0 := ⟨_, rfl⟩
  have hfacts : C5 W0 w.heap.size (.slice pa s.paints.length pc) (.int .i64 s.near) (.int .i64 s.give) (.slice ea s.eats.length ec) (.slice la ps.length lc) ∧ W0.heap[w.heap.size + 1]? = some (.cells zeros36.toArray 89 (0, 0)) ∧ W0.heap[w.heap.size + 1 + 1]? = some (.cells zeros36.toArray 89 (0, 0)) ∧ Bel w W0 := by
    subst hW0
    have e1 := C5.new w (.slice pa s.paints.length pc) (.int .i64 s.near) (.int .i64 s.give) (.slice ea s.eats.length ec) (.slice la ps.length lc) 92
    have e2 := World.alloc_heap_new (w.alloc (.cells #[.slice pa s.paints.length pc, .int .i64 s.near, .int .i64 s.give, .slice ea s.eats.length ec, .slice la ps.length lc] 92)) (.cells zeros36.toArray 89)
    have e3 := World.alloc_heap_new ((w.alloc (.cells #[.slice pa s.paints.length pc, .int .i64 s.near, .int .i64 s.give, .slice ea s.eats.length ec, .slice la ps.length lc] 92)).alloc (.cells zeros36.toArray 89)) (.cells zeros36.toArray 89)
    rw [World.size_alloc] at e2
    rw [World.size_alloc, World.size_alloc] at e3
    exact ⟨(e1.bel ((Bel.refl _).alloc _)).bel ((Bel.refl _).alloc _), (Below.heap_alloc _ _ _ (by simp)).trans e2, e3, (((Bel.refl w).alloc _).alloc _).alloc _⟩
  obtain ⟨f0, f1, f2, b0⟩ := hfacts
  have C50 := Lib.hid f0
  have Z1 := Lib.hid f1
  have Z2 := Lib.hid f2
  have B0 := Lib.hid b0
  have HW0 := Lib.hid hW0
  clear f0 f1 f2 b0 hW0
  refine (callsIn_wide (n := 0)).1 (callsIn_of_wp Try.func31 rfl trivial ?_ rfl)
  simp only [Try.ntmps31, List.size_toArray, List.length_cons, List.length_nil, Nat.reduceAdd, Nat.reduceSub, Array.replicate_succ, Array.replicate_zero, List.push_toArray, List.append_toArray, List.nil_append, List.cons_append]
  gi_wp2_with fail
  rw [show ((w.alloc (.cells #[.slice pa s.paints.length pc, .int .i64 s.near, .int .i64 s.give, .slice ea s.eats.length ec, .slice la ps.length lc] 92)).alloc (.cells #[.int .i64 0, .int .i64 0, .int .i64 0, .int .i64 0, .int .i64 0, .int .i64 0, .int .i64 0, .int .i64 0, .int .i64 0, .int .i64 0, .int .i64 0, .int .i64 0, .int .i64 0, .int .i64 0, .int .i64 0, .int .i64 0, .int .i64 0, .int .i64 0, .int .i64 0, .int .i64 0, .int .i64 0, .int .i64 0, .int .i64 0, .int .i64 0, .int .i64 0, .int .i64 0, .int .i64 0, .int .i64 0, .int .i64 0, .int .i64 0, .int .i64 0, .int .i64 0, .int .i64 0, .int .i64 0, .int .i64 0, .int .i64 0] 89)).alloc (.cells #[.int .i64 0, .int .i64 0, .int .i64 0, .int .i64 0, .int .i64 0, .int .i64 0, .int .i64 0, .int .i64 0, .int .i64 0, .int .i64 0, .int .i64 0, .int .i64 0, .int .i64 0, .int .i64 0, .int .i64 0, .int .i64 0, .int .i64 0, .int .i64 0, .int .i64 0, .int .i64 0, .int .i64 0, .int .i64 0, .int .i64 0, .int .i64 0, .int .i64 0, .int .i64 0, .int .i64 0, .int .i64 0, .int .i64 0, .int .i64 0, .int .i64 0, .int .i64 0, .int .i64 0, .int .i64 0, .int .i64 0, .int .i64 0] 89) = W0 from HW0.out]
  refine region_tail 8 (fun i v W => match i with
    | 0 => v = .pointer (some ⟨w.heap.size, 0, none⟩)
    | 1 => v = .agg #[.slice pa s.paints.length pc, .int .i64 s.near, .int .i64 s.give, .slice ea s.eats.length ec]
    | 2 => Spans W v s.paints.length (fun i => (s.paint i).hl) (fun i => (s.paint i).hh)
    | 3 => v = gv H0
    | 4 => v = .pointer (some ⟨w.heap.size, 0, none⟩)
    | 5 => v = .agg #[.slice pa s.paints.length pc, .int .i64 s.near, .int .i64 s.give, .slice ea s.eats.length ec]
    | 6 => Spans W v s.paints.length (fun i => (s.paint i).sl) (fun i => (s.paint i).sh)
    | 7 => v = gv S0
    | _ => True) (by kernel_rfl) (by kernel_rfl) (by kernel_rfl) (by kernel_rfl) ?_ ?_ ?_
  · intro i v W W' h hb
    split at h <;> first | exact h | exact h.bel hb | exact fun e => (h e).bel hb | exact ⟨h.1.bel hb, h.2⟩
  · refine ⟨?_, ?_, ?_, ?_, ?_, ?_, ?_, ?_, trivial⟩
    · refine growOp_k ?_; intro vs W hW hd K HK
      clear hd
      simp only [putAll, Act.put, List.setIfInBounds_toArray, List.set_cons_succ, List.set_cons_zero, Nat.reduceAdd, Nat.zero_add]
      gi_wp2_with fail
      refine HK.out _ _ ?_ ?_ ?_
      · simp only [putAll, Act.put, List.setIfInBounds_toArray, List.set_cons_succ, List.set_cons_zero, Nat.reduceAdd, Nat.zero_add] <;> kernel_rfl
      · rfl
      · exact Bel.refl _
    · refine growOp_k ?_; intro vs W hW hd K HK
      have h0 : (vs 0) = .pointer (some ⟨w.heap.size, 0, none⟩) := hd 0 (by decide)
      clear hd
      obtain ⟨c0, c1, c2, c3, c4⟩ := C50.out.bel hW
      simp only [putAll, Act.put, List.setIfInBounds_toArray, List.set_cons_succ, List.set_cons_zero, Nat.reduceAdd, Nat.zero_add, h0]
      gi_wp2_with fail
      refine HK.out _ _ ?_ ?_ ?_
      · simp only [putAll, Act.put, List.setIfInBounds_toArray, List.set_cons_succ, List.set_cons_zero, Nat.reduceAdd, Nat.zero_add, h0] <;> kernel_rfl
      · rfl
      · exact Bel.refl _
    · refine growOp_k ?_; intro vs W hW hd K HK
      have h1 : (vs 1) = .agg #[.slice pa s.paints.length pc, .int .i64 s.near, .int .i64 s.give, .slice ea s.eats.length ec] := hd 1 (by decide)
      clear hd
      simp only [putAll, Act.put, List.setIfInBounds_toArray, List.set_cons_succ, List.set_cons_zero, Nat.reduceAdd, Nat.zero_add, h1]
      gi_wp2_with fail
      refine ⟨trivial, rfl, (callsW (K2.out W (B0.out.trans hW))).mono ?_⟩
      rintro e w1 ⟨r, rfl, hr, hb⟩
      gi_wp2_with fail
      refine HK.out _ _ ?_ ?_ ?_
      · simp only [putAll, Act.put, List.setIfInBounds_toArray, List.set_cons_succ, List.set_cons_zero, Nat.reduceAdd, Nat.zero_add, h1] <;> kernel_rfl
      · exact hr
      · exact hb
    · refine growOp_k ?_; intro vs W hW hd K HK
      have h2 : Spans W (vs 2) s.paints.length (fun i => (s.paint i).hl) (fun i => (s.paint i).hh) := hd 2 (by decide)
      clear hd
      have H2 := Lib.hid h2
      obtain ⟨sa, sc, e2⟩ := spans_sl h2
      rw [e2] at H2
      simp only [putAll, Act.put, List.setIfInBounds_toArray, List.set_cons_succ, List.set_cons_zero, Nat.reduceAdd, Nat.zero_add, e2]
      gi_wp2_with fail
      refine ⟨trivial, rfl, (callsW (KH.out W _ H2.out)).mono ?_⟩
      rintro e w1 ⟨rfl, hb⟩
      gi_wp2_with fail
      refine HK.out _ _ ?_ ?_ ?_
      · simp only [putAll, Act.put, List.setIfInBounds_toArray, List.set_cons_succ, List.set_cons_zero, Nat.reduceAdd, Nat.zero_add, e2] <;> kernel_rfl
      · rfl
      · exact hb
    · refine growOp_k ?_; intro vs W hW hd K HK
      clear hd
      simp only [putAll, Act.put, List.setIfInBounds_toArray, List.set_cons_succ, List.set_cons_zero, Nat.reduceAdd, Nat.zero_add]
      gi_wp2_with fail
      refine HK.out _ _ ?_ ?_ ?_
      · simp only [putAll, Act.put, List.setIfInBounds_toArray, List.set_cons_succ, List.set_cons_zero, Nat.reduceAdd, Nat.zero_add] <;> kernel_rfl
      · rfl
      · exact Bel.refl _
    · refine growOp_k ?_; intro vs W hW hd K HK
      have h4 : (vs 4) = .pointer (some ⟨w.heap.size, 0, none⟩) := hd 4 (by decide)
      clear hd
      obtain ⟨c0, c1, c2, c3, c4⟩ := C50.out.bel hW
      simp only [putAll, Act.put, List.setIfInBounds_toArray, List.set_cons_succ, List.set_cons_zero, Nat.reduceAdd, Nat.zero_add, h4]
      gi_wp2_with fail
      refine HK.out _ _ ?_ ?_ ?_
      · simp only [putAll, Act.put, List.setIfInBounds_toArray, List.set_cons_succ, List.set_cons_zero, Nat.reduceAdd, Nat.zero_add, h4] <;> kernel_rfl
      · rfl
      · exact Bel.refl _
    · refine growOp_k ?_; intro vs W hW hd K HK
      have h5 : (vs 5) = .agg #[.slice pa s.paints.length pc, .int .i64 s.near, .int .i64 s.give, .slice ea s.eats.length ec] := hd 5 (by decide)
      clear hd
      simp only [putAll, Act.put, List.setIfInBounds_toArray, List.set_cons_succ, List.set_cons_zero, Nat.reduceAdd, Nat.zero_add, h5]
      gi_wp2_with fail
      refine ⟨trivial, rfl, (callsW (K3.out W (B0.out.trans hW))).mono ?_⟩
      rintro e w1 ⟨r, rfl, hr, hb⟩
      gi_wp2_with fail
      refine HK.out _ _ ?_ ?_ ?_
      · simp only [putAll, Act.put, List.setIfInBounds_toArray, List.set_cons_succ, List.set_cons_zero, Nat.reduceAdd, Nat.zero_add, h5] <;> kernel_rfl
      · exact hr
      · exact hb
    · refine growOp_k ?_; intro vs W hW hd K HK
      have h6 : Spans W (vs 6) s.paints.length (fun i => (s.paint i).sl) (fun i => (s.paint i).sh) := hd 6 (by decide)
      clear hd
      have H2 := Lib.hid h6
      obtain ⟨sa, sc, e2⟩ := spans_sl h6
      rw [e2] at H2
      simp only [putAll, Act.put, List.setIfInBounds_toArray, List.set_cons_succ, List.set_cons_zero, Nat.reduceAdd, Nat.zero_add, e2]
      gi_wp2_with fail
      refine ⟨trivial, rfl, (callsW (KS.out W _ H2.out)).mono ?_⟩
      rintro e w1 ⟨rfl, hb⟩
      gi_wp2_with fail
      refine HK.out _ _ ?_ ?_ ?_
      · simp only [putAll, Act.put, List.setIfInBounds_toArray, List.set_cons_succ, List.set_cons_zero, Nat.reduceAdd, Nat.zero_add, e2] <;> kernel_rfl
      · rfl
      · exact hb
  · intro vs W hW hall
    have g3 : vs 3 = gv H0 := hall 3 (by decide)
    have g7 : vs 7 = gv S0 := hall 7 (by decide)
    clear hall
    simp only [putAll, Act.put, List.setIfInBounds_toArray, List.set_cons_succ, List.set_cons_zero, Nat.reduceAdd, Nat.zero_add, List.take_succ_cons, List.take_zero, List.drop_succ_cons, List.drop_zero, g3, g7]
    have HBW := Lib.hid (B0.out.trans hW)
    have HZ1 := Lib.hid ((hW.block _ (Array.getElem?_eq_some_iff.1 Z1.out).1).trans Z1.out)
    have HZ2 := Lib.hid ((hW.block _ (Array.getElem?_eq_some_iff.1 Z2.out).1).trans Z2.out)
    have HC5 := Lib.hid (C50.out.bel hW)
    clear hW g3 g7
    refine wpListIn_store89 2 (.tmp 11) (w.heap.size + 1) H0 zeros36.toArray rfl rfl HZ1.out zeros36_size L0.out ?_
    intro V1 hg1 hb1 _
    refine wpListIn_store89 3 (.tmp 15) (w.heap.size + 1 + 1) S0 zeros36.toArray rfl rfl ((hb1.block _ (Array.getElem?_eq_some_iff.1 HZ2.out).1 (by omega)).trans HZ2.out) zeros36_size L1.out ?_
    intro V2 hg2 hb2 _
    have HG1 := Lib.hid (hg1.but hb2 (by omega))
    have HG2 := Lib.hid hg2
    have HBV := Lib.hid (hb2.bel (hb1.bel HBW.out (by omega)) (by omega))
    have HCV := Lib.hid (c5_but hb2 (by omega) (c5_but hb1 (by omega) HC5.out))
    clear hg1 hb1 hg2 hb2
    obtain ⟨c0, c1, c2, c3, c4⟩ := HCV.out
    gi_wp2_with fail
    gi_loopw [19] (fun i wr => ∃ k : Nat, k ≤ ps.length ∧ i = .int .i64 k ∧ GapsW wr (w.heap.size + 1) (heatTo s ps k) ∧ GapsW wr (w.heap.size + 1 + 1) (stretchTo s ps k) ∧ C5 wr w.heap.size (.slice pa s.paints.length pc) (.int .i64 s.near) (.int .i64 s.give) (.slice ea s.eats.length ec) (.slice la ps.length lc) ∧ Bel w wr ∧ (∀ j, j < k → s.lasts (ps.getD j []) = true)) (fun i _ => ps.length - (intOf i).toNat)
    case atStart => exact ⟨0, by omega, rfl, by rw [T0.out]; exact HG1.out, by rw [T1.out]; exact HG2.out, HCV.out, HBV.out, nofun⟩
    case round =>
      clear c0 c1 c2 c3 c4
      obtain ⟨k, hk, rfl, hg1, hg2, hc, hb, hla⟩ := hrel
      have G1 := Lib.hid hg1
      have G2 := Lib.hid hg2
      have GC := Lib.hid hc
      have GB := Lib.hid hb
      have GL := Lib.hid hla
      clear hg1 hg2 hc hb hla
      by_cases hlt : k < ps.length
      · obtain ⟨lb, loff, rfl, lcell, hrn⟩ := HL3.out k hlt
        have lcell := GB.out.cell lcell
        have hpp := HP.out (ps.getD k []) (by rw [getD_lt _ _ _ hlt]; exact List.getElem_mem hlt)
        have q1 := fun W (hW : Bel w W) => KL.out W hW (lx k) (ps.getD k []) (hrn.bel hW) hpp
        have q2 := KTH.out (lx k) (ps.getD k []) hrn hpp
        have q3 := KTS.out (lx k) (ps.getD k []) hrn hpp
        have q4 := heatTo_succ s ps k hlt
        have q5 := stretchTo_succ s ps k hlt
        have Q4 := Lib.hid q4
        have Q5 := Lib.hid q5
        have hfalse : s.lasts (ps.getD k []) = false → s.truly ps = false := fun h => by
          unfold CSet.truly
          rw [show ps.all s.lasts = false from by rw [List.all_eq_false]; exact ⟨ps.getD k [], by rw [getD_lt _ _ _ hlt]; exact List.getElem_mem hlt, by rw [h]; simp⟩]
          rfl
        have QF := Lib.hid hfalse
        obtain ⟨ra, rc, er, -, -, -, -⟩ := hrn
        rw [er] at q1 q2 q3 lcell
        have Q1 := Lib.hid q1
        have Q2 := Lib.hid q2
        have Q3 := Lib.hid q3
        clear q1 q2 q3 q4 q5 hpp er hfalse
        generalize hpk : ps.getD k [] = p at *
        have HPK := Lib.hid hpk
        clear hpk
        have hf5 := C5.new wr (.slice pa s.paints.length pc) (.int .i64 s.near) (.int .i64 s.give) (.slice ea s.eats.length ec) (.slice ra p.length rc) 95
        have HF5 := Lib.hid hf5
        have hbw := (Bel.refl wr).alloc (.cells #[.slice pa s.paints.length pc, .int .i64 s.near, .int .i64 s.give, .slice ea s.eats.length ec, .slice ra p.length rc] 95)
        have HBW2 := Lib.hid hbw
        obtain ⟨c0, c1, c2, c3, c4⟩ := GC.out
        obtain ⟨d0, d1, d2, d3, d4⟩ := hf5
        clear hbw
        gi_wp2_with fail
        refine ⟨trivial, rfl, (callsW (Q1.out _ (GB.out.trans HBW2.out))).mono ?_⟩
        rintro e w3 ⟨rfl, hb3⟩
        have hbb := HBW2.out.trans hb3
        have J1 := Lib.hid (G1.out.bel hbb)
        have J2 := Lib.hid (G2.out.bel hbb)
        have JC := Lib.hid (GC.out.bel hbb)
        have JB := Lib.hid (GB.out.trans hbb)
        have JF := Lib.hid (HF5.out.bel hb3)
        have hsz := GB.out.size
        have hlt1 : w.heap.size + 1 + 1 < wr.heap.size := (Array.getElem?_eq_some_iff.1 G2.out.2).1
        clear hb3 hbb c0 c1 c2 c3 c4 d0 d1 d2 d3 d4 lcell
        cases hlk : s.lasts p with
        | false =>
          have HT := Lib.hid (QF.out hlk)
          clear hlk
          have sz1 : (List.map (Value.int .i64) (heatTo s ps k)).toArray.size = 36 := by simp [J1.out.1]
          gi_wp2_with (with_reducible refine stop_store89 2 (.tmp 30) ?_)
          unfold Stopped
          refine wpListIn_store89 2 (.tmp 30) (w.heap.size + 1) zeroG _ rfl zero_gv J1.out.2 sz1 zeroG_len ?_
          intro V1 hg1 hb1 _
          refine wpListIn_store89 3 (.tmp 31) (w.heap.size + 1 + 1) zeroG _ rfl zero_gv (J2.out.but hb1 (by omega)).2 (by simp [J2.out.1]) zeroG_len ?_
          intro V2 hg2 hb2 _
          have R1 := Lib.hid (hg1.but hb2 (by omega))
          have R2 := Lib.hid hg2
          have RB := Lib.hid (hb2.bel (hb1.bel JB.out (by omega)) (by omega))
          clear hg1 hb1 hg2 hb2
          gi_wp2_with fail
          exact bodyPost_ret (v := .tuple #[gv zeroG, gv zeroG, .bool false]) (by simp only [results, Try.results31]; simp; exact run_two_res R1.out R2.out _) rfl ⟨zeroG, zeroG, by rw [HT.out], rfl, rfl, (fun h => by rw [HT.out] at h; cases h), RB.out⟩
        | true =>
          have HLK := Lib.hid hlk
          clear hlk
          obtain ⟨d0, d1, d2, d3, d4⟩ := JF.out
          gi_wp2_with fail
          refine ⟨trivial, rfl, (callsW (Q2.out _ _ w3 J1.out JB.out (by omega))).mono ?_⟩
          rintro e w4 ⟨⟨v4, rfl⟩, hg4, hb4⟩
          have I1 := Lib.hid hg4
          have I2 := Lib.hid (J2.out.but hb4 (by omega))
          have IC := Lib.hid (c5_but hb4 (by omega) JC.out)
          have IB := Lib.hid (hb4.bel JB.out (by omega))
          have IF := Lib.hid (c5_but hb4 (by omega) JF.out)
          clear hg4 hb4 d0 d1 d2 d3 d4
          obtain ⟨d0, d1, d2, d3, d4⟩ := IF.out
          gi_wp2_with fail
          refine ⟨trivial, rfl, (callsW (Q3.out _ _ w4 I2.out IB.out (by omega))).mono ?_⟩
          rintro e w5 ⟨⟨v5, rfl⟩, hg5, hb5⟩
          have M1 := Lib.hid (I1.out.but hb5 (by omega))
          have M2 := Lib.hid hg5
          have MC := Lib.hid (c5_but hb5 (by omega) IC.out)
          have MB := Lib.hid (hb5.bel IB.out (by omega))
          clear hg5 hb5 d0 d1 d2 d3 d4
          gi_wp2_with fail
          go_roundw
          case rel =>
            refine ⟨k + 1, by omega, by go_num, by rw [Q4.out]; exact M1.out, by rw [Q5.out]; exact M2.out, MC.out, MB.out, fun j hj => ?_⟩
            by_cases e : j = k
            · rw [e, HPK.out]; exact HLK.out
            · exact GL.out j (by omega)
          case measure => simp [intOf]; omega
      · obtain rfl : k = ps.length := by omega
        have q1 := heatG_eq s ps
        have q2 := stretchG_eq s ps
        have q3 := (KHI.out ps.length (Nat.le_refl _)).2
        have q4 := (KSI.out ps.length (Nat.le_refl _)).2
        have hall : ps.all s.lasts = true := by
          rw [List.all_eq_true]
          intro p hpm
          obtain ⟨j, hj, rfl⟩ := List.getElem_of_mem hpm
          have := GL.out j hj
          rwa [getD_lt _ _ _ hj] at this
        have hT : s.truly ps = (CSet.settled (s.heatG ps) && CSet.settled (s.stretchG ps)) := by unfold CSet.truly; rw [hall]; rfl
        have s1 := fun W (hG : GapsW W (w.heap.size + 1) (heatTo s ps ps.length)) => settle_any (w.heap.size + 1) _ W hG (within_mono q3 (by omega) (by omega))
        have s2 := fun W (hG : GapsW W (w.heap.size + 1 + 1) (stretchTo s ps ps.length)) => settle_any (w.heap.size + 1 + 1) _ W hG (within_mono q4 (by omega) (by omega))
        have l1 : (s.heatG ps).length = 36 := by rw [q1, CSet.settle_len]; exact G1.out.1
        have l2 : (s.stretchG ps).length = 36 := by rw [q2, CSet.settle_len]; exact G2.out.1
        have l3 := G2.out.1
        rw [← q1] at s1
        rw [← q2] at s2
        generalize hHG : s.heatG ps = HG at *
        generalize hSG : s.stretchG ps = SG at *
        have HHG := Lib.hid hHG
        have HSG := Lib.hid hSG
        clear hHG hSG
        generalize heatTo s ps ps.length = h0 at *
        generalize stretchTo s ps ps.length = t0 at *
        have S1 := Lib.hid s1
        have S2 := Lib.hid s2
        have HT := Lib.hid hT
        have hsz := GB.out.size
        have hlt1 : w.heap.size + 1 + 1 < wr.heap.size := (Array.getElem?_eq_some_iff.1 G2.out.2).1
        clear q1 q2 q3 q4 hall hT s1 s2 hlt
        gi_wp2_with fail
        refine ⟨trivial, rfl, (callsW (S1.out wr G1.out)).mono ?_⟩
        rintro e w1 ⟨rfl, hg1, hb1⟩
        have A1 := Lib.hid hg1
        have A2 := Lib.hid (G2.out.but hb1 (by omega))
        have AB := Lib.hid (hb1.bel GB.out (by omega))
        have AZ := hb1.size
        clear hg1 hb1
        cases hc : CSet.settled HG with
        | false =>
          have HTF : Hid (s.truly ps = false) := Lib.hid (by rw [HT.out, hc]; rfl)
          clear hc
          gi_wp2_with fail
          refine ⟨trivial, ?_⟩
          have P1 := A1
          have P2 := A2
          have PB := AB
          gi_wp2_with (with_reducible refine stop_load89 2 ?_)
          unfold Stopped
          refine wpListIn_load89 2 (w.heap.size + 1) HG rfl P1.out ?_
          refine wpListIn_load89 3 (w.heap.size + 1 + 1) t0 rfl P2.out ?_
          gi_wp2_with (with_reducible refine stop_store89 2 (.tmp 43) ?_)
          unfold Stopped
          refine wpListIn_store89 2 (.tmp 43) (w.heap.size + 1) HG _ rfl rfl P1.out.2 (by simp [P1.out.1]) P1.out.1 ?_
          intro V1 hg1 hb1 _
          refine wpListIn_store89 3 (.tmp 44) (w.heap.size + 1 + 1) t0 _ rfl rfl (P2.out.but hb1 (by omega)).2 (by simp [P2.out.1]) P2.out.1 ?_
          intro V2 hg2 hb2 _
          have R1 := Lib.hid (hg1.but hb2 (by omega))
          have R2 := Lib.hid hg2
          have RB := Lib.hid (hb2.bel (hb1.bel PB.out (by omega)) (by omega))
          clear hg1 hb1 hg2 hb2
          gi_wp2_with fail
          exact bodyPost_ret (v := .tuple #[gv HG, gv t0, .bool false]) (by simp only [results, Try.results31]; simp; exact run_two_res R1.out R2.out _) rfl ⟨HG, t0, by rw [HTF.out], l1, l3, (fun h => by rw [HTF.out] at h; cases h), RB.out⟩
        | true =>
          have HTF : Hid (s.truly ps = CSet.settled SG) := Lib.hid (by rw [HT.out, hc]; rfl)
          clear hc
          gi_wp2_with fail
          refine ⟨trivial, rfl, (callsW (S2.out w1 A2.out)).mono ?_⟩
          rintro e w2 ⟨rfl, hg2, hb2⟩
          have B1 := Lib.hid (A1.out.but hb2 (by omega))
          have B2 := Lib.hid hg2
          have BB := Lib.hid (hb2.bel AB.out (by omega))
          clear hg2 hb2
          have P1 := B1
          have P2 := B2
          have PB := BB
          generalize hst : CSet.settled SG = bs at *
          clear hst
          gi_wp2_with (with_reducible refine stop_load89 2 ?_)
          unfold Stopped
          refine wpListIn_load89 2 (w.heap.size + 1) HG rfl P1.out ?_
          refine wpListIn_load89 3 (w.heap.size + 1 + 1) SG rfl P2.out ?_
          gi_wp2_with (with_reducible refine stop_store89 2 (.tmp 43) ?_)
          unfold Stopped
          refine wpListIn_store89 2 (.tmp 43) (w.heap.size + 1) HG _ rfl rfl P1.out.2 (by simp [P1.out.1]) P1.out.1 ?_
          intro V1 hg1 hb1 _
          refine wpListIn_store89 3 (.tmp 44) (w.heap.size + 1 + 1) SG _ rfl rfl (P2.out.but hb1 (by omega)).2 (by simp [P2.out.1]) P2.out.1 ?_
          intro V2 hg2 hb2 _
          have R1 := Lib.hid (hg1.but hb2 (by omega))
          have R2 := Lib.hid hg2
          have RB := Lib.hid (hb2.bel (hb1.bel PB.out (by omega)) (by omega))
          clear hg1 hb1 hg2 hb2
          gi_wp2_with fail
          exact bodyPost_ret (v := .tuple #[gv HG, gv SG, .bool bs]) (by simp only [results, Try.results31]; simp; exact run_two_res R1.out R2.out _) rfl ⟨HG, SG, by rw [HTF.out], l1, l2, (fun _ => ⟨HHG.out.symm, HSG.out.symm⟩), RB.out⟩

end Go.Proofs.Ytpkadofgmhninaa
