/- The small checks: numbers within bounds, spans, paints, pairs. Paints and pairs. What the chapter's calls come to, as plain functions on lists. Pairs; the check of a set that is valid. The check of a set that is valid says so. Lists of colours, ascending. Plans. The checks ahead of the calls, where all is valid. -/
import Derived.Test.YtpkadofgmhninaaBase
namespace Go.Proofs.Ytpkadofgmhninaa
open Go.RowKit

def inB (lo hi x : Int) : Bool := decide (lo ≤ x) && decide (x ≤ hi)

set_option maxHeartbeats 400000 in
theorem within1_any (lo hi x : Int) (B C : Nat) (w : World) (h1 : Boxed w B 3 (.int .i64 lo)) (h2 : Boxed w C 3 (.int .i64 hi)) :
    Calls Try.prog 92 #[.int .i64 x, .pointer (some ⟨B, 0, none⟩), .pointer (some ⟨C, 0, none⟩)] w fun e w' => e = .returned (.bool (inB lo hi x)) ∧ w = w' := by
  have c1 := h1.cell
  have c2 := h2.cell
  clear h1 h2
  by_cases a : lo ≤ x
  · by_cases b : x ≤ hi
    · have H : Hid (inB lo hi x = true) := by unfold Hid; simp [inB, a, b]
      go_enter Try.func92, Try.ntmps92
      go_wp2
      go_ret
      exact ⟨ret_bool H.out.symm, rfl⟩
    · have H : Hid (inB lo hi x = false) := by unfold Hid; simp [inB, b]
      have b' : decide (x ≤ hi) = false := by simpa using b
      go_enter Try.func92, Try.ntmps92
      go_wp2
      go_ret
      exact ⟨ret_bool H.out.symm, rfl⟩
  · have H : Hid (inB lo hi x = false) := by unfold Hid; simp [inB, a]
    have a' : decide (lo ≤ x) = false := by simpa using a
    go_enter Try.func92, Try.ntmps92
    go_wp2
    go_ret
    exact ⟨ret_bool H.out.symm, rfl⟩

set_option maxHeartbeats 400000 in
theorem within_any (lo hi : Int) (v : Value) (xs : List Int) (w : World) (h : Ints w v xs) :
    Calls Try.prog 74 #[.int .i64 lo, .int .i64 hi, v] w fun e w' => e = .returned (.bool (xs.all (inB lo hi))) ∧ Bel w w' := by
  obtain ⟨a, c, rfl, hn, hm, -, hx⟩ := h
  have b1 : Bel w ((w.alloc (.cells #[.int .i64 lo] 3)).alloc (.cells #[.int .i64 hi] 3)) := ((Bel.refl w).alloc _).alloc _
  have bx1 := (Boxed.new w 3 (.int .i64 lo)).alloc (.cells #[.int .i64 hi] 3)
  have bx2 := Boxed.new (w.alloc (.cells #[.int .i64 lo] 3)) 3 (.int .i64 hi)
  rw [World.size_alloc] at bx2
  have hc := every_int 92 #[.pointer (some ⟨w.heap.size, 0, none⟩), .pointer (some ⟨w.heap.size + 1, 0, none⟩)] (enters_of Try.func92 (by kernel_rfl) rfl) a xs.length c (fun k => xs.getD k 0)
    (fun k => inB lo hi (xs.getD k 0)) (fun _ W => Bel ((w.alloc (.cells #[.int .i64 lo] 3)).alloc (.cells #[.int .i64 hi] 3)) W) (by omega)
    ((w.alloc (.cells #[.int .i64 lo] 3)).alloc (.cells #[.int .i64 hi] 3)) (fun _ _ _ h k => h.trans k)
    (fun k W hk h => by
      obtain ⟨b, off, e, hcell⟩ := hx k hk
      exact ⟨b, off, e, (b1.trans h).cell hcell⟩)
    (fun k W hk h => (within1_any lo hi (xs.getD k 0) _ _ W (h.boxed bx1) (h.boxed bx2)).mono (fun e W' ⟨he, hw⟩ => by subst hw; exact ⟨he, h, KeepFrom.refl _ _⟩))
    (Bel.refl _)
  rw [all_getD] at hc
  clear hx bx1 bx2
  have B1 := Lib.hid b1
  clear b1
  go_enter Try.func74, Try.ntmps74
  go_wp2_with (go_at_call 88; refine hc.mono ?_; rintro e w1 ⟨rfl, k, hb⟩; have HB := Lib.hid hb; clear hb)
  go_ret
  exact ⟨rfl, B1.out.trans HB.out⟩

def spanOk (l h hi : Int) : Bool := [l, h].all (inB 0 hi) && decide (l ≤ h)

set_option maxHeartbeats 400000 in
theorem isSpan_any (l h hi : Int) (w : World) :
    Calls Try.prog 95 #[.agg #[.int .i64 l, .int .i64 h], .int .i64 hi] w fun e w' => e = .returned (.bool (spanOk l h hi)) ∧ Bel w w' := by
  obtain ⟨W1, hW1⟩ : ∃ W1, (w.alloc (.cells #[.int .i64 l, .int .i64 h] 54)).alloc (.cells #[.int .i64 l, .int .i64 h] 3) = W1 := ⟨_, rfl⟩
  have hi2 := Ints.build2 (w.alloc (.cells #[.int .i64 l, .int .i64 h] 54)) l h
  have b1 : Bel w W1 := by rw [← hW1]; exact ((Bel.refl w).alloc _).alloc _
  have c1 : W1.cell? ⟨w.heap.size, 0, none⟩ = some (.int .i64 l) := by rw [← hW1]; simp
  have c2 : W1.cell? ⟨w.heap.size, 1, none⟩ = some (.int .i64 h) := by rw [← hW1]; simp
  rw [hW1] at hi2
  rw [World.size_alloc] at hi2
  have hc := within_any 0 hi _ [l, h] W1 hi2
  rw [← hW1] at hc
  have C1 := Lib.hid c1
  have C2 := Lib.hid c2
  have B1 := Lib.hid b1
  have HW := Lib.hid hW1
  clear b1 hW1 hi2 c1 c2
  cases hb : [l, h].all (inB 0 hi)
  · rw [hb] at hc
    have H : Hid (spanOk l h hi = false) := by unfold Hid spanOk; rw [hb]; rfl
    clear hb
    go_enter Try.func95, Try.ntmps95
    go_wp2_with (go_at_call 74; refine hc.mono ?_; rintro e w1 ⟨rfl, hb⟩; have HB := Lib.hid hb; clear hb)
    go_ret
    exact ⟨ret_bool H.out.symm, B1.out.trans (by rw [← HW.out]; exact HB.out)⟩
  · rw [hb] at hc
    have H : Hid (spanOk l h hi = decide (l ≤ h)) := by unfold Hid spanOk; rw [hb]; rfl
    clear hb
    go_enter Try.func95, Try.ntmps95
    go_wp2_with (go_at_call 74; refine hc.mono ?_; rintro e w1 ⟨rfl, hb⟩; rw [HW.out] at hb; have e1 := hb.cell C1.out; have e2 := hb.cell C2.out; have HB := Lib.hid hb; clear hb)
    go_ret
    exact ⟨ret_bool H.out.symm, B1.out.trans HB.out⟩

end Go.Proofs.Ytpkadofgmhninaa
namespace Go.Proofs.Ytpkadofgmhninaa
open Go.RowKit

/-- A block's first six cells. -/
def C6 (W : World) (B : Nat) (x : Nat → Int) : Prop :=
  W.cell? ⟨B, 0, none⟩ = some (.int .i64 (x 0)) ∧ W.cell? ⟨B, 1, none⟩ = some (.int .i64 (x 1)) ∧ W.cell? ⟨B, 2, none⟩ = some (.int .i64 (x 2)) ∧
  W.cell? ⟨B, 3, none⟩ = some (.int .i64 (x 3)) ∧ W.cell? ⟨B, 4, none⟩ = some (.int .i64 (x 4)) ∧ W.cell? ⟨B, 5, none⟩ = some (.int .i64 (x 5))
theorem C6.bel {A B : World} (h : Bel A B) {b : Nat} {x : Nat → Int} (hc : C6 A b x) : C6 B b x :=
  ⟨h.cell hc.1, h.cell hc.2.1, h.cell hc.2.2.1, h.cell hc.2.2.2.1, h.cell hc.2.2.2.2.1, h.cell hc.2.2.2.2.2⟩
theorem C6.new (w : World) (x : Nat → Int) (t : TypeId) : C6 (w.alloc (.cells #[.int .i64 (x 0), .int .i64 (x 1), .int .i64 (x 2), .int .i64 (x 3), .int .i64 (x 4), .int .i64 (x 5)] t)) w.heap.size x := by
  unfold C6; refine ⟨?_, ?_, ?_, ?_, ?_, ?_⟩ <;> simp

def paintOk (x : Nat → Int) : Bool := spanOk (x 0) (x 1) 1000 && (spanOk (x 2) (x 3) 200 && (([x 4]).all (inB 1 3) && ([x 5]).all (inB 1 12)))

set_option maxHeartbeats 1000000 in
theorem isPaint_any (x : Nat → Int) (w : World) :
    Calls Try.prog 76 #[.agg #[.int .i64 (x 0), .int .i64 (x 1), .int .i64 (x 2), .int .i64 (x 3), .int .i64 (x 4), .int .i64 (x 5)]] w fun e w' => e = .returned (.bool (paintOk x)) ∧ Bel w w' := by
  have C0 := Lib.hid (C6.new w x 56)
  have B0 := Lib.hid ((Bel.refl w).alloc (.cells #[.int .i64 (x 0), .int .i64 (x 1), .int .i64 (x 2), .int .i64 (x 3), .int .i64 (x 4), .int .i64 (x 5)] 56))
  have s1 := fun W => isSpan_any (x 0) (x 1) 1000 W
  have s2 := fun W => isSpan_any (x 2) (x 3) 200 W
  have s3 := fun W => within_any 1 3 _ [x 4] _ (Ints.build1 W (x 4))
  have s4 := fun W => within_any 1 12 _ [x 5] _ (Ints.build1 W (x 5))
  have H := Lib.hid (show paintOk x = (spanOk (x 0) (x 1) 1000 && (spanOk (x 2) (x 3) 200 && (([x 4]).all (inB 1 3) && ([x 5]).all (inB 1 12)))) from rfl)
  generalize spanOk (x 0) (x 1) 1000 = b1 at *
  generalize spanOk (x 2) (x 3) 200 = b2 at *
  generalize ([x 4]).all (inB 1 3) = b3 at *
  generalize ([x 5]).all (inB 1 12) = b4 at *
  generalize paintOk x = r at *
  go_enter Try.func76, Try.ntmps76
  obtain ⟨c0, c1, c2, c3, c4, c5⟩ := C0.out
  go_wp2_with fail
  refine (s1 _).mono ?_
  rintro e w1 ⟨rfl, hb1⟩
  clear c0 c1 c2 c3 c4 c5
  have C1 := Lib.hid (C0.out.bel hb1)
  have B1 := Lib.hid (B0.out.trans hb1)
  clear hb1 C0 B0 s1
  obtain ⟨c0, c1, c2, c3, c4, c5⟩ := C1.out
  cases b1
  · have H' := Lib.hid (show r = false from H.out)
    go_wp2_with fail
    go_ret
    exact ⟨ret_bool H'.out.symm, B1.out⟩
  go_wp2_with fail
  refine (s2 _).mono ?_
  rintro e w2 ⟨rfl, hb1⟩
  clear c0 c1 c2 c3 c4 c5
  have C2 := Lib.hid (C1.out.bel hb1)
  have B2 := Lib.hid (B1.out.trans hb1)
  clear hb1 C1 B1 s2
  obtain ⟨c0, c1, c2, c3, c4, c5⟩ := C2.out
  cases b2
  · have H' := Lib.hid (show r = false from H.out)
    go_wp2_with fail
    go_ret
    exact ⟨ret_bool H'.out.symm, B2.out⟩
  go_wp2_with fail
  refine (s3 _).mono ?_
  rintro e w3 ⟨rfl, hb1⟩
  clear c0 c1 c2 c3 c4 c5
  have hb2 := ((Bel.refl w2).alloc _).trans hb1
  have C3 := Lib.hid (C2.out.bel hb2)
  have B3 := Lib.hid (B2.out.trans hb2)
  clear hb1 hb2 C2 B2 s3
  obtain ⟨c0, c1, c2, c3, c4, c5⟩ := C3.out
  cases b3
  · have H' := Lib.hid (show r = false from H.out)
    go_wp2_with fail
    go_ret
    exact ⟨ret_bool H'.out.symm, B3.out⟩
  go_wp2_with fail
  refine (s4 _).mono ?_
  rintro e w4 ⟨rfl, hb1⟩
  clear c0 c1 c2 c3 c4 c5
  have hb2 := ((Bel.refl w3).alloc _).trans hb1
  have B4 := Lib.hid (B3.out.trans hb2)
  clear hb1 hb2 C3 B3 s4
  have H' := Lib.hid (show r = b4 from by rw [H.out]; cases b4 <;> rfl)
  go_wp2_with fail
  go_ret
  exact ⟨ret_bool H'.out.symm, B4.out⟩

end Go.Proofs.Ytpkadofgmhninaa
namespace Go.Proofs.Ytpkadofgmhninaa

structure Paint where
  hl : Int
  hh : Int
  sl : Int
  sh : Int
  coats : Int
  most : Int
  deriving DecidableEq, Inhabited

structure CSet where
  paints : List Paint
  near : Int
  give : Int
  eats : List (Nat × Nat)

abbrev Rounds := List (List Nat)

namespace CSet
def paint (s : CSet) (c : Nat) : Paint := s.paints.getD c ⟨0, 0, 0, 0, 0, 0⟩

/-- The set is valid. -/
structure Ok (s : CSet) : Prop where
  n1 : 1 ≤ s.paints.length
  n5 : s.paints.length ≤ 5
  near0 : 0 ≤ s.near
  near1 : s.near ≤ 100
  give0 : 0 ≤ s.give
  give1 : s.give ≤ 100
  eats : s.eats.length ≤ 8
  paints : ∀ c, c < s.paints.length → 0 ≤ (s.paint c).hl ∧ (s.paint c).hl ≤ (s.paint c).hh ∧ (s.paint c).hh ≤ 1000 ∧ 0 ≤ (s.paint c).sl ∧ (s.paint c).sl ≤ (s.paint c).sh ∧ (s.paint c).sh ≤ 200 ∧
    1 ≤ (s.paint c).coats ∧ (s.paint c).coats ≤ 3 ∧ 1 ≤ (s.paint c).most ∧ (s.paint c).most ≤ 12
  pairs : ∀ i, i < s.eats.length → (s.eats.getD i (0, 0)).1 < s.paints.length ∧ (s.eats.getD i (0, 0)).2 < s.paints.length ∧ (s.eats.getD i (0, 0)).1 ≠ (s.eats.getD i (0, 0)).2

/-- How many firings a round has. -/
def most (s : CSet) (round : List Nat) : Int := round.foldl (fun m c => max m (s.paint c).coats) 0

/-- How often each colour is fired, and how many firings there are: round by round from the last one on. -/
def fire (s : CSet) : Rounds → (Nat → Int) × Int
  | [] => (fun _ => 0, 0)
  | round :: later =>
    let r := s.fire later
    let all := r.2 + s.most round
    (fun c => if round.contains c then all else r.1 c, all)

def roundOf (plan : Rounds) (c : Nat) : Option Nat := plan.findIdx? (·.contains c)

def eaten (plan : Rounds) (p : Nat × Nat) : Bool :=
  match roundOf plan p.2, roundOf plan p.1 with
  | some e, some r => decide (e < r)
  | _, _ => false

def lasts (s : CSet) (plan : Rounds) : Bool :=
  (List.range s.paints.length).all (fun c => decide ((s.fire plan).1 c ≤ (s.paint c).most)) && !(s.eats.any (eaten plan))

structure Tie where
  a : Nat
  b : Nat
  by_ : Int
  deriving DecidableEq, Inhabited

/-- The ties of a colour's heat, what went before being known; those of a round's. -/
def heatTiesAt (s : CSet) (before round : List Nat) (c : Nat) : List Tie :=
  (round.filter (fun o => c != o)).map (fun o => ⟨c, o, s.near⟩) ++ before.map (fun o => ⟨c, o, -1⟩)
def heatTiesOf (s : CSet) (before round : List Nat) : List Tie := round.flatMap (s.heatTiesAt before round)
def heatTies (s : CSet) (plan : Rounds) : List Tie := (List.range plan.length).flatMap fun i => s.heatTiesOf (plan.take i).flatten (plan.getD i [])

def stretchTiesOf (s : CSet) (r q : List Nat) : List Tie := r.flatMap fun under => q.flatMap fun over => [⟨over, under, s.give⟩, ⟨under, over, s.give⟩]
def stretchTies (s : CSet) (plan : Rounds) : List Tie := (List.range (plan.length - 1)).flatMap fun i => s.stretchTiesOf (plan.getD i []) (plan.getD (i + 1) [])

def hi (s : CSet) (c : Nat) : Int := (s.paint c).hh
def lo (s : CSet) (c : Nat) : Int := (s.paint c).hl

/-- Ties hold for all values of some spans. -/
def always (low high : Nat → Int) (ties : List Tie) : Bool := ties.all fun t => decide (high t.a - low t.b ≤ t.by_)

def surely (s : CSet) (plan : Rounds) : Bool :=
  s.lasts plan && (always (fun c => (s.paint c).hl) (fun c => (s.paint c).hh) (s.heatTies plan) && always (fun c => (s.paint c).sl) (fun c => (s.paint c).sh) (s.stretchTies plan))

/-- The parts of a list, in the order of lists, each behind a beginning. -/
def parts {α : Type} (begun : List α) : List α → List (List α)
  | [] => []
  | x :: xs => (begun ++ [x]) :: (parts (begun ++ [x]) xs ++ parts begun xs)

end CSet
end Go.Proofs.Ytpkadofgmhninaa
namespace Go.Proofs.Ytpkadofgmhninaa
open Go.RowKit

/-- A slice of paints; of pairs; a set by value. -/
def Paints (w : World) (v : Value) (ps : List Paint) : Prop :=
  ∃ (a : Option Addr) (c : Nat), v = .slice a ps.length c ∧ ps.length ≤ c ∧ c ≤ maxLen ∧ (a = none → c = 0) ∧
    ∀ i, i < ps.length → ∃ b off, a = some ⟨b, off, none⟩ ∧ w.cell? ⟨b, off + i * 6, none⟩ = some (.int .i64 (ps.getD i ⟨0, 0, 0, 0, 0, 0⟩).hl) ∧ w.cell? ⟨b, off + i * 6 + 1, none⟩ = some (.int .i64 (ps.getD i ⟨0, 0, 0, 0, 0, 0⟩).hh) ∧
      w.cell? ⟨b, off + i * 6 + 2, none⟩ = some (.int .i64 (ps.getD i ⟨0, 0, 0, 0, 0, 0⟩).sl) ∧ w.cell? ⟨b, off + i * 6 + 3, none⟩ = some (.int .i64 (ps.getD i ⟨0, 0, 0, 0, 0, 0⟩).sh) ∧
      w.cell? ⟨b, off + i * 6 + 4, none⟩ = some (.int .i64 (ps.getD i ⟨0, 0, 0, 0, 0, 0⟩).coats) ∧ w.cell? ⟨b, off + i * 6 + 5, none⟩ = some (.int .i64 (ps.getD i ⟨0, 0, 0, 0, 0, 0⟩).most)
theorem Paints.bel {A B : World} (h : Bel A B) {v : Value} {ps : List Paint} (hx : Paints A v ps) : Paints B v ps := by
  obtain ⟨a, c, e, h1, h2, hz, h3⟩ := hx
  refine ⟨a, c, e, h1, h2, hz, fun i hi => ?_⟩
  obtain ⟨b, off, e', k0, k1, k2, k3, k4, k5⟩ := h3 i hi
  exact ⟨b, off, e', h.cell k0, h.cell k1, h.cell k2, h.cell k3, h.cell k4, h.cell k5⟩

def Pairs (w : World) (v : Value) (es : List (Nat × Nat)) : Prop :=
  ∃ (a : Option Addr) (c : Nat), v = .slice a es.length c ∧ es.length ≤ c ∧ c ≤ maxLen ∧ (a = none → c = 0) ∧
    ∀ i, i < es.length → ∃ b off, a = some ⟨b, off, none⟩ ∧ w.cell? ⟨b, off + i * 2, none⟩ = some (.int .i64 ((es.getD i (0, 0)).1 : Int)) ∧ w.cell? ⟨b, off + i * 2 + 1, none⟩ = some (.int .i64 ((es.getD i (0, 0)).2 : Int))
theorem Pairs.bel {A B : World} (h : Bel A B) {v : Value} {es : List (Nat × Nat)} (hx : Pairs A v es) : Pairs B v es := by
  obtain ⟨a, c, e, h1, h2, hz, h3⟩ := hx
  refine ⟨a, c, e, h1, h2, hz, fun i hi => ?_⟩
  obtain ⟨b, off, e', k0, k1⟩ := h3 i hi
  exact ⟨b, off, e', h.cell k0, h.cell k1⟩

def SetV (w : World) (v : Value) (s : CSet) : Prop :=
  ∃ pv ev, v = .agg #[pv, .int .i64 s.near, .int .i64 s.give, ev] ∧ Paints w pv s.paints ∧ Pairs w ev s.eats
theorem SetV.bel {A B : World} (h : Bel A B) {v : Value} {s : CSet} (hx : SetV A v s) : SetV B v s := by
  obtain ⟨pv, ev, e, h1, h2⟩ := hx
  exact ⟨pv, ev, e, h1.bel h, h2.bel h⟩

/-- A block's first four cells. -/
def C4 (W : World) (B : Nat) (a b c d : Value) : Prop :=
  W.cell? ⟨B, 0, none⟩ = some a ∧ W.cell? ⟨B, 1, none⟩ = some b ∧ W.cell? ⟨B, 2, none⟩ = some c ∧ W.cell? ⟨B, 3, none⟩ = some d
theorem C4.bel {A B : World} (h : Bel A B) {k : Nat} {a b c d : Value} (hc : C4 A k a b c d) : C4 B k a b c d :=
  ⟨h.cell hc.1, h.cell hc.2.1, h.cell hc.2.2.1, h.cell hc.2.2.2⟩
theorem C4.new (w : World) (a b c d : Value) (t : TypeId) : C4 (w.alloc (.cells #[a, b, c, d] t)) w.heap.size a b c d := by
  have h := World.alloc_heap_new w (.cells #[a, b, c, d] t)
  unfold C4 World.cell?
  simp only [h]
  exact ⟨rfl, rfl, rfl, rfl⟩
def C2 (W : World) (B : Nat) (a b : Value) : Prop := W.cell? ⟨B, 0, none⟩ = some a ∧ W.cell? ⟨B, 1, none⟩ = some b
theorem C2.bel {A B : World} (h : Bel A B) {k : Nat} {a b : Value} (hc : C2 A k a b) : C2 B k a b := And.intro (h.cell hc.1) (h.cell hc.2)
theorem C2.new (w : World) (a b : Value) (t : TypeId) : C2 (w.alloc (.cells #[a, b] t)) w.heap.size a b := by
  have h := World.alloc_heap_new w (.cells #[a, b] t)
  unfold C2 World.cell?
  simp only [h]
  exact And.intro rfl rfl

set_option maxRecDepth 100000 in
set_option maxHeartbeats 1000000 in
theorem isPair_yes (pa : Option Addr) (n pc : Nat) (nr gv x y : Int) (ev : Value) (w : World) (hn : 1 ≤ n) (hn5 : n ≤ 5) (hx0 : 0 ≤ x) (hx1 : x < n) (hy0 : 0 ≤ y) (hy1 : y < n) (hxy : x ≠ y) :
    Calls Try.prog 79 #[.agg #[.slice pa n pc, .int .i64 nr, .int .i64 gv, ev], .agg #[.int .i64 x, .int .i64 y]] w fun e w' => e = .returned (.bool true) ∧ Bel w w' := by
  have S0 := Lib.hid ((C4.new w (.slice pa n pc) (.int .i64 nr) (.int .i64 gv) ev 31).bel (((Bel.refl _).alloc (.cells #[.int .i64 x, .int .i64 y] 85))))
  have P0' := C2.new (w.alloc (.cells #[.slice pa n pc, .int .i64 nr, .int .i64 gv, ev] 31)) (.int .i64 x) (.int .i64 y) 85
  have B0 := Lib.hid (((Bel.refl w).alloc (.cells #[.slice pa n pc, .int .i64 nr, .int .i64 gv, ev] 31)).alloc (.cells #[.int .i64 x, .int .i64 y] 85))
  rw [World.size_alloc] at P0'
  have P0 := Lib.hid P0'
  clear P0'
  have hb : [x, y].all (inB 0 ((n : Int) - 1)) = true := by simp [inB]; omega
  have hc := within_any 0 ((n : Int) - 1) _ [x, y] _ (Ints.build2 ((w.alloc (.cells #[.slice pa n pc, .int .i64 nr, .int .i64 gv, ev] 31)).alloc (.cells #[.int .i64 x, .int .i64 y] 85)) x y)
  simp only [World.size_alloc] at hc
  rw [hb] at hc
  clear hb
  have hne : (x != y) = true := by rw [bne_iff_ne]; exact hxy
  obtain ⟨c0, c1, c2, c3⟩ := S0.out
  obtain ⟨d0, d1⟩ := P0.out
  go_enter Try.func79, Try.ntmps79
  go_wp2_with fail
  refine hc.mono ?_
  rintro e w1 ⟨rfl, hb⟩
  clear c0 c1 c2 c3 d0 d1 hc
  have hb' := ((Bel.refl _).alloc _).trans hb
  obtain ⟨d0, d1⟩ := P0.out.bel hb'
  have B1 := Lib.hid (B0.out.trans hb')
  clear hb hb'
  go_wp2_with fail
  go_ret
  exact ⟨rfl, B1.out⟩

set_option maxRecDepth 100000 in
set_option maxHeartbeats 1000000 in
theorem check1_yes (pa : Option Addr) (n pc : Nat) (nr gv x y : Int) (ev : Value) (B : Nat) (w : World) (hn : 1 ≤ n) (hn5 : n ≤ 5) (hx0 : 0 ≤ x) (hx1 : x < n) (hy0 : 0 ≤ y) (hy1 : y < n) (hxy : x ≠ y)
    (hs : C4 w B (.slice pa n pc) (.int .i64 nr) (.int .i64 gv) ev) :
    Calls Try.prog 78 #[.agg #[.int .i64 x, .int .i64 y], .pointer (some ⟨B, 0, none⟩)] w fun e w' => e = .returned (.bool true) ∧ Bel w w' := by
  obtain ⟨c0, c1, c2, c3⟩ := hs.bel ((Bel.refl w).alloc (.cells #[.int .i64 x, .int .i64 y] 85))
  have hl := lt_of_cell hs.1
  have hc := fun W => isPair_yes pa n pc nr gv x y ev W hn hn5 hx0 hx1 hy0 hy1 hxy
  clear hs hxy
  go_enter Try.func78, Try.ntmps78
  go_wp2_with fail
  refine (hc _).mono ?_
  rintro e w1 ⟨rfl, hb⟩
  have B1 := Lib.hid (((Bel.refl w).alloc _).trans hb)
  clear hb
  go_wp2_with fail
  go_ret
  exact ⟨rfl, B1.out⟩

end Go.Proofs.Ytpkadofgmhninaa
namespace Go.Proofs.Ytpkadofgmhninaa
open Go.RowKit

def Paint.at (p : Paint) : Nat → Int
  | 0 => p.hl
  | 1 => p.hh
  | 2 => p.sl
  | 3 => p.sh
  | 4 => p.coats
  | _ => p.most

theorem paintOk_of {s : CSet} (h : s.Ok) {c : Nat} (hc : c < s.paints.length) : paintOk (s.paint c).at = true := by
  have := h.paints c hc
  simp [paintOk, spanOk, inB, Paint.at]
  omega

set_option maxRecDepth 100000 in
set_option maxHeartbeats 1000000 in
theorem check_yes (s : CSet) (hs : s.Ok) (v : Value) (w : World) (hv : SetV w v s) :
    Calls Try.prog 51 #[v] w fun e w' => e = .returned (.int .i64 0) ∧ Bel w w' := by
  obtain ⟨pv, ev, rfl, hp, he⟩ := hv
  have hp' := Lib.hid hp
  have he' := Lib.hid he
  obtain ⟨pa, pc, rfl, hp1, hp2, -, hp3⟩ := hp
  obtain ⟨ea, ec, rfl, he1, he2, -, he3⟩ := he
  have hn1 := hs.n1
  have hn5 := hs.n5
  have he8 := hs.eats
  have S0' := C4.new w (.slice pa s.paints.length pc) (.int .i64 s.near) (.int .i64 s.give) (.slice ea s.eats.length ec) 31
  have B0 := Lib.hid ((Bel.refl w).alloc (.cells #[.slice pa s.paints.length pc, .int .i64 s.near, .int .i64 s.give, .slice ea s.eats.length ec] 31))
  have hb1 : [(s.paints.length : Int)].all (inB 1 5) = true := by simp [inB]; omega
  have hb2 : [s.near, s.give].all (inB 0 100) = true := by
    have := hs.near0; have := hs.near1; have := hs.give0; have := hs.give1
    simp [inB]; omega
  have k1 := within_any 1 5 _ [(s.paints.length : Int)] _ (Ints.build1 (w.alloc (.cells #[.slice pa s.paints.length pc, .int .i64 s.near, .int .i64 s.give, .slice ea s.eats.length ec] 31)) (s.paints.length : Int))
  have k2 := fun W => within_any 0 100 _ [s.near, s.give] _ (Ints.build2 W s.near s.give)
  rw [hb1] at k1
  simp only [World.size_alloc] at k1
  simp only [hb2] at k2
  have k3 := fun (W0 : World) (hW0 : Bel w W0) => every_paint 76 #[] (enters_of Try.func76 (by kernel_rfl) rfl) pa s.paints.length pc (fun k => (s.paint k).at) (fun _ => true) (fun _ W => Bel W0 W) (by omega) W0
    (fun _ _ _ h k => h.trans k)
    (fun k W hk h => by
      obtain ⟨b, off, e, q0, q1, q2, q3, q4, q5⟩ := hp3 k hk
      have hw := hW0.trans h
      exact ⟨b, off, e, hw.cell q0, hw.cell q1, hw.cell q2, hw.cell q3, hw.cell q4, hw.cell q5⟩)
    (fun k W hk h => (isPaint_any (s.paint k).at W).mono (fun e W' ⟨he, hw⟩ => ⟨by rw [he, paintOk_of hs hk], h.trans hw, hw.keep _⟩))
    (Bel.refl W0)
  have k4 := fun (W0 : World) (hW0 : Bel w W0) (B : Nat) (hB : C4 W0 B (.slice pa s.paints.length pc) (.int .i64 s.near) (.int .i64 s.give) (.slice ea s.eats.length ec)) =>
    every_pair 78 #[.pointer (some ⟨B, 0, none⟩)] (enters_of Try.func78 (by kernel_rfl) rfl) ea s.eats.length ec (fun k => ((s.eats.getD k (0, 0)).1 : Int)) (fun k => ((s.eats.getD k (0, 0)).2 : Int)) (fun _ => true) (fun _ W => Bel W0 W) (by omega) W0
    (fun _ _ _ h k => h.trans k)
    (fun k W hk h => by
      obtain ⟨b, off, e, q0, q1⟩ := he3 k hk
      have hw := hW0.trans h
      exact ⟨b, off, e, hw.cell q0, hw.cell q1⟩)
    (fun k W hk h => by
      have hpr := hs.pairs k hk
      exact (check1_yes pa s.paints.length pc s.near s.give _ _ _ B W hn1 hn5 (by omega) (by omega) (by omega) (by omega) (by omega) (hB.bel h)).mono (fun e W' ⟨he, hw⟩ => ⟨he, h.trans hw, hw.keep _⟩))
    (Bel.refl W0)
  simp only [implies_true, decide_true] at k3 k4
  have K3 := Lib.hid k3
  have K4 := Lib.hid k4
  have S0 := Lib.hid S0'
  clear k3 k4 hp3 he3 hs hb1 hb2 S0'
  obtain ⟨c0, c1, c2, c3⟩ := S0.out
  go_enter Try.func51, Try.ntmps51
  go_wp2_with fail
  refine k1.mono ?_
  rintro e w1 ⟨rfl, hb⟩
  clear c0 c1 c2 c3 k1
  have hb' := ((Bel.refl _).alloc _).trans hb
  have S1 := Lib.hid (S0.out.bel hb')
  have B1 := Lib.hid (B0.out.trans hb')
  clear hb hb' B0 S0
  obtain ⟨c0, c1, c2, c3⟩ := S1.out
  go_wp2_with fail
  refine (k2 _).mono ?_
  rintro e w2 ⟨rfl, hb⟩
  clear c0 c1 c2 c3 k2
  have hb' := ((Bel.refl _).alloc _).trans hb
  have S2 := Lib.hid (S1.out.bel hb')
  have B2 := Lib.hid (B1.out.trans hb')
  clear hb hb' B1 S1
  obtain ⟨c0, c1, c2, c3⟩ := S2.out
  go_wp2_with fail
  refine (K3.out _ B2.out).mono ?_
  rintro e w3 ⟨rfl, _, hb⟩
  clear c0 c1 c2 c3
  have S3 := Lib.hid (S2.out.bel hb)
  have B3 := Lib.hid (B2.out.trans hb)
  clear hb S2 B2
  obtain ⟨c0, c1, c2, c3⟩ := S3.out
  go_wp2_with fail
  refine (K4.out _ B3.out _ S3.out).mono ?_
  rintro e w4 ⟨rfl, _, hb⟩
  have B4 := Lib.hid (B3.out.trans hb)
  clear hb S3 B3 c0 c1 c2 c3
  go_wp2_with fail
  go_ret
  exact ⟨rfl, B4.out⟩

end Go.Proofs.Ytpkadofgmhninaa
namespace Go.Proofs.Ytpkadofgmhninaa
open Go.RowKit

/-- All that lay in A lies in B as it lay, but for block m. -/
structure But (m : Nat) (A B : World) : Prop where
  os : B.os = A.os
  tape : B.tape = A.tape
  output : B.output = A.output
  size : A.heap.size ≤ B.heap.size
  block : ∀ k, k < A.heap.size → k ≠ m → B.heap[k]? = A.heap[k]?
theorem But.refl (m : Nat) (A : World) : But m A A := ⟨rfl, rfl, rfl, Nat.le_refl _, fun _ _ _ => rfl⟩
theorem But.trans {m : Nat} {A B C : World} (h : But m A B) (k : But m B C) : But m A C :=
  ⟨k.os.trans h.os, k.tape.trans h.tape, k.output.trans h.output, Nat.le_trans h.size k.size, fun i hi hm => (k.block i (Nat.lt_of_lt_of_le hi h.size) hm).trans (h.block i hi hm)⟩
theorem Bel.but {A B : World} (h : Bel A B) (m : Nat) : But m A B := ⟨h.os, h.tape, h.output, h.size, fun k hk _ => h.block k hk⟩
theorem But.set (m o : Nat) (A : World) (v : Value) : But m A (A.setCell ⟨m, o, none⟩ v) :=
  ⟨rfl, rfl, rfl, by simp [World.setCell], fun k _ hm => Below.heap_setCell _ _ _ _ hm⟩
theorem But.bel {m : Nat} {w A B : World} (h : Bel w A) (k : But m A B) (hm : w.heap.size ≤ m) : Bel w B :=
  ⟨k.os.trans h.os, k.tape.trans h.tape, k.output.trans h.output, Nat.le_trans h.size k.size, fun i hi => (k.block i (Nat.lt_of_lt_of_le hi h.size) (by omega)).trans (h.block i hi)⟩
theorem But.keep {m n : Nat} {A B : World} (h : But m A B) (hm : m < n) : KeepFrom n A B := ⟨h.size, fun k hk hl => h.block k hl (by omega)⟩
theorem But.cell {m : Nat} {A B : World} (h : But m A B) {p : Addr} {v : Value} (hp : p.block ≠ m) (hc : A.cell? p = some v) : B.cell? p = some v :=
  (World.cell?_of_block (w := A) (h.block p.block (lt_of_cell hc) hp)).trans hc
theorem But.boxed {m : Nat} {A B : World} (h : But m A B) {k : Nat} {t : TypeId} {v : Value} (hk : k ≠ m) (hb : Boxed A k t v) : Boxed B k t v := (h.block k hb.lt hk).trans hb
theorem But.c4 {m : Nat} {A B : World} (h : But m A B) {k : Nat} {a b c d : Value} (hk : k ≠ m) (hc : C4 A k a b c d) : C4 B k a b c d :=
  ⟨h.cell hk hc.1, h.cell hk hc.2.1, h.cell hk hc.2.2.1, h.cell hk hc.2.2.2⟩

set_option maxRecDepth 100000 in
set_option maxHeartbeats 1000000 in
theorem colour1_yes (pa : Option Addr) (n pc : Nat) (nr gv : Int) (ev : Value) (x least : Nat) (Bl Bs : Nat) (w : World) (hn : 1 ≤ n) (hn5 : n ≤ 5) (h1 : least ≤ x) (h2 : x < n)
    (hl : Boxed w Bl 3 (.int .i64 (least : Int))) (hs : C4 w Bs (.slice pa n pc) (.int .i64 nr) (.int .i64 gv) ev) :
    Calls Try.prog 89 #[.int .i64 (x : Int), .pointer (some ⟨Bl, 0, none⟩), .pointer (some ⟨Bs, 0, none⟩)] w fun e w' => e = .returned (.bool true) ∧ Boxed w' Bl 3 (.int .i64 ((x + 1 : Nat) : Int)) ∧ But Bl w w' := by
  have cl := hl.cell
  obtain ⟨c0, c1, c2, c3⟩ := hs
  have hb : [(x : Int)].all (inB (least : Int) ((n : Int) - 1)) = true := by simp [inB]; omega
  have hc := within_any (least : Int) ((n : Int) - 1) _ [(x : Int)] _ (Ints.build1 w (x : Int))
  rw [hb] at hc
  have HL := Lib.hid hl
  clear hb hl
  go_enter Try.func89, Try.ntmps89
  go_wp2_with fail
  refine hc.mono ?_
  rintro e w1 ⟨rfl, hb⟩
  clear c0 c1 c2 c3 cl hc
  have hb' := ((Bel.refl _).alloc _).trans hb
  have hl1 := hb'.boxed HL.out
  have cl := hl1.cell
  have fl := hl1.frozen
  have HL1 := Lib.hid hl1
  have B1 := Lib.hid hb'
  clear hb hb' HL hl1
  go_wp2_with fail
  go_ret
  refine ⟨rfl, ?_, (B1.out.but _).trans (But.set _ _ _ _)⟩
  have := HL1.out.set (.int .i64 ((x : Int) + 1))
  have e : ((x + 1 : Nat) : Int) = (x : Int) + 1 := by omega
  rw [e]; exact this

/-- Colours of n, ascending. -/
def Asc (n : Nat) (l : List Nat) : Prop := (∀ c, c ∈ l → c < n) ∧ l.Pairwise (· < ·)
/-- Colours of n, each once. -/
def Cl (n : Nat) (l : List Nat) : Prop := (∀ c, c ∈ l → c < n) ∧ l.Nodup
theorem Asc.cl {n : Nat} {l : List Nat} (h : Asc n l) : Cl n l := ⟨h.1, h.2.imp (fun h => Nat.ne_of_lt h)⟩

/-- A slice of colours. -/
def Cols (w : World) (v : Value) (l : List Nat) : Prop := Ints w v (l.map fun (c : Nat) => (c : Int))
theorem Cols.bel {A B : World} (h : Bel A B) {v : Value} {l : List Nat} (hx : Cols A v l) : Cols B v l := Ints.bel h hx

theorem getD_map (l : List Nat) (i : Nat) (hi : i < l.length) : (l.map fun (c : Nat) => (c : Int)).getD i 0 = (l.getD i 0 : Int) := by
  rw [getD_lt _ _ _ (by simpa using hi), getD_lt _ _ _ hi]; simp

def leastAt (l : List Nat) (k : Nat) : Nat := if k = 0 then 0 else l.getD (k - 1) 0 + 1
theorem leastAt_le {n : Nat} {l : List Nat} (h : Asc n l) {k : Nat} (hk : k < l.length) : leastAt l k ≤ l.getD k 0 := by
  unfold leastAt
  split
  · omega
  · have := List.pairwise_iff_getElem.1 h.2 (k - 1) k (by omega) hk (by omega)
    rw [getD_lt _ _ _ (show k - 1 < l.length by omega), getD_lt _ _ _ hk]; omega
theorem asc_lt {n : Nat} {l : List Nat} (h : Asc n l) {k : Nat} (hk : k < l.length) : l.getD k 0 < n := by
  rw [getD_lt _ _ _ hk]; exact h.1 _ (List.getElem_mem hk)

set_option maxRecDepth 100000 in
set_option maxHeartbeats 1000000 in
theorem areColours_yes (s : CSet) (hs : s.Ok) (v lv : Value) (l : List Nat) (w : World) (hv : SetV w v s) (hl : Cols w lv l) (ha : Asc s.paints.length l) :
    Calls Try.prog 69 #[v, lv] w fun e w' => e = .returned (.bool true) ∧ Bel w w' := by
  obtain ⟨pv, ev, rfl, ⟨pa, pc, rfl, hp1, hp2, -, hp3⟩, _⟩ := hv
  obtain ⟨a, c, rfl, hl1, hl2, -, hl3⟩ := hl
  have hn1 := hs.n1
  have hn5 := hs.n5
  simp only [List.length_map] at hl1 hl3 ⊢
  obtain ⟨W0, hW0⟩ : ∃ W0, (w.alloc (.cells #[.slice pa s.paints.length pc, .int .i64 s.near, .int .i64 s.give, ev] 31)).alloc (.cells #[.int .i64 0] 3) = W0 := ⟨_, rfl⟩
  have b0 : Bel w W0 := by rw [← hW0]; exact ((Bel.refl w).alloc _).alloc _
  have s0 : C4 W0 w.heap.size (.slice pa s.paints.length pc) (.int .i64 s.near) (.int .i64 s.give) ev := by rw [← hW0]; exact (C4.new w _ _ _ _ 31).bel ((Bel.refl _).alloc _)
  have l0 : Boxed W0 (w.heap.size + 1) 3 (.int .i64 ((leastAt l 0 : Nat) : Int)) := by
    rw [← hW0]; have := Boxed.new (w.alloc (.cells #[.slice pa s.paints.length pc, .int .i64 s.near, .int .i64 s.give, ev] 31)) 3 (.int .i64 0)
    rw [World.size_alloc] at this; exact this
  have z0 : W0.heap.size = w.heap.size + 2 := by rw [← hW0]; simp
  have hc := every_int 89 #[.pointer (some ⟨w.heap.size + 1, 0, none⟩), .pointer (some ⟨w.heap.size, 0, none⟩)] (enters_of Try.func89 (by kernel_rfl) rfl) a l.length c (fun k => (l.getD k 0 : Int)) (fun _ => true)
    (fun k W => Bel w W ∧ Boxed W (w.heap.size + 1) 3 (.int .i64 ((leastAt l k : Nat) : Int)) ∧ C4 W w.heap.size (.slice pa s.paints.length pc) (.int .i64 s.near) (.int .i64 s.give) ev) (by omega) W0
    (fun _ A B h k => ⟨h.1.trans k, k.boxed h.2.1, h.2.2.bel k⟩)
    (fun k W hk h => by
      obtain ⟨b, off, e, q⟩ := hl3 k hk
      rw [getD_map _ _ hk] at q
      exact ⟨b, off, e, h.1.cell q⟩)
    (fun k W hk h => (colour1_yes pa s.paints.length pc s.near s.give ev (l.getD k 0) (leastAt l k) _ _ W hn1 hn5 (leastAt_le ha hk) (asc_lt ha hk) h.2.1 h.2.2).mono (fun e W' ⟨he, hb, hbut⟩ =>
      ⟨he, ⟨hbut.bel h.1 (by omega), by
        have e : leastAt l (k + 1) = l.getD k 0 + 1 := by simp [leastAt]
        rw [e]; exact hb, hbut.c4 (by omega) h.2.2⟩, hbut.keep (by omega)⟩))
    ⟨b0, l0, s0⟩
  simp only [implies_true, decide_true] at hc
  rw [← hW0] at hc
  clear hp3 hl3 hs b0 s0 l0 z0 ha
  have HW := Lib.hid hW0
  clear hW0
  go_enter Try.func69, Try.ntmps69
  go_wp2_with (go_at_call 88; refine hc.mono ?_; rintro e w1 ⟨rfl, k, hb⟩; have HB := Lib.hid hb; clear hb)
  go_ret
  exact ⟨rfl, HB.out.1⟩

end Go.Proofs.Ytpkadofgmhninaa
namespace Go.Proofs.Ytpkadofgmhninaa
open Go.RowKit

/-- A slice of rounds. -/
def Rnds (w : World) (v : Value) (p : Rounds) : Prop :=
  ∃ (a : Option Addr) (c : Nat), v = .slice a p.length c ∧ p.length ≤ c ∧ c ≤ maxLen ∧ (a = none → c = 0) ∧
    ∀ i, i < p.length → ∃ b off rv, a = some ⟨b, off, none⟩ ∧ w.cell? ⟨b, off + i, none⟩ = some rv ∧ Cols w rv (p.getD i [])
theorem Rnds.bel {A B : World} (h : Bel A B) {v : Value} {p : Rounds} (hx : Rnds A v p) : Rnds B v p := by
  obtain ⟨a, c, e, h1, h2, hz, h3⟩ := hx
  refine ⟨a, c, e, h1, h2, hz, fun i hi => ?_⟩
  obtain ⟨b, off, rv, e', k0, k1⟩ := h3 i hi
  exact ⟨b, off, rv, e', h.cell k0, k1.bel h⟩

/-- A plan of n colours. -/
structure PlanOk (n : Nat) (p : Rounds) : Prop where
  some_ : ∀ r, r ∈ p → r ≠ []
  asc : ∀ r, r ∈ p → Cl n r
  once : p.flatten.Nodup

/-- A block of five bools that says which colours have been seen. -/
def Used (W : World) (B : Nat) (seen : List Nat) : Prop :=
  ∀ c, c < 5 → W.cell? ⟨B, c, none⟩ = some (.bool (seen.contains c)) ∧ W.frozen? ⟨B, c, none⟩ = false
theorem Used.bel {A C : World} (h : Bel A C) {B : Nat} {seen : List Nat} (hu : Used A B seen) : Used C B seen :=
  fun c hc => ⟨h.cell (hu c hc).1, h.frozen (hu c hc).1 (hu c hc).2⟩
theorem Used.set {A : World} {B : Nat} {seen : List Nat} (hu : Used A B seen) {x : Nat} (hx : x < 5) : Used (A.setCell ⟨B, x, none⟩ (.bool true)) B (seen ++ [x]) := by
  intro c hc
  refine ⟨?_, by rw [World.frozen?_setCell]; exact (hu c hc).2⟩
  by_cases e : c = x
  · subst e
    rw [World.cell?_setCell_same' _ _ _ (by rw [(hu c hx).1]; rfl)]
    simp
  · have hne : (⟨B, x, none⟩ : Addr) ≠ ⟨B, c, none⟩ := by intro h; injection h with _ h2; omega
    rw [World.cell?_setCell_other (h := hne), (hu c hc).1]
    simp [List.contains_eq_mem, e]

theorem flat_take (p : Rounds) (k : Nat) (hk : k < p.length) : (p.take (k + 1)).flatten = (p.take k).flatten ++ p.getD k [] := by
  rw [List.take_succ_eq_append_getElem hk, List.flatten_append, getD_lt _ _ _ hk]; simp
theorem take_snocN (l : List Nat) (j : Nat) (hj : j < l.length) : l.take (j + 1) = l.take j ++ [l.getD j 0] := by
  rw [List.take_succ_eq_append_getElem hj, getD_lt _ _ _ hj]
theorem PlanOk.unseen {n : Nat} {p : Rounds} (h : PlanOk n p) {k j : Nat} (hk : k < p.length) (hj : j < (p.getD k []).length) :
    ((p.take k).flatten ++ (p.getD k []).take j).contains ((p.getD k []).getD j 0) = false := by
  have h1 : (p.take (k + 1)).flatten.Nodup := by
    have := h.once
    rw [← List.take_append_drop (k + 1) p, List.flatten_append] at this
    exact (List.nodup_append.1 this).1
  rw [flat_take p k hk] at h1
  have h2 : (p.take k).flatten ++ (p.getD k []).take (j + 1) = (p.take k).flatten ++ (p.getD k []).take j ++ [(p.getD k []).getD j 0] := by
    rw [take_snocN _ _ hj, List.append_assoc]
  have h3 : ((p.take k).flatten ++ (p.getD k []).take (j + 1)).Nodup := by
    have := h1
    rw [← List.take_append_drop (j + 1) (p.getD k []), ← List.append_assoc] at this
    exact (List.nodup_append.1 this).1
  rw [h2] at h3
  have h4 := (List.nodup_append.1 h3).2.2
  rw [Bool.eq_false_iff]
  intro hc
  rw [List.contains_iff_mem] at hc
  exact h4 _ hc _ (by simp) rfl
theorem PlanOk.round {n : Nat} {p : Rounds} (h : PlanOk n p) {k : Nat} (hk : k < p.length) : p.getD k [] ≠ [] ∧ Cl n (p.getD k []) := by
  rw [getD_lt _ _ _ hk]; exact ⟨h.some_ _ (List.getElem_mem hk), h.asc _ (List.getElem_mem hk)⟩

set_option maxRecDepth 100000 in
set_option maxHeartbeats 2000000 in
theorem isPlan_yes (s : CSet) (hs : s.Ok) (v rv : Value) (p : Rounds) (w : World) (hv : SetV w v s) (hr : Rnds w rv p) (hp : PlanOk s.paints.length p) (hpa : ∀ r, r ∈ p → Asc s.paints.length r) :
    Calls Try.prog 54 #[v, rv] w fun e w' => e = .returned (.bool true) ∧ Bel w w' := by
  have hv0 := Lib.hid hv
  obtain ⟨pv, ev, rfl, ⟨pa, pc, rfl, hp1, hp2, -, hp3⟩, hev⟩ := hv
  obtain ⟨a, c, rfl, hr1, hr2, -, hr3⟩ := hr
  have hn1 := hs.n1
  have hn5 := hs.n5
  clear hp3 hev
  unfold maxLen at hp2 hr2
  obtain ⟨W0, hW0⟩ : ∃ W0, (w.alloc (.cells #[.slice pa s.paints.length pc, .int .i64 s.near, .int .i64 s.give, ev] 31)).alloc (.cells #[.bool false, .bool false, .bool false, .bool false, .bool false] 62) = W0 := ⟨_, rfl⟩
  have b0 : Bel w W0 := by rw [← hW0]; exact ((Bel.refl w).alloc _).alloc _
  have s0 : C4 W0 w.heap.size (.slice pa s.paints.length pc) (.int .i64 s.near) (.int .i64 s.give) ev := by rw [← hW0]; exact (C4.new w _ _ _ _ 31).bel ((Bel.refl _).alloc _)
  have u0 : Used W0 (w.heap.size + 1) [] := by
    rw [← hW0]
    intro c hc
    have : c = 0 ∨ c = 1 ∨ c = 2 ∨ c = 3 ∨ c = 4 := by omega
    have h := World.alloc_heap_new (w.alloc (.cells #[.slice pa s.paints.length pc, .int .i64 s.near, .int .i64 s.give, ev] 31)) (.cells #[.bool false, .bool false, .bool false, .bool false, .bool false] 62)
    rw [World.size_alloc] at h
    rcases this with rfl | rfl | rfl | rfl | rfl <;> exact ⟨by simp only [World.cell?, h]; rfl, by simp only [World.frozen?, h]; rfl⟩
  have HW := Lib.hid hW0
  have BB := Lib.hid b0
  have SS := Lib.hid s0
  have UU := Lib.hid u0
  clear b0 s0 u0 hW0
  go_enter Try.func54, Try.ntmps54
  go_wp2_with fail
  rw [HW.out]
  go_loopw [12] (fun i wr => ∃ k : Nat, k ≤ p.length ∧ i = .int .i64 k ∧ Bel w wr ∧ C4 wr w.heap.size (.slice pa s.paints.length pc) (.int .i64 s.near) (.int .i64 s.give) ev ∧ Used wr (w.heap.size + 1) (p.take k).flatten) (fun i _ => p.length - (intOf i).toNat)
  case atStart => exact ⟨0, Nat.zero_le _, rfl, BB.out, SS.out, by simpa using UU.out⟩
  case round =>
    obtain ⟨k, hk, rfl, hb, hc4, hu⟩ := hrel
    obtain ⟨wo, rfl⟩ : ∃ wo : World, wo = wr := ⟨_, rfl⟩
    have HU := Lib.hid hu
    have HC4 := Lib.hid hc4
    have HB := Lib.hid hb
    clear hu
    by_cases hlt : k < p.length
    · obtain ⟨b, off, rv, rfl, hcell, hcols⟩ := hr3 k hlt
      have hcell' := hb.cell hcell
      have hpk : p.getD k [] ≠ [] ∧ Asc s.paints.length (p.getD k []) := ⟨(hp.round hlt).1, by rw [getD_lt _ _ _ hlt]; exact hpa _ (List.getElem_mem hlt)⟩
      have hac := areColours_yes s hs _ rv (p.getD k []) wo (hv0.out.bel hb) (hcols.bel hb) hpk.2
      have hpk1 := hpk.1
      have HPK := Lib.hid hpk
      have HCO := Lib.hid hcols
      obtain ⟨ra, rc, rfl, hi1, hi2, -, hi3⟩ := hcols
      simp only [List.length_map] at hi1 hi3 hac hcell' ⊢
      unfold maxLen at hi2
      obtain ⟨c0, c1, c2, c3⟩ := hc4
      have hlen : (((p.getD k []).length : Int) == 0) = false := by
        rw [beq_eq_false_iff_ne]; have : (p.getD k []).length ≠ 0 := fun h => hpk1 (List.length_eq_zero_iff.1 h)
        omega
      have hun : ∀ j, j < (p.getD k []).length → ((p.take k).flatten ++ (p.getD k []).take j).contains ((p.getD k []).getD j 0) = false := fun j hj => hp.unseen hlt hj
      have HUN := Lib.hid hun
      have hasc : ∀ j, j < (p.getD k []).length → (p.getD k []).getD j 0 < s.paints.length := fun j hj => asc_lt hpk.2 hj
      have HASC := Lib.hid hasc
      have hi3' : ∀ j, j < (p.getD k []).length → ∃ b off, ra = some ⟨b, off, none⟩ ∧ w.cell? ⟨b, off + j, none⟩ = some (.int .i64 ((p.getD k []).getD j 0 : Int)) := fun j hj => by
        obtain ⟨b, off, e, q⟩ := hi3 j hj
        rw [getD_map _ _ hj] at q
        exact ⟨b, off, e, q⟩
      have HI := Lib.hid hi3'
      have HF := Lib.hid (flat_take p k hlt)
      have HTS := Lib.hid (fun j => take_snocN (p.getD k []) j)
      clear hr3 hpk hcell hb hun hasc hi3 hi3'
      generalize p.getD k [] = round at *
      generalize (p.take k).flatten = seen at *
      go_wp2_with fail
      refine hac.mono ?_
      rintro e w1 ⟨rfl, hb1⟩
      have U1 := Lib.hid (HU.out.bel hb1)
      have S1 := Lib.hid (HC4.out.bel hb1)
      have B1 := Lib.hid (HB.out.trans hb1)
      clear hb1 c0 c1 c2 c3 hac hcell'
      go_wp2_with fail
      go_loopw [27] (fun i wr => ∃ j : Nat, j ≤ round.length ∧ i = .int .i64 j ∧ Bel w wr ∧ C4 wr w.heap.size (.slice pa s.paints.length pc) (.int .i64 s.near) (.int .i64 s.give) ev ∧ Used wr (w.heap.size + 1) (seen ++ round.take j)) (fun i _ => round.length - (intOf i).toNat)
      case atStart => exact ⟨0, Nat.zero_le _, rfl, B1.out, S1.out, by simpa using U1.out⟩
      case round =>
        obtain ⟨j, hj, rfl, hb2, hc2, hu2⟩ := hrel
        have HU2 := Lib.hid hu2
        have HC2 := Lib.hid hc2
        have HB2 := Lib.hid hb2
        by_cases hjl : j < round.length
        · obtain ⟨rb, roff, rfl, rcell⟩ := HI.out j hjl
          have hx := HASC.out j hjl
          have rcell' := hb2.cell rcell
          have hnew := HUN.out j hjl
          obtain ⟨ucell, ufro⟩ := hu2 (round.getD j 0) (by omega)
          rw [hnew] at ucell
          have hset := Lib.hid (HU2.out.set (x := round.getD j 0) (by omega))
          have hts := Lib.hid (HTS.out j hjl)
          have hx5 : round.getD j 0 < 5 := by omega
          clear hu2 hc2 hb2 rcell hnew
          generalize round.getD j 0 = x at *
          go_wp2_with fail
          go_roundw
          case rel =>
            refine ⟨j + 1, by omega, by go_num, (But.set _ _ _ _).bel HB2.out (by omega), (But.set _ _ _ _).c4 (by omega) HC2.out, ?_⟩
            rw [hts.out, ← List.append_assoc]
            exact hset.out
          case measure => simp [intOf]; omega
        · have hjr : round.take j = round := List.take_of_length_le (by omega)
          have HJR := Lib.hid hjr
          clear hu2 hc2 hb2 hjr
          go_wp2_with fail
          go_roundw
          case rel =>
            refine ⟨k + 1, by omega, by go_num, HB2.out, HC2.out, ?_⟩
            have h := HU2.out
            rw [HJR.out] at h
            rw [HF.out]
            exact h
          case measure => simp [intOf]; omega
    · clear hc4 hb hr3
      go_wp2_with fail
      go_ret
      exact ⟨rfl, HB.out⟩

end Go.Proofs.Ytpkadofgmhninaa
namespace Go.Proofs.Ytpkadofgmhninaa
open Go.RowKit

/-- A slice of plans. -/
def Plns (w : World) (v : Value) (ps : List Rounds) : Prop :=
  ∃ (a : Option Addr) (c : Nat) (x : Nat → Value), v = .slice a ps.length c ∧ ps.length ≤ c ∧ c ≤ maxLen ∧ (a = none → c = 0) ∧
    ∀ i, i < ps.length → ∃ b off, a = some ⟨b, off, none⟩ ∧ w.cell? ⟨b, off + i, none⟩ = some (x i) ∧ Rnds w (x i) (ps.getD i [])
theorem Plns.bel {A B : World} (h : Bel A B) {v : Value} {p : List Rounds} (hx : Plns A v p) : Plns B v p := by
  obtain ⟨a, c, x, e, h1, h2, hz, h3⟩ := hx
  refine ⟨a, c, x, e, h1, h2, hz, fun i hi => ?_⟩
  obtain ⟨b, off, e', k0, k1⟩ := h3 i hi
  exact ⟨b, off, e', h.cell k0, k1.bel h⟩

set_option maxRecDepth 100000 in
set_option maxHeartbeats 1000000 in
theorem checkPlans1_yes (s : CSet) (hs : s.Ok) (rv : Value) (p : Rounds) (B : Nat) (pv ev : Value) (w : World) (hc : C4 w B pv (.int .i64 s.near) (.int .i64 s.give) ev) (h1 : Paints w pv s.paints) (h2 : Pairs w ev s.eats) (hr : Rnds w rv p) (hp : PlanOk s.paints.length p) (hpa : ∀ r, r ∈ p → Asc s.paints.length r) :
    Calls Try.prog 53 #[rv, .pointer (some ⟨B, 0, none⟩)] w fun e w' => e = .returned (.bool true) ∧ Bel w w' := by
  have k := isPlan_yes s hs _ rv p w ⟨pv, ev, rfl, h1, h2⟩ hr hp hpa
  obtain ⟨c0, c1, c2, c3⟩ := hc
  clear h1 h2 hr hp hs hpa
  go_enter Try.func53, Try.ntmps53
  go_wp2_with (go_at_call 54; refine k.mono ?_; rintro e w1 ⟨rfl, hb⟩; have HB := Lib.hid hb; clear hb)
  go_ret
  exact ⟨rfl, HB.out⟩

set_option maxRecDepth 100000 in
set_option maxHeartbeats 1000000 in
theorem checkPlans_yes (s : CSet) (hs : s.Ok) (v lv : Value) (ps : List Rounds) (w : World) (hv : SetV w v s) (hl : Plns w lv ps) (hp : ∀ p, p ∈ ps → PlanOk s.paints.length p ∧ ∀ r, r ∈ p → Asc s.paints.length r) :
    Calls Try.prog 30 #[v, lv] w fun e w' => e = .returned (.int .i64 0) ∧ Bel w w' := by
  have k1 := fun W (hW : Bel w W) => check_yes s hs v W (hv.bel hW)
  obtain ⟨pv, ev, rfl, h1, h2⟩ := hv
  obtain ⟨a, c, x, rfl, hl1, hl2, -, hl3⟩ := hl
  have c4 := C4.new w pv (.int .i64 s.near) (.int .i64 s.give) ev 31
  have k2 := fun W0 (hW0 : Bel w W0) (B : Nat) (hB : C4 W0 B pv (.int .i64 s.near) (.int .i64 s.give) ev) =>
    every_plan 53 #[.pointer (some ⟨B, 0, none⟩)] (enters_of Try.func53 (by kernel_rfl) rfl) a ps.length c x (fun _ => true) (fun _ W => Bel W0 W) (by omega) W0
      (fun _ _ _ h k => h.trans k)
      (fun k W hk h => by
        obtain ⟨b, off, e, q, _⟩ := hl3 k hk
        exact ⟨b, off, e, (hW0.trans h).cell q⟩)
      (fun k W hk h => by
        obtain ⟨b, off, e, q, hr⟩ := hl3 k hk
        have hw := hW0.trans h
        exact (checkPlans1_yes s hs (x k) (ps.getD k []) B pv ev W (hB.bel h) (h1.bel hw) (h2.bel hw) (hr.bel hw) (hp _ (by rw [getD_lt _ _ _ hk]; exact List.getElem_mem hk)).1 (hp _ (by rw [getD_lt _ _ _ hk]; exact List.getElem_mem hk)).2).mono (fun e W' ⟨he, hw'⟩ => ⟨he, h.trans hw', hw'.keep _⟩))
      (Bel.refl W0)
  simp only [implies_true, decide_true] at k2
  have K1 := Lib.hid k1
  have K2 := Lib.hid k2
  have C := Lib.hid c4
  obtain ⟨c0, c1, c2, c3⟩ := c4
  clear h1 h2 hl3 hp hs k1 k2
  go_enter Try.func30, Try.ntmps30
  go_wp2_with fail
  refine (K1.out _ ((Bel.refl w).alloc _)).mono ?_
  rintro e w1 ⟨rfl, hb⟩
  have HC := Lib.hid (C.out.bel hb)
  have HB := Lib.hid (((Bel.refl w).alloc _).trans hb)
  clear c0 c1 c2 c3 hb
  go_wp2_with fail
  refine (K2.out _ HB.out _ HC.out).mono ?_
  rintro e w2 ⟨rfl, _, hb⟩
  have HB2 := Lib.hid (HB.out.trans hb)
  clear hb
  go_wp2_with fail
  go_ret
  exact ⟨rfl, HB2.out⟩

set_option maxRecDepth 100000 in
set_option maxHeartbeats 1000000 in
theorem checkColours_yes (s : CSet) (hs : s.Ok) (v lv : Value) (l : List Nat) (w : World) (hv : SetV w v s) (hl : Cols w lv l) (ha : Asc s.paints.length l) :
    Calls Try.prog 40 #[v, lv] w fun e w' => e = .returned (.int .i64 0) ∧ Bel w w' := by
  have k1 := fun W (hW : Bel w W) => check_yes s hs v W (hv.bel hW)
  have k2 := fun W (hW : Bel w W) => areColours_yes s hs v lv l W (hv.bel hW) (hl.bel hW) ha
  obtain ⟨pv, ev, rfl, h1, h2⟩ := hv
  have c4 := C4.new w pv (.int .i64 s.near) (.int .i64 s.give) ev 31
  have K1 := Lib.hid k1
  have K2 := Lib.hid k2
  have C := Lib.hid c4
  obtain ⟨c0, c1, c2, c3⟩ := c4
  clear h1 h2 hl ha hs k1 k2
  go_enter Try.func40, Try.ntmps40
  go_wp2_with fail
  refine (K1.out _ ((Bel.refl w).alloc _)).mono ?_
  rintro e w1 ⟨rfl, hb⟩
  have HC := Lib.hid (C.out.bel hb)
  have HB := Lib.hid (((Bel.refl w).alloc _).trans hb)
  clear c0 c1 c2 c3 hb
  obtain ⟨c0, c1, c2, c3⟩ := HC.out
  go_wp2_with fail
  refine (K2.out _ HB.out).mono ?_
  rintro e w2 ⟨rfl, hb⟩
  have HB2 := Lib.hid (HB.out.trans hb)
  clear hb c0 c1 c2 c3
  go_wp2_with fail
  go_ret
  exact ⟨rfl, HB2.out⟩

set_option maxRecDepth 100000 in
set_option maxHeartbeats 1000000 in
theorem checkTrials_yes (s : CSet) (hs : s.Ok) (v lv : Value) (ps : List Rounds) (w : World) (hv : SetV w v s) (hl : Plns w lv ps) (hp : ∀ p, p ∈ ps → PlanOk s.paints.length p ∧ ∀ r, r ∈ p → Asc s.paints.length r) (h3 : ps.length ≤ 3) :
    Calls Try.prog 47 #[v, lv] w fun e w' => e = .returned (.int .i64 0) ∧ Bel w w' := by
  have k1 := fun W (hW : Bel w W) => check_yes s hs v W (hv.bel hW)
  have k2 := fun W (hW : Bel w W) => checkPlans_yes s hs v lv ps W (hv.bel hW) (hl.bel hW) hp
  obtain ⟨pv, ev, rfl, h1, h2⟩ := hv
  obtain ⟨a, c, x, rfl, hl1, hl2, -, hl3⟩ := hl
  have c4 := C4.new w pv (.int .i64 s.near) (.int .i64 s.give) ev 31
  have K1 := Lib.hid k1
  have K2 := Lib.hid k2
  have C := Lib.hid c4
  obtain ⟨c0, c1, c2, c3⟩ := c4
  clear h1 h2 hl3 hp hs k1 k2
  go_enter Try.func47, Try.ntmps47
  go_wp2_with fail
  refine (K1.out _ ((Bel.refl w).alloc _)).mono ?_
  rintro e w1 ⟨rfl, hb⟩
  have HC := Lib.hid (C.out.bel hb)
  have HB := Lib.hid (((Bel.refl w).alloc _).trans hb)
  clear c0 c1 c2 c3 hb
  obtain ⟨c0, c1, c2, c3⟩ := HC.out
  go_wp2_with fail
  refine (K2.out _ HB.out).mono ?_
  rintro e w2 ⟨rfl, hb⟩
  have HB2 := Lib.hid (HB.out.trans hb)
  clear hb c0 c1 c2 c3
  go_wp2_with fail
  go_ret
  exact ⟨rfl, HB2.out⟩

end Go.Proofs.Ytpkadofgmhninaa
