/- A set of colours made out of bytes: what it is; its rows in memory. -/
import Derived.Test.YtpkadofgmhninaaTwo
import Derived.Test.YtpkadofgmhninaaTail
import Derived.Test.YtpkadofgmhninaaLaid
import Derived.Test.YtpkadofgmhninaaOwn
import Derived.Test.YtpkadofgmhninaaCalls
namespace Go.Proofs.Ytpkadofgmhninaa
open Go.RowKit
attribute [local go_sem] Oper.semAt_some

/-- Five bytes; colours in bytes. -/
structure B5 where
  b0 : Nat
  b1 : Nat
  b2 : Nat
  b3 : Nat
  b4 : Nat
structure Shelf where
  r0 : Nat
  r1 : Nat
  paints : List B5
  eats : List (Nat × Nat)
def B5.none : B5 := ⟨100, 50, 9, 0, 7⟩
def B5.Ok (b : B5) : Prop := b.b0 < 256 ∧ b.b1 < 256 ∧ b.b2 < 256 ∧ b.b3 < 256 ∧ b.b4 < 256
def B5.heat (b : B5) : Nat := 600 + b.b0
def B5.stretch (b : B5) : Nat := 60 + b.b1 % 60
def B5.paint (b : B5) : Paint := ⟨(b.heat : Int) - (b.b2 % 8 : Nat), (b.heat : Int) + (b.b2 / 16 : Nat), (b.stretch : Int) - (b.b3 % 8 : Nat), (b.stretch : Int) + (b.b3 / 32 : Nat), ((1 + b.b4 % 3 : Nat) : Int), ((1 + b.b4 / 4 % 12 : Nat) : Int)⟩
namespace Shelf
structure Ok (x : Shelf) : Prop where
  r0 : x.r0 < 256
  r1 : x.r1 < 256
  paints : ∀ i, (x.paints.getD i .none).Ok
  eats : ∀ i, (x.eats.getD i (0, 0)).1 < 256 ∧ (x.eats.getD i (0, 0)).2 < 256
/-- How many colours there are; the first k of them. -/
def many (x : Shelf) : Nat := max 1 (min 5 x.paints.length)
def row (x : Shelf) (k : Nat) : List B5 := (List.range k).map fun i => x.paints.getD i .none
theorem row_succ (x : Shelf) (k : Nat) : x.row (k + 1) = x.row k ++ [x.paints.getD k .none] := by
  unfold row; rw [List.range_succ, List.map_append]; rfl
theorem row_len (x : Shelf) (k : Nat) : (x.row k).length = k := by unfold row; simp
/-- The pairs of the first k. -/
def pairs (x : Shelf) (n k : Nat) : List (Nat × Nat) := (List.range k).filterMap fun i => if (x.eats.getD i (0, 0)).1 % n = (x.eats.getD i (0, 0)).2 % n then none else some ((x.eats.getD i (0, 0)).1 % n, (x.eats.getD i (0, 0)).2 % n)
theorem pairs_succ (x : Shelf) (n k : Nat) : x.pairs n (k + 1) = x.pairs n k ++ (if (x.eats.getD k (0, 0)).1 % n = (x.eats.getD k (0, 0)).2 % n then [] else [((x.eats.getD k (0, 0)).1 % n, (x.eats.getD k (0, 0)).2 % n)]) := by
  unfold pairs
  rw [List.range_succ, List.filterMap_append]
  congr 1
  rw [List.filterMap_cons, List.filterMap_nil]
  by_cases h : (x.eats.getD k (0, 0)).1 % n = (x.eats.getD k (0, 0)).2 % n
  · simp only [if_pos h]
  · simp only [if_neg h]
theorem pairs_len (x : Shelf) (n k : Nat) : (x.pairs n k).length ≤ k := by
  have := List.length_filterMap_le (fun i => if (x.eats.getD i (0, 0)).1 % n = (x.eats.getD i (0, 0)).2 % n then none else some ((x.eats.getD i (0, 0)).1 % n, (x.eats.getD i (0, 0)).2 % n)) (List.range k)
  rw [List.length_range] at this; exact this
def set (x : Shelf) : CSet := ⟨(x.row x.many).map B5.paint, ((x.r0 % 60 : Nat) : Int), ((x.r1 % 40 : Nat) : Int), x.pairs x.many (min 4 x.eats.length)⟩
theorem many1 (x : Shelf) : 1 ≤ x.many ∧ x.many ≤ 5 := by unfold many; omega
theorem paint_at {x : Shelf} {c : Nat} (h : c < x.many) : x.set.paint c = (x.paints.getD c .none).paint := by
  unfold CSet.paint set row
  simp only [List.getD, List.getElem?_map, List.getElem?_range h, Option.map_some, Option.getD_some]
theorem pairs_ok {x : Shelf} {n k : Nat} (hn : 0 < n) : ∀ p, p ∈ x.pairs n k → p.1 < n ∧ p.2 < n ∧ p.1 ≠ p.2 := by
  intro p hp
  unfold pairs at hp
  obtain ⟨i, -, hi⟩ := List.mem_filterMap.1 hp
  split at hi
  · cases hi
  · injection hi with hi; subst hi; rename_i h
    exact ⟨Nat.mod_lt _ hn, Nat.mod_lt _ hn, h⟩
theorem set_ok {x : Shelf} (h : x.Ok) : x.set.Ok := by
  have hl : x.set.paints.length = x.many := by simp [set, row_len]
  have hn := x.many1
  refine ⟨by omega, by omega, ?_, ?_, ?_, ?_, ?_, ?_, ?_⟩
  · simp only [set]; omega
  · simp only [set]; omega
  · simp only [set]; omega
  · simp only [set]; omega
  · simp only [set]; have := x.pairs_len x.many (min 4 x.eats.length); omega
  · intro c hc
    rw [hl] at hc
    rw [paint_at hc]
    obtain ⟨h0, h1, h2, h3, h4⟩ := h.paints c
    simp only [B5.paint, B5.heat, B5.stretch]
    omega
  · intro i hi
    rw [hl]
    have hm : x.set.eats.getD i (0, 0) ∈ x.set.eats := by
      rw [List.getD, List.getElem?_eq_getElem hi]; exact List.getElem_mem hi
    exact pairs_ok (by omega) _ hm
end Shelf

/-- A slice of five bytes each; of two each; a shelf by value. -/
def B5s (W : World) (v : Value) (bs : List B5) : Prop := ∃ a c, v = .slice a bs.length c ∧ ∀ j, j < bs.length → ∃ b off, a = some ⟨b, off, none⟩ ∧ W.cell? ⟨b, off + j * 5, none⟩ = some (.int .u8 (bs.getD j .none).b0) ∧ W.cell? ⟨b, off + j * 5 + 1, none⟩ = some (.int .u8 (bs.getD j .none).b1) ∧ W.cell? ⟨b, off + j * 5 + 2, none⟩ = some (.int .u8 (bs.getD j .none).b2) ∧ W.cell? ⟨b, off + j * 5 + 3, none⟩ = some (.int .u8 (bs.getD j .none).b3) ∧ W.cell? ⟨b, off + j * 5 + 4, none⟩ = some (.int .u8 (bs.getD j .none).b4)
def B2s (W : World) (v : Value) (bs : List (Nat × Nat)) : Prop := ∃ a c, v = .slice a bs.length c ∧ ∀ j, j < bs.length → ∃ b off, a = some ⟨b, off, none⟩ ∧ W.cell? ⟨b, off + j * 2, none⟩ = some (.int .u8 (bs.getD j (0, 0)).1) ∧ W.cell? ⟨b, off + j * 2 + 1, none⟩ = some (.int .u8 (bs.getD j (0, 0)).2)
def ShelfV (W : World) (v : Value) (x : Shelf) : Prop := ∃ pv ev, v = .agg #[.int .u8 x.r0, .int .u8 x.r1, pv, ev] ∧ B5s W pv x.paints ∧ B2s W ev x.eats

/-- Two rows lie apart. -/
def Apart (u v : Value) : Prop := ∀ b, u.ownBlock = some b → v.ownBlock ≠ some b
theorem Apart.symm {u v : Value} (h : Apart u v) : Apart v u := fun b h1 h2 => h b h2 h1
theorem Apart.or {u v : Value} (h : Apart u v) : u.ownBlock = none ∨ u.ownBlock ≠ v.ownBlock := by
  cases e : u.ownBlock with
  | none => exact .inl rfl
  | some b => exact .inr fun h2 => h b e h2.symm
theorem Apart.of {u v : Value} (h : u.ownBlock = none ∨ u.ownBlock ≠ v.ownBlock) : Apart u v := fun b h1 h2 => by
  rcases h with h | h
  · rw [h] at h1; cases h1
  · exact h (h1.trans h2.symm)
theorem own_apart' {A B : World} {base : Nat} {e : TypeId} {size n : Nat} {v u r : Value} {xs : List Value} (h : A.ownsRow base e size u n xs) (q : A.grownBy B v.ownBlock) (hne : Apart u v) (hw : r.ownBlock = v.ownBlock ∨ r.ownBlock = some A.heap.size) :
    B.ownsRow base e size u n xs ∧ Apart u r := by
  obtain ⟨h1, h2⟩ := own_apart h q hne.or hw
  exact ⟨h1, .of h2⟩
theorem Row4.grown {A C : World} {B : Nat} {a b c d : Value} {t : TypeId} {row : Option Nat} (h : Row4 A B a b c d t) (q : A.grownBy C row) (hne : some B ≠ row) : Row4 C B a b c d t := (q.block B (Array.getElem?_eq_some_iff.1 h).1 hne).trans h
theorem C4.grown {A C : World} {B : Nat} {a b c d : Value} {row : Option Nat} (h : C4 A B a b c d) (q : A.grownBy C row) (hne : some B ≠ row) : C4 C B a b c d := ⟨q.cell h.1 hne, q.cell h.2.1 hne, q.cell h.2.2.1 hne, q.cell h.2.2.2 hne⟩

theorem C5.grown {A C : World} {B : Nat} {a b c d e : Value} {row : Option Nat} (h : C5 A B a b c d e) (q : A.grownBy C row) (hne : some B ≠ row) : C5 C B a b c d e := ⟨q.cell h.1 hne, q.cell h.2.1 hne, q.cell h.2.2.1 hne, q.cell h.2.2.2.1 hne, q.cell h.2.2.2.2 hne⟩

/-- A new row. -/
def NewRow (W : World) (g : Nat) (xs : List Value) : Prop := ∀ j u, xs[j]? = some u → W.cell? ((⟨g, 0, none⟩ : Addr).add j) = some u
theorem NewRow.bel {A B : World} {g : Nat} {xs : List Value} (h : NewRow A g xs) (q : Bel A B) : NewRow B g xs := fun j u hj => q.cell (h j u hj)
theorem NewRow.new (W : World) (xs : List Value) (t : TypeId) : NewRow (W.alloc (.cells xs.toArray t)) W.heap.size xs := fun j u hj => by
  rw [addr_add, Nat.zero_add]
  have h1 := World.alloc_heap_new W (.cells xs.toArray t)
  simp only [World.cell?, h1]
  simpa using hj

theorem But.grown {m : Nat} {w A B : World} {row : Option Nat} (h : But m w A) (q : A.grownBy B row) (hr : ∀ k, row = some k → w.heap.size ≤ k) : But m w B :=
  ⟨q.os.trans h.os, q.tape.trans h.tape, q.output.trans h.output, Nat.le_trans h.size q.size, fun k hk hm => (q.block k (Nat.lt_of_lt_of_le hk h.size) (fun e => by have := hr k e.symm; omega)).trans (h.block k hk hm)⟩
/-- What has been made of the first colours. -/
structure MadeI (W1 : World) (N : Nat) (x : Shelf) (nr gv : Int) (k1 k2 k3 : Nat) (hv tv pr sv : Value) (W : World) : Prop where
  heats : W.ownsRow W1.heap.size 3 1 hv k1 ((x.row k1).map fun b => .int .i64 (b.heat : Int))
  stretches : W.ownsRow W1.heap.size 3 1 tv k2 ((x.row k2).map fun b => .int .i64 (b.stretch : Int))
  paints : W.ownsRow W1.heap.size 56 6 pr k3 ((x.row k3).flatMap fun b => paintRow b.paint)
  ht : Apart hv tv
  hp : Apart hv pr
  tp : Apart tv pr
  set : Row4 W (N + 1) sv (.int .i64 nr) (.int .i64 gv) (.slice none 0 0) 31
  but : But (N + 1) W1 W
namespace MadeI
variable {W1 A B : World} {N : Nat} {x : Shelf} {nr gv : Int} {k1 k2 k3 : Nat} {hv tv pr sv : Value}
theorem bel (h : MadeI W1 N x nr gv k1 k2 k3 hv tv pr sv A) (q : Bel A B) : MadeI W1 N x nr gv k1 k2 k3 hv tv pr sv B :=
  ⟨ownsRow_bel h.heats q, ownsRow_bel h.stretches q, ownsRow_bel h.paints q, h.ht, h.hp, h.tp, h.set.bel q, h.but.trans (q.but _)⟩
theorem ne (hz : W1.heap.size = N + 2) {v : Value} {e : TypeId} {size n : Nat} {xs : List Value} (h : A.ownsRow W1.heap.size e size v n xs) : some (N + 1) ≠ v.ownBlock := fun e => by
  have := (h.lt _ e.symm).1; omega
theorem heat (h : MadeI W1 N x nr gv k1 k2 k3 hv tv pr sv A) (hz : W1.heap.size = N + 2) {b : B5} {v : Value} (hr : x.row (k1 + 1) = x.row k1 ++ [b]) (ho : B.ownsRow W1.heap.size 3 1 v (k1 + 1) (((x.row k1).map fun b => .int .i64 (b.heat : Int)) ++ [.int .i64 (b.heat : Int)]))
    (q : A.grownBy B hv.ownBlock) (hw : v.ownBlock = hv.ownBlock ∨ v.ownBlock = some A.heap.size) : MadeI W1 N x nr gv (k1 + 1) k2 k3 v tv pr sv B := by
  obtain ⟨t1, t2⟩ := own_apart' h.stretches q h.ht.symm hw
  obtain ⟨p1, p2⟩ := own_apart' h.paints q h.hp.symm hw
  exact ⟨by rw [hr, List.map_append]; exact ho, t1, p1, t2.symm, p2.symm, h.tp, h.set.grown q (ne hz h.heats), h.but.grown q (fun k hk => (h.heats.lt k hk).1)⟩
theorem stretch (h : MadeI W1 N x nr gv k1 k2 k3 hv tv pr sv A) (hz : W1.heap.size = N + 2) {b : B5} {v : Value} (hr : x.row (k2 + 1) = x.row k2 ++ [b]) (ho : B.ownsRow W1.heap.size 3 1 v (k2 + 1) (((x.row k2).map fun b => .int .i64 (b.stretch : Int)) ++ [.int .i64 (b.stretch : Int)]))
    (q : A.grownBy B tv.ownBlock) (hw : v.ownBlock = tv.ownBlock ∨ v.ownBlock = some A.heap.size) : MadeI W1 N x nr gv k1 (k2 + 1) k3 hv v pr sv B := by
  obtain ⟨t1, t2⟩ := own_apart' h.heats q h.ht hw
  obtain ⟨p1, p2⟩ := own_apart' h.paints q h.tp.symm hw
  exact ⟨t1, by rw [hr, List.map_append]; exact ho, p1, t2, h.hp, p2.symm, h.set.grown q (ne hz h.stretches), h.but.grown q (fun k hk => (h.stretches.lt k hk).1)⟩
theorem paint (h : MadeI W1 N x nr gv k1 k2 k3 hv tv pr sv A) (hz : W1.heap.size = N + 2) {b : B5} {v : Value} (hr : x.row (k3 + 1) = x.row k3 ++ [b]) (ho : B.ownsRow W1.heap.size 56 6 v (k3 + 1) (((x.row k3).flatMap fun b => paintRow b.paint) ++ paintRow b.paint))
    (q : A.grownBy B pr.ownBlock) (hw : v.ownBlock = pr.ownBlock ∨ v.ownBlock = some A.heap.size) : MadeI W1 N x nr gv k1 k2 (k3 + 1) hv tv v sv B := by
  obtain ⟨t1, t2⟩ := own_apart' h.heats q h.hp hw
  obtain ⟨p1, p2⟩ := own_apart' h.stretches q h.tp hw
  exact ⟨t1, p1, by rw [hr, List.flatMap_append]; simpa using ho, h.ht, t2, p2, h.set.grown q (ne hz h.paints), h.but.grown q (fun k hk => (h.paints.lt k hk).1)⟩
theorem store (h : MadeI W1 N x nr gv k1 k2 k3 hv tv pr sv A) (hz : W1.heap.size = N + 2) (u : Value) : MadeI W1 N x nr gv k1 k2 k3 hv tv pr u (A.setCell ⟨N + 1, 0, none⟩ u) :=
  ⟨ownsRow_but h.heats (But.set _ _ _ _) (by omega), ownsRow_but h.stretches (But.set _ _ _ _) (by omega), ownsRow_but h.paints (But.set _ _ _ _) (by omega), h.ht, h.hp, h.tp, heap_set h.set 0 u, h.but.trans (But.set _ _ _ _)⟩
end MadeI

theorem own_paints {W : World} {base : Nat} {v : Value} {ps : List Paint} (h : W.ownsRow base 56 6 v ps.length (ps.flatMap paintRow)) : Paints W v ps := by
  have h' := h
  obtain ⟨_, ⟨rfl, h0⟩ | ⟨g, cap, cur, rfl, _, hh, h1, h2, h3, h4⟩⟩ := h'
  · obtain rfl : ps = [] := List.length_eq_zero_iff.1 h0
    exact ⟨none, 0, rfl, Nat.le_refl _, Nat.zero_le _, fun _ => rfl, fun i hi => absurd hi (Nat.not_lt_zero _)⟩
  · exact Paints.of_news h1 h2 (fun j u hj => by have := h.cells (g := g) rfl j u hj; rwa [addr_add, Nat.zero_add] at this)
theorem own_pairs {W : World} {base : Nat} {v : Value} {ps : List (Nat × Nat)} (h : W.ownsRow base 85 2 v ps.length (ps.flatMap pairRow)) : Pairs W v ps := by
  have h' := h
  obtain ⟨_, ⟨rfl, h0⟩ | ⟨g, cap, cur, rfl, _, hh, h1, h2, h3, h4⟩⟩ := h'
  · obtain rfl : ps = [] := List.length_eq_zero_iff.1 h0
    exact ⟨none, 0, rfl, Nat.le_refl _, Nat.zero_le _, fun _ => rfl, fun i hi => absurd hi (Nat.not_lt_zero _)⟩
  · exact Pairs.of_news h1 h2 (fun j u hj => by have := h.cells (g := g) rfl j u hj; rwa [addr_add, Nat.zero_add] at this)
/-- What has been made, whole. -/
theorem made_end {w W1 V : World} {x : Shelf} {nr gv : Int} {hv tv sv : Value} {xa ya : Option Addr} {xc yc : Nat} {w2 wr : World} (hN : (x.r0 : Int) % 60 = nr) (hG : (x.r1 : Int) % 40 = gv) (hz : W1.heap.size = w.heap.size + 2) (hB : Bel w W1)
    (hI : MadeI W1 w.heap.size x nr gv x.many x.many x.many hv tv (.slice xa x.many xc) sv w2) (ho : wr.ownsRow w2.heap.size 85 2 (.slice ya (x.pairs x.many (min 4 x.eats.length)).length yc) (x.pairs x.many (min 4 x.eats.length)).length ((x.pairs x.many (min 4 x.eats.length)).flatMap pairRow))
    (h2 : But (w.heap.size + 1) w2 wr) (h3 : But (w.heap.size + 1) wr V) : SetV V (.agg #[.slice xa x.many xc, .int .i64 nr, .int .i64 gv, .slice ya (x.pairs x.many (min 4 x.eats.length)).length yc]) x.set ∧ Ints V hv ((x.row x.many).map fun b => (b.heat : Int)) ∧ Ints V tv ((x.row x.many).map fun b => (b.stretch : Int)) ∧ Bel w V := by
  have hq := h2.trans h3
  have hs := hI.but.size
  have p1 := ownsRow_but hI.heats hq (by omega)
  have p2 := ownsRow_but hI.stretches hq (by omega)
  have p3 := ownsRow_but hI.paints hq (by omega)
  have p4 := ownsRow_but ho h3 (by omega)
  refine ⟨⟨.slice xa x.many xc, .slice ya (x.pairs x.many (min 4 x.eats.length)).length yc, ?_, own_paints (base := W1.heap.size) ?_, own_pairs p4⟩, own_ints (base := W1.heap.size) ?_, own_ints (base := W1.heap.size) ?_, (hI.but.trans hq).bel hB (by omega)⟩
  · have e1 : x.set.near = nr := by rw [← hN]; rfl
    have e2 : x.set.give = gv := by rw [← hG]; rfl
    rw [e1, e2]
  · have e : x.set.paints = (x.row x.many).map B5.paint := rfl
    rw [e, List.length_map, Shelf.row_len, List.flatMap_map]; exact p3
  · rw [List.length_map, Shelf.row_len, List.map_map]; exact p1
  · rw [List.length_map, Shelf.row_len, List.map_map]; exact p2


set_option maxRecDepth 100000 in
set_option maxHeartbeats 16000000 in
theorem made_any (x : Shelf) (hx : x.Ok) (v : Value) (w : World) (hv : ShelfV w v x) :
    Calls Try.prog 8 #[v] w fun e w' => ∃ sv hv tv, e = .returned (.tuple #[sv, hv, tv]) ∧ SetV w' sv x.set ∧ Ints w' hv ((x.row x.many).map fun b => (b.heat : Int)) ∧ Ints w' tv ((x.row x.many).map fun b => (b.stretch : Int)) ∧ Bel w w' := by
  obtain ⟨i0, hi, hz0, hz1, hz2⟩ := info_parts Try.info3
  obtain ⟨i1, hp, hy0, hy1, hy2⟩ := info_parts Try.info56
  obtain ⟨i2, he, hx0, hx1, hx2⟩ := info_parts Try.info85
  obtain ⟨pv, ev, rfl, ⟨pa, pc, rfl, hpc⟩, ⟨ea, ec, rfl, hec⟩⟩ := hv
  have HPC := Lib.hid hpc
  have HEC := Lib.hid hec
  have HX := Lib.hid hx
  clear hpc hec
  obtain ⟨W1, hW1⟩ : ∃ W1, (w.alloc (.cells #[.int .u8 x.r0, .int .u8 x.r1, .slice pa x.paints.length pc, .slice ea x.eats.length ec] 26)).alloc (.cells #[.slice none 0 0, .int .i64 0, .int .i64 0, .slice none 0 0] 31) = W1 := ⟨_, rfl⟩
  have hxr : C4 W1 w.heap.size (.int .u8 x.r0) (.int .u8 x.r1) (.slice pa x.paints.length pc) (.slice ea x.eats.length ec) := by
    rw [← hW1]; exact (C4.new _ _ _ _ _ _).bel ((Bel.refl _).alloc _)
  have hsr : Row4 W1 (w.heap.size + 1) (.slice none 0 0) (.int .i64 0) (.int .i64 0) (.slice none 0 0) 31 := by
    rw [← hW1]
    have := World.alloc_heap_new (w.alloc (.cells #[.int .u8 x.r0, .int .u8 x.r1, .slice pa x.paints.length pc, .slice ea x.eats.length ec] 26)) (.cells #[.slice none 0 0, .int .i64 0, .int .i64 0, .slice none 0 0] 31)
    rw [World.size_alloc] at this
    exact this
  have hb0 : Bel w W1 := by rw [← hW1]; exact ((Bel.refl w).alloc _).alloc _
  have hz1' : W1.heap.size = w.heap.size + 2 := by rw [← hW1]; simp
  obtain ⟨c0, c1, c2, c3⟩ := hxr
  obtain ⟨d0, d1, d2, d3⟩ := hsr.c4
  have f0 := hsr.fro 0
  have f1 := hsr.fro 1
  have f2 := hsr.fro 2
  have f3 := hsr.fro 3
  rw [← hW1] at c0 c1 c2 c3 d0 d1 d2 d3 f0 f1 f2 f3
  have R0 := hx.r0
  have R1 := hx.r1
  have q0 : (x.r0 : Int).tmod 60 = ((x.r0 % 60 : Nat) : Int) := rfl
  have q1 : (x.r1 : Int).tmod 40 = ((x.r1 % 40 : Nat) : Int) := rfl
  have q2 : IntKind.i64.wrap (x.r0 : Int) = (x.r0 : Int) := by rw [IntKind.wrap_i64]; omega
  have q3 : IntKind.i64.wrap (x.r1 : Int) = (x.r1 : Int) := by rw [IntKind.wrap_i64]; omega
  have q4 : IntKind.i64.wrap ((x.r0 % 60 : Nat) : Int) = ((x.r0 % 60 : Nat) : Int) := by rw [IntKind.wrap_i64]; omega
  have q5 : IntKind.i64.wrap ((x.r1 % 40 : Nat) : Int) = ((x.r1 % 40 : Nat) : Int) := by rw [IntKind.wrap_i64]; omega
  clear hsr hb0 hW1 hz1' hx R0 R1 W1
  refine (callsIn_wide (n := 0)).1 (callsIn_of_wp Try.func8 rfl trivial ?_ rfl)
  simp only [Try.ntmps8, List.size_toArray, List.length_cons, List.length_nil, Nat.reduceAdd, Nat.reduceSub, Array.replicate_succ, Array.replicate_zero, List.push_toArray, List.append_toArray, List.nil_append, List.cons_append]
  gi_wp2_with fail
  obtain ⟨W1, hW1⟩ : ∃ W1, (w.alloc (.cells #[.int .u8 x.r0, .int .u8 x.r1, .slice pa x.paints.length pc, .slice ea x.eats.length ec] 26)).alloc (.cells #[.slice none 0 0, .int .i64 ((x.r0 : Int) % 60), .int .i64 ((x.r1 : Int) % 40), .slice none 0 0] 31) = W1 := ⟨_, rfl⟩
  have hxr : C4 W1 w.heap.size (.int .u8 x.r0) (.int .u8 x.r1) (.slice pa x.paints.length pc) (.slice ea x.eats.length ec) := by
    rw [← hW1]; exact (C4.new _ _ _ _ _ _).bel ((Bel.refl _).alloc _)
  have hsr : Row4 W1 (w.heap.size + 1) (.slice none 0 0) (.int .i64 ((x.r0 : Int) % 60)) (.int .i64 ((x.r1 : Int) % 40)) (.slice none 0 0) 31 := by
    rw [← hW1]
    have := World.alloc_heap_new (w.alloc (.cells #[.int .u8 x.r0, .int .u8 x.r1, .slice pa x.paints.length pc, .slice ea x.eats.length ec] 26)) (.cells #[.slice none 0 0, .int .i64 ((x.r0 : Int) % 60), .int .i64 ((x.r1 : Int) % 40), .slice none 0 0] 31)
    rw [World.size_alloc] at this
    exact this
  have hb0 : Bel w W1 := by rw [← hW1]; exact ((Bel.refl w).alloc _).alloc _
  have hz1' : W1.heap.size = w.heap.size + 2 := by rw [← hW1]; simp
  rw [hW1]
  have HXR := Lib.hid hxr
  have HSR := Lib.hid hsr
  have HB0 := Lib.hid hb0
  have HZ := Lib.hid hz1'
  clear hxr hsr hb0 hW1 hz1' c0 c1 c2 c3 d0 d1 d2 d3 f0 f1 f2 f3 q0 q1 q2 q3 q4 q5
  generalize hnr : (x.r0 : Int) % 60 = nr at *
  generalize hgv : (x.r1 : Int) % 40 = gv at *
  have HNR := Lib.hid hnr
  have HGV := Lib.hid hgv
  clear hnr hgv
  obtain ⟨c0, c1, c2, c3⟩ := HXR.out
  gi_loopw [3, 4, 5] (fun hv tv i wr => ∃ (k : Nat) (pr : Value), k ≤ x.many ∧ i = .int .i64 k ∧ MadeI W1 w.heap.size x nr gv k k k hv tv pr pr wr) (fun _ _ i _ => x.many - (intOf i).toNat)
  case atStart =>
    exact ⟨0, _, Nat.zero_le _, rfl, ⟨rfl, .inl ⟨rfl, rfl⟩⟩, ⟨rfl, .inl ⟨rfl, rfl⟩⟩, ⟨rfl, .inl ⟨rfl, rfl⟩⟩, nofun, nofun, nofun, HSR.out, But.refl _ _⟩
  case round =>
    clear c0 c1 c2 c3
    obtain ⟨k, pr, hk, rfl, hI⟩ := hrel
    obtain ⟨c0, c1, c2, c3⟩ := hI.but.c4 (by omega) HXR.out
    have HI := Lib.hid hI
    clear hI
    have hmy : x.many = max 1 (min 5 x.paints.length) := rfl
    by_cases hlt : k < x.many
    · have a2 := ((Bel.refl wr).alloc (.cells #[.int .u8 100, .int .u8 50, .int .u8 9, .int .u8 0, .int .u8 7] 82)).cell c2
      by_cases hpl : k < x.paints.length
      · obtain ⟨bb, off, rfl, e0, e1, e2, e3, e4⟩ := HPC.out k hpl
        have hbl := lt_of_cell e0
        have hcl : ∀ p u, p.block = bb → w.cell? p = some u → (wr.alloc (.cells #[.int .u8 100, .int .u8 50, .int .u8 9, .int .u8 0, .int .u8 7] 82)).cell? p = some u := fun p u hp hu => ((Bel.refl wr).alloc _).cell (HI.out.but.cell (by rw [hp]; simp at hbl; omega) (HB0.out.cell hu))
        replace e0 := hcl _ _ rfl e0
        replace e1 := hcl _ _ rfl e1
        replace e2 := hcl _ _ rfl e2
        replace e3 := hcl _ _ rfl e3
        replace e4 := hcl _ _ rfl e4
        have hbo := HX.out.paints k
        have HRS := Lib.hid (x.row_succ k)
        generalize x.paints.getD k .none = b at e0 e1 e2 e3 e4 hbo HRS
        have hlen : decide ((k : Int) < (x.paints.length : Int)) = true := by simp; omega
        clear hcl hbl
        by_cases hk0 : k = 0
        · subst hk0
          simp only [Nat.zero_mul, Nat.add_zero] at e0 e1 e2 e3 e4
          gi_wp2_with fail
          have HV3 := Lib.hid (show some wr.heap.size ≠ u3.ownBlock from fun e => absurd (HI.out.heats.lt _ e.symm).2 (Nat.lt_irrefl _))
          have HV4 := Lib.hid (show some wr.heap.size ≠ u4.ownBlock from fun e => absurd (HI.out.stretches.lt _ e.symm).2 (Nat.lt_irrefl _))
          have HBO := Lib.hid hbo
          have D7 := Lib.hid (show IntKind.i64.wrap (((b.heat : Nat) : Int) - ((b.b2 % 8 : Nat) : Int)) = b.paint.hl by obtain ⟨m0, m1, m2, m3, m4⟩ := hbo; rw [IntKind.wrap_i64]; simp only [B5.paint, B5.heat]; omega)
          have D13 := Lib.hid (show IntKind.i64.wrap (((b.heat : Nat) : Int) + ((b.b2 / 16 : Nat) : Int)) = b.paint.hh by obtain ⟨m0, m1, m2, m3, m4⟩ := hbo; rw [IntKind.wrap_i64]; simp only [B5.paint, B5.heat]; omega)
          have D20 := Lib.hid (show IntKind.i64.wrap (((b.stretch : Nat) : Int) - ((b.b3 % 8 : Nat) : Int)) = b.paint.sl by obtain ⟨m0, m1, m2, m3, m4⟩ := hbo; rw [IntKind.wrap_i64]; simp only [B5.paint, B5.stretch]; omega)
          have D26 := Lib.hid (show IntKind.i64.wrap (((b.stretch : Nat) : Int) + ((b.b3 / 32 : Nat) : Int)) = b.paint.sh by obtain ⟨m0, m1, m2, m3, m4⟩ := hbo; rw [IntKind.wrap_i64]; simp only [B5.paint, B5.stretch]; omega)
          clear c0 c1 c2 c3 a2 e0 e1 e2 e3 e4
          generalize hW2 : wr.alloc _ = W2
          have hc5 : C5 W2 wr.heap.size (.int .u8 (b.b0 : Int)) (.int .u8 (b.b1 : Int)) (.int .u8 (b.b2 : Int)) (.int .u8 (b.b3 : Int)) (.int .u8 (b.b4 : Int)) := by rw [← hW2]; exact C5.new _ _ _ _ _ _ _
          have hi2 : MadeI W1 w.heap.size x nr gv 0 0 0 u3 u4 pr pr W2 := by rw [← hW2]; exact HI.out.bel ((Bel.refl _).alloc _)
          have HC5 := Lib.hid hc5
          have HI2 := Lib.hid hi2
          have B0w := Lib.hid (show IntKind.i64.wrap (b.b0 : Int) = (b.b0 : Int) by have := hbo.1; rw [IntKind.wrap_i64]; omega)
          have B1w := Lib.hid (show IntKind.i64.wrap (600 + (b.b0 : Int)) = ((b.heat : Nat) : Int) by have := hbo.1; rw [IntKind.wrap_i64]; unfold B5.heat; omega)
          have B2w := Lib.hid (show IntKind.i64.wrap (b.b1 : Int) = (b.b1 : Int) by have := hbo.2.1; rw [IntKind.wrap_i64]; omega)
          have B3w := Lib.hid (show (b.b1 : Int).tmod 60 = ((b.b1 % 60 : Nat) : Int) from rfl)
          have B4w := Lib.hid (show IntKind.i64.wrap ((b.b1 % 60 : Nat) : Int) = ((b.b1 % 60 : Nat) : Int) by have := hbo.2.1; rw [IntKind.wrap_i64]; omega)
          have B5w := Lib.hid (show IntKind.i64.wrap (60 + ((b.b1 % 60 : Nat) : Int)) = ((b.stretch : Nat) : Int) by have := hbo.2.1; rw [IntKind.wrap_i64]; unfold B5.stretch; omega)
          clear hc5 hi2 hW2 HI hbo
          generalize wr.heap.size = V at *
          refine region_growF (fun i v W => match i with
            | 0 => v = .pointer (some ⟨V, 0, none⟩)
            | 1 => v = .int .u8 (b.b0 : Int)
            | 2 => v = .int .i64 ((b.b0 : Nat) : Int)
            | 3 => v = .int .i64 ((b.heat : Nat) : Int)
            | 4 => v = .pointer (some ⟨V, 1, none⟩)
            | 5 => v = .int .u8 (b.b1 : Int)
            | 6 => v = .int .i64 ((b.b1 : Nat) : Int)
            | 7 => v = .int .i64 ((b.b1 % 60 : Nat) : Int)
            | 8 => v = .int .i64 ((b.stretch : Nat) : Int)
            | 9 => v = .int .i64 ((b.heat : Nat) : Int)
            | 10 => v = .int .i64 ((b.stretch : Nat) : Int)
            | _ => True) ?gfa1 ?gframe1 (by kernel_rfl) (by kernel_rfl) (by kernel_rfl) ?gstays1 ?gops1 ?gfin1
          case gframe1 =>
            intro vs
            simp only [putAll, Act.put, List.setIfInBounds_toArray, List.set_cons_succ, List.set_cons_zero, Nat.reduceAdd, Nat.zero_add]
            exact rfl
          case gstays1 =>
            intro i v W W' h hb
            split at h <;> first | exact h | exact h.bel hb | exact fun e => (h e).bel hb | exact ⟨h.1.bel hb, h.2⟩
          case gops1 =>
            refine ⟨?_, ?_, ?_, ?_, ?_, ?_, ?_, ?_, ?_, ?_, ?_, trivial⟩
            · refine growOpF_k ?_; intro vs W hW hd K HK
              clear hd
              gi_wp2_with fail
              refine HK.out _ _ ?_ ?_ ?_
              · kernel_rfl
              · rfl
              · exact Bel.refl _
            · refine growOpF_k ?_; intro vs W hW hd K HK
              have h0 : (vs 0) = .pointer (some ⟨V, 0, none⟩) := hd 0 (by decide)
              clear hd
              have t0 := (HC5.out.bel hW).1
              simp only [h0]
              gi_wp2_with fail
              refine HK.out _ _ ?_ ?_ ?_
              · (try simp only [h0]) <;> kernel_rfl
              · rfl
              · exact Bel.refl _
            · refine growOpF_k ?_; intro vs W hW hd K HK
              have h1 : (vs 1) = .int .u8 (b.b0 : Int) := hd 1 (by decide)
              clear hd
              have q := B0w.out
              simp only [h1]
              gi_wp2_with fail
              refine HK.out _ _ ?_ ?_ ?_
              · (try simp only [h1]) <;> kernel_rfl
              · (first | rfl | (show _ = _; simp only [valOf]; congr 1; unfold B5.heat; omega) | (show _ = _; simp [valOf, B5.heat, B5.stretch]; omega) | (show _ = _; simp [valOf, B5.heat, B5.stretch]))
              · exact Bel.refl _
            · refine growOpF_k ?_; intro vs W hW hd K HK
              have h2 : (vs 2) = .int .i64 ((b.b0 : Nat) : Int) := hd 2 (by decide)
              clear hd
              have q := B1w.out
              simp only [h2]
              gi_wp2_with fail
              refine HK.out _ _ ?_ ?_ ?_
              · (try simp only [h2]) <;> kernel_rfl
              · (first | rfl | (show _ = _; simp only [valOf]; congr 1; unfold B5.heat; omega) | (show _ = _; simp [valOf, B5.heat, B5.stretch]; omega) | (show _ = _; simp [valOf, B5.heat, B5.stretch]))
              · exact Bel.refl _
            · refine growOpF_k ?_; intro vs W hW hd K HK
              clear hd
              gi_wp2_with fail
              refine HK.out _ _ ?_ ?_ ?_
              · kernel_rfl
              · rfl
              · exact Bel.refl _
            · refine growOpF_k ?_; intro vs W hW hd K HK
              have h4 : (vs 4) = .pointer (some ⟨V, 1, none⟩) := hd 4 (by decide)
              clear hd
              have t1 := (HC5.out.bel hW).2.1
              simp only [h4]
              gi_wp2_with fail
              refine HK.out _ _ ?_ ?_ ?_
              · (try simp only [h4]) <;> kernel_rfl
              · rfl
              · exact Bel.refl _
            · refine growOpF_k ?_; intro vs W hW hd K HK
              have h5 : (vs 5) = .int .u8 (b.b1 : Int) := hd 5 (by decide)
              clear hd
              have q := B2w.out
              simp only [h5]
              gi_wp2_with fail
              refine HK.out _ _ ?_ ?_ ?_
              · (try simp only [h5]) <;> kernel_rfl
              · (first | rfl | (show _ = _; simp only [valOf]; congr 1; unfold B5.heat; omega) | (show _ = _; simp [valOf, B5.heat, B5.stretch]; omega) | (show _ = _; simp [valOf, B5.heat, B5.stretch]))
              · exact Bel.refl _
            · refine growOpF_k ?_; intro vs W hW hd K HK
              have h6 : (vs 6) = .int .i64 ((b.b1 : Nat) : Int) := hd 6 (by decide)
              clear hd
              have q := B3w.out
              have q2 := B4w.out
              simp only [h6]
              gi_wp2_with fail
              refine HK.out _ _ ?_ ?_ ?_
              · (try simp only [h6]) <;> kernel_rfl
              · (first | rfl | (show _ = _; simp only [valOf]; congr 1; unfold B5.heat; omega) | (show _ = _; simp [valOf, B5.heat, B5.stretch]; omega) | (show _ = _; simp [valOf, B5.heat, B5.stretch]))
              · exact Bel.refl _
            · refine growOpF_k ?_; intro vs W hW hd K HK
              have h7 : (vs 7) = .int .i64 ((b.b1 % 60 : Nat) : Int) := hd 7 (by decide)
              clear hd
              have q := B5w.out
              simp only [h7]
              gi_wp2_with fail
              refine HK.out _ _ ?_ ?_ ?_
              · (try simp only [h7]) <;> kernel_rfl
              · (first | rfl | (show _ = _; simp only [valOf]; congr 1; unfold B5.heat; omega) | (show _ = _; simp [valOf, B5.heat, B5.stretch]; omega) | (show _ = _; simp [valOf, B5.heat, B5.stretch]))
              · exact Bel.refl _
            · refine growOpF_k ?_; intro vs W hW hd K HK
              have h3 : (vs 3) = .int .i64 ((b.heat : Nat) : Int) := hd 3 (by decide)
              clear hd
              simp only [h3]
              gi_wp2_with fail
              refine HK.out _ _ ?_ ?_ ?_
              · (try simp only [h3]) <;> kernel_rfl
              · rfl
              · exact Bel.refl _
            · refine growOpF_k ?_; intro vs W hW hd K HK
              have h8 : (vs 8) = .int .i64 ((b.stretch : Nat) : Int) := hd 8 (by decide)
              clear hd
              simp only [h8]
              gi_wp2_with fail
              refine HK.out _ _ ?_ ?_ ?_
              · (try simp only [h8]) <;> kernel_rfl
              · rfl
              · exact Bel.refl _
          case gfin1 =>
            intro vs W hW hall
            have g9 : vs 9 = .int .i64 ((b.heat : Nat) : Int) := hall 9 (by decide)
            have g10 : vs 10 = .int .i64 ((b.stretch : Nat) : Int) := hall 10 (by decide)
            clear hall
            simp only [g9, g10]
            have HI3 := Lib.hid (HI2.out.bel hW)
            have HC5b := Lib.hid (HC5.out.bel hW)
            have hVW := lt_of_cell HC5b.out.1
            have hm1 : 0 + 1 ≤ maxLen := by unfold maxLen; omega
            have hm2 : (0 + 1) * 8 ≤ 140737488355328 := by omega
            have hm3 : W1.heap.size ≤ (W.alloc (.cells #[.int .i64 (b.heat : Int)] 3)).heap.size := by have := HI3.out.but.size; simp; omega
            clear hW g9 g10
            gi_wp2_with (gi_at_builtin; first | (refine wpListIn_append_own2 rfl _ _ 32 rfl W1.heap.size 3 i0 (.int .i64 0) 1 8 Try.underlying32 hi hz0 hz1 hz2 rfl (by decide) _ _ _ rfl (HI3.out.bel ((Bel.refl _).alloc (.cells #[.int .i64 (b.heat : Int)] 3))).heats ⟨W.heap.size, 0, none⟩ 1 1 [.int .i64 (b.heat : Int)] rfl rfl (one_new _ _ _) (by simp [Value.oneCell']) hm1 hm2 hm3 ?_; intro v1 w4 ho1 hg1 hw1; have HI4 := Lib.hid ((HI3.out.bel ((Bel.refl _).alloc _)).heat HZ.out HRS.out ho1 hg1 hw1); have HC4 := Lib.hid ((HC5b.out.bel ((Bel.refl _).alloc _)).grown hg1 HV3.out); clear ho1 hg1 hw1 hm3; have hm3 : W1.heap.size ≤ (w4.alloc (.cells #[.int .i64 (b.stretch : Int)] 3)).heap.size := by have := HI4.out.but.size; simp; omega) | (refine wpListIn_append_own2 rfl _ _ 32 rfl W1.heap.size 3 i0 (.int .i64 0) 1 8 Try.underlying32 hi hz0 hz1 hz2 rfl (by decide) _ _ _ rfl (HI4.out.bel ((Bel.refl _).alloc (.cells #[.int .i64 (b.stretch : Int)] 3))).stretches ⟨w4.heap.size, 0, none⟩ 1 1 [.int .i64 (b.stretch : Int)] rfl rfl (one_new _ _ _) (by simp [Value.oneCell']) hm1 hm2 hm3 ?_; intro v2 w5 ho1 hg1 hw1; have HI5 := Lib.hid ((HI4.out.bel ((Bel.refl _).alloc _)).stretch HZ.out HRS.out ho1 hg1 hw1); have HC6 := Lib.hid ((HC4.out.bel ((Bel.refl _).alloc _)).grown hg1 HV4.out); clear ho1 hg1 hw1 hm3))
            clear hVW
            refine region_tailF 41 (fun i v W => match i with
              | 0 => v = .pointer (some ⟨w.heap.size + 1, 0, none⟩)
              | 1 => v = pr
              | 2 => v = .int .i64 ((b.heat : Nat) : Int)
              | 3 => v = .pointer (some ⟨V, 2, none⟩)
              | 4 => v = .int .u8 (b.b2 : Int)
              | 5 => v = .int .i64 ((b.b2 : Nat) : Int)
              | 6 => v = .int .i64 ((b.b2 % 8 : Nat) : Int)
              | 7 => v = .int .i64 b.paint.hl
              | 8 => v = .int .i64 ((b.heat : Nat) : Int)
              | 9 => v = .pointer (some ⟨V, 2, none⟩)
              | 10 => v = .int .u8 (b.b2 : Int)
              | 11 => v = .int .i64 ((b.b2 : Nat) : Int)
              | 12 => v = .int .i64 ((b.b2 / 16 : Nat) : Int)
              | 13 => v = .int .i64 b.paint.hh
              | 14 => v = .agg #[.int .i64 b.paint.hl, .int .i64 b.paint.hh]
              | 15 => v = .int .i64 ((b.stretch : Nat) : Int)
              | 16 => v = .pointer (some ⟨V, 3, none⟩)
              | 17 => v = .int .u8 (b.b3 : Int)
              | 18 => v = .int .i64 ((b.b3 : Nat) : Int)
              | 19 => v = .int .i64 ((b.b3 % 8 : Nat) : Int)
              | 20 => v = .int .i64 b.paint.sl
              | 21 => v = .int .i64 ((b.stretch : Nat) : Int)
              | 22 => v = .pointer (some ⟨V, 3, none⟩)
              | 23 => v = .int .u8 (b.b3 : Int)
              | 24 => v = .int .i64 ((b.b3 : Nat) : Int)
              | 25 => v = .int .i64 ((b.b3 / 32 : Nat) : Int)
              | 26 => v = .int .i64 b.paint.sh
              | 27 => v = .agg #[.int .i64 b.paint.sl, .int .i64 b.paint.sh]
              | 28 => v = .pointer (some ⟨V, 4, none⟩)
              | 29 => v = .int .u8 (b.b4 : Int)
              | 30 => v = .int .i64 ((b.b4 : Nat) : Int)
              | 31 => v = .int .i64 ((b.b4 % 3 : Nat) : Int)
              | 32 => v = .int .i64 b.paint.coats
              | 33 => v = .pointer (some ⟨V, 4, none⟩)
              | 34 => v = .int .u8 (b.b4 : Int)
              | 35 => v = .int .i64 ((b.b4 : Nat) : Int)
              | 36 => v = .int .i64 ((b.b4 / 4 : Nat) : Int)
              | 37 => v = .int .i64 ((b.b4 / 4 % 12 : Nat) : Int)
              | 38 => v = .int .i64 b.paint.most
              | 39 => v = .agg #[.int .i64 b.paint.hl, .int .i64 b.paint.hh, .int .i64 b.paint.sl, .int .i64 b.paint.sh, .int .i64 b.paint.coats, .int .i64 b.paint.most]
              | 40 => ∃ g, v = .slice (some ⟨g, 0, none⟩) 1 1 ∧ NewRow W g (paintRow b.paint)
              | _ => True) ?gfa2 ?gfb2 ?gframe2 ?gxframe2 (by kernel_rfl) (by kernel_rfl) (by kernel_rfl) (by kernel_rfl) ?gstays2 ?gops2 ?gfin2
            case gframe2 =>
              intro vs
              simp only [putAll, Act.put, List.setIfInBounds_toArray, List.set_cons_succ, List.set_cons_zero, Nat.reduceAdd, Nat.zero_add]
              exact rfl
            case gxframe2 =>
              intro vs
              simp only [putAll, Act.put, List.setIfInBounds_toArray, List.set_cons_succ, List.set_cons_zero, Nat.reduceAdd, Nat.zero_add, List.take_succ_cons, List.take_zero]
              exact rfl
            case gstays2 =>
              intro i v W W' h hb
              split at h <;> first | exact h | exact h.bel hb | exact fun e => (h e).bel hb | exact ⟨h.1.bel hb, h.2⟩ | (obtain ⟨g, h1, h2⟩ := h; exact ⟨g, h1, h2.bel hb⟩)
            case gops2 =>
              refine ⟨?_, ?_, ?_, ?_, ?_, ?_, ?_, ?_, ?_, ?_, ?_, ?_, ?_, ?_, ?_, ?_, ?_, ?_, ?_, ?_, ?_, ?_, ?_, ?_, ?_, ?_, ?_, ?_, ?_, ?_, ?_, ?_, ?_, ?_, ?_, ?_, ?_, ?_, ?_, ?_, ?_, trivial⟩
              · refine growOpF_k ?_; intro vs W hW hd K HK
                clear hd
                gi_wp2_with fail
                refine HK.out _ _ ?_ ?_ ?_
                · kernel_rfl
                · rfl
                · exact Bel.refl _
              · refine growOpF_k ?_; intro vs W hW hd K HK
                have h0 : (vs 0) = .pointer (some ⟨w.heap.size + 1, 0, none⟩) := hd 0 (by decide)
                clear hd
                have c0 := (HI5.out.bel hW).set.c4.1
                simp only [h0]
                gi_wp2_with fail
                refine HK.out _ _ ?_ ?_ ?_
                · (try simp only [h0]) <;> kernel_rfl
                · rfl
                · exact Bel.refl _
              · refine growOpF_k ?_; intro vs W hW hd K HK
                clear hd
                gi_wp2_with fail
                refine HK.out _ _ ?_ ?_ ?_
                · kernel_rfl
                · rfl
                · exact Bel.refl _
              · refine growOpF_k ?_; intro vs W hW hd K HK
                clear hd
                gi_wp2_with fail
                refine HK.out _ _ ?_ ?_ ?_
                · kernel_rfl
                · rfl
                · exact Bel.refl _
              · refine growOpF_k ?_; intro vs W hW hd K HK
                have h3 : (vs 3) = .pointer (some ⟨V, 2, none⟩) := hd 3 (by decide)
                clear hd
                have c0 := (HC6.out.bel hW).2.2.1
                simp only [h3]
                gi_wp2_with fail
                refine HK.out _ _ ?_ ?_ ?_
                · (try simp only [h3]) <;> kernel_rfl
                · rfl
                · exact Bel.refl _
              · refine growOpF_k ?_; intro vs W hW hd K HK
                have h4 : (vs 4) = .int .u8 (b.b2 : Int) := hd 4 (by decide)
                clear hd
                obtain ⟨m0, m1, m2, m3, m4⟩ := HBO.out
                simp only [h4]
                gi_wp2_with fail
                refine HK.out _ _ ?_ ?_ ?_
                · (try simp only [h4]) <;> kernel_rfl
                · (first | rfl | (show _ = _; simp only [valOf]; congr 1; simp only [wrap64, IntKind.wrap_i64, B5.paint, B5.heat, B5.stretch]; omega) | (show _ = _; simp [valOf, B5.paint, B5.heat, B5.stretch, wrap64]; omega))
                · exact Bel.refl _
              · refine growOpF_k ?_; intro vs W hW hd K HK
                have h5 : (vs 5) = .int .i64 ((b.b2 : Nat) : Int) := hd 5 (by decide)
                clear hd
                obtain ⟨m0, m1, m2, m3, m4⟩ := HBO.out
                simp only [h5]
                gi_wp2_with fail
                refine HK.out _ _ ?_ ?_ ?_
                · (try simp only [h5]) <;> kernel_rfl
                · (first | rfl | (show _ = _; simp only [valOf]; congr 1; simp only [wrap64, IntKind.wrap_i64, B5.paint, B5.heat, B5.stretch]; omega) | (show _ = _; simp [valOf, B5.paint, B5.heat, B5.stretch, wrap64]; omega))
                · exact Bel.refl _
              · refine growOpF_k ?_; intro vs W hW hd K HK
                have h2 : (vs 2) = .int .i64 ((b.heat : Nat) : Int) := hd 2 (by decide)
                have h6 : (vs 6) = .int .i64 ((b.b2 % 8 : Nat) : Int) := hd 6 (by decide)
                clear hd
                obtain ⟨m0, m1, m2, m3, m4⟩ := HBO.out
                have q := D7.out
                simp only [h2, h6]
                gi_wp2_with fail
                refine HK.out _ _ ?_ ?_ ?_
                · (try simp only [h2, h6]) <;> kernel_rfl
                · (first | rfl | (show _ = _; simp only [valOf]; congr 1; simp only [wrap64, B5.paint, B5.heat, B5.stretch]; omega) | (show _ = _; simp [valOf, B5.paint, B5.heat, B5.stretch, wrap64]; omega))
                · exact Bel.refl _
              · refine growOpF_k ?_; intro vs W hW hd K HK
                clear hd
                gi_wp2_with fail
                refine HK.out _ _ ?_ ?_ ?_
                · kernel_rfl
                · rfl
                · exact Bel.refl _
              · refine growOpF_k ?_; intro vs W hW hd K HK
                clear hd
                gi_wp2_with fail
                refine HK.out _ _ ?_ ?_ ?_
                · kernel_rfl
                · rfl
                · exact Bel.refl _
              · refine growOpF_k ?_; intro vs W hW hd K HK
                have h9 : (vs 9) = .pointer (some ⟨V, 2, none⟩) := hd 9 (by decide)
                clear hd
                have c0 := (HC6.out.bel hW).2.2.1
                simp only [h9]
                gi_wp2_with fail
                refine HK.out _ _ ?_ ?_ ?_
                · (try simp only [h9]) <;> kernel_rfl
                · rfl
                · exact Bel.refl _
              · refine growOpF_k ?_; intro vs W hW hd K HK
                have h10 : (vs 10) = .int .u8 (b.b2 : Int) := hd 10 (by decide)
                clear hd
                obtain ⟨m0, m1, m2, m3, m4⟩ := HBO.out
                simp only [h10]
                gi_wp2_with fail
                refine HK.out _ _ ?_ ?_ ?_
                · (try simp only [h10]) <;> kernel_rfl
                · (first | rfl | (show _ = _; simp only [valOf]; congr 1; simp only [wrap64, IntKind.wrap_i64, B5.paint, B5.heat, B5.stretch]; omega) | (show _ = _; simp [valOf, B5.paint, B5.heat, B5.stretch, wrap64]; omega))
                · exact Bel.refl _
              · refine growOpF_k ?_; intro vs W hW hd K HK
                have h11 : (vs 11) = .int .i64 ((b.b2 : Nat) : Int) := hd 11 (by decide)
                clear hd
                obtain ⟨m0, m1, m2, m3, m4⟩ := HBO.out
                simp only [h11]
                gi_wp2_with fail
                refine HK.out _ _ ?_ ?_ ?_
                · (try simp only [h11]) <;> kernel_rfl
                · (first | rfl | (show _ = _; simp only [valOf]; congr 1; simp only [wrap64, IntKind.wrap_i64, B5.paint, B5.heat, B5.stretch]; omega) | (show _ = _; simp [valOf, B5.paint, B5.heat, B5.stretch, wrap64]; omega))
                · exact Bel.refl _
              · refine growOpF_k ?_; intro vs W hW hd K HK
                have h8 : (vs 8) = .int .i64 ((b.heat : Nat) : Int) := hd 8 (by decide)
                have h12 : (vs 12) = .int .i64 ((b.b2 / 16 : Nat) : Int) := hd 12 (by decide)
                clear hd
                obtain ⟨m0, m1, m2, m3, m4⟩ := HBO.out
                have q := D13.out
                simp only [h8, h12]
                gi_wp2_with fail
                refine HK.out _ _ ?_ ?_ ?_
                · (try simp only [h8, h12]) <;> kernel_rfl
                · (first | rfl | (show _ = _; simp only [valOf]; congr 1; simp only [wrap64, B5.paint, B5.heat, B5.stretch]; omega) | (show _ = _; simp [valOf, B5.paint, B5.heat, B5.stretch, wrap64]; omega))
                · exact Bel.refl _
              · refine growOpF_k ?_; intro vs W hW hd K HK
                have h7 : (vs 7) = .int .i64 b.paint.hl := hd 7 (by decide)
                have h13 : (vs 13) = .int .i64 b.paint.hh := hd 13 (by decide)
                clear hd
                simp only [h7, h13]
                gi_wp2_with fail
                refine ⟨trivial, rfl, (callsW (span_any _ _ _)).mono ?_⟩
                rintro e W' ⟨rfl, hb⟩
                gi_wp2_with fail
                refine HK.out _ _ ?_ ?_ ?_
                · (try simp only [h7, h13]) <;> kernel_rfl
                · rfl
                · exact hb
              · refine growOpF_k ?_; intro vs W hW hd K HK
                clear hd
                gi_wp2_with fail
                refine HK.out _ _ ?_ ?_ ?_
                · kernel_rfl
                · rfl
                · exact Bel.refl _
              · refine growOpF_k ?_; intro vs W hW hd K HK
                clear hd
                gi_wp2_with fail
                refine HK.out _ _ ?_ ?_ ?_
                · kernel_rfl
                · rfl
                · exact Bel.refl _
              · refine growOpF_k ?_; intro vs W hW hd K HK
                have h16 : (vs 16) = .pointer (some ⟨V, 3, none⟩) := hd 16 (by decide)
                clear hd
                have c0 := (HC6.out.bel hW).2.2.2.1
                simp only [h16]
                gi_wp2_with fail
                refine HK.out _ _ ?_ ?_ ?_
                · (try simp only [h16]) <;> kernel_rfl
                · rfl
                · exact Bel.refl _
              · refine growOpF_k ?_; intro vs W hW hd K HK
                have h17 : (vs 17) = .int .u8 (b.b3 : Int) := hd 17 (by decide)
                clear hd
                obtain ⟨m0, m1, m2, m3, m4⟩ := HBO.out
                simp only [h17]
                gi_wp2_with fail
                refine HK.out _ _ ?_ ?_ ?_
                · (try simp only [h17]) <;> kernel_rfl
                · (first | rfl | (show _ = _; simp only [valOf]; congr 1; simp only [wrap64, IntKind.wrap_i64, B5.paint, B5.heat, B5.stretch]; omega) | (show _ = _; simp [valOf, B5.paint, B5.heat, B5.stretch, wrap64]; omega))
                · exact Bel.refl _
              · refine growOpF_k ?_; intro vs W hW hd K HK
                have h18 : (vs 18) = .int .i64 ((b.b3 : Nat) : Int) := hd 18 (by decide)
                clear hd
                obtain ⟨m0, m1, m2, m3, m4⟩ := HBO.out
                simp only [h18]
                gi_wp2_with fail
                refine HK.out _ _ ?_ ?_ ?_
                · (try simp only [h18]) <;> kernel_rfl
                · (first | rfl | (show _ = _; simp only [valOf]; congr 1; simp only [wrap64, IntKind.wrap_i64, B5.paint, B5.heat, B5.stretch]; omega) | (show _ = _; simp [valOf, B5.paint, B5.heat, B5.stretch, wrap64]; omega))
                · exact Bel.refl _
              · refine growOpF_k ?_; intro vs W hW hd K HK
                have h15 : (vs 15) = .int .i64 ((b.stretch : Nat) : Int) := hd 15 (by decide)
                have h19 : (vs 19) = .int .i64 ((b.b3 % 8 : Nat) : Int) := hd 19 (by decide)
                clear hd
                obtain ⟨m0, m1, m2, m3, m4⟩ := HBO.out
                have q := D20.out
                simp only [h15, h19]
                gi_wp2_with fail
                refine HK.out _ _ ?_ ?_ ?_
                · (try simp only [h15, h19]) <;> kernel_rfl
                · (first | rfl | (show _ = _; simp only [valOf]; congr 1; simp only [wrap64, B5.paint, B5.heat, B5.stretch]; omega) | (show _ = _; simp [valOf, B5.paint, B5.heat, B5.stretch, wrap64]; omega))
                · exact Bel.refl _
              · refine growOpF_k ?_; intro vs W hW hd K HK
                clear hd
                gi_wp2_with fail
                refine HK.out _ _ ?_ ?_ ?_
                · kernel_rfl
                · rfl
                · exact Bel.refl _
              · refine growOpF_k ?_; intro vs W hW hd K HK
                clear hd
                gi_wp2_with fail
                refine HK.out _ _ ?_ ?_ ?_
                · kernel_rfl
                · rfl
                · exact Bel.refl _
              · refine growOpF_k ?_; intro vs W hW hd K HK
                have h22 : (vs 22) = .pointer (some ⟨V, 3, none⟩) := hd 22 (by decide)
                clear hd
                have c0 := (HC6.out.bel hW).2.2.2.1
                simp only [h22]
                gi_wp2_with fail
                refine HK.out _ _ ?_ ?_ ?_
                · (try simp only [h22]) <;> kernel_rfl
                · rfl
                · exact Bel.refl _
              · refine growOpF_k ?_; intro vs W hW hd K HK
                have h23 : (vs 23) = .int .u8 (b.b3 : Int) := hd 23 (by decide)
                clear hd
                obtain ⟨m0, m1, m2, m3, m4⟩ := HBO.out
                simp only [h23]
                gi_wp2_with fail
                refine HK.out _ _ ?_ ?_ ?_
                · (try simp only [h23]) <;> kernel_rfl
                · (first | rfl | (show _ = _; simp only [valOf]; congr 1; simp only [wrap64, IntKind.wrap_i64, B5.paint, B5.heat, B5.stretch]; omega) | (show _ = _; simp [valOf, B5.paint, B5.heat, B5.stretch, wrap64]; omega))
                · exact Bel.refl _
              · refine growOpF_k ?_; intro vs W hW hd K HK
                have h24 : (vs 24) = .int .i64 ((b.b3 : Nat) : Int) := hd 24 (by decide)
                clear hd
                obtain ⟨m0, m1, m2, m3, m4⟩ := HBO.out
                simp only [h24]
                gi_wp2_with fail
                refine HK.out _ _ ?_ ?_ ?_
                · (try simp only [h24]) <;> kernel_rfl
                · (first | rfl | (show _ = _; simp only [valOf]; congr 1; simp only [wrap64, IntKind.wrap_i64, B5.paint, B5.heat, B5.stretch]; omega) | (show _ = _; simp [valOf, B5.paint, B5.heat, B5.stretch, wrap64]; omega))
                · exact Bel.refl _
              · refine growOpF_k ?_; intro vs W hW hd K HK
                have h21 : (vs 21) = .int .i64 ((b.stretch : Nat) : Int) := hd 21 (by decide)
                have h25 : (vs 25) = .int .i64 ((b.b3 / 32 : Nat) : Int) := hd 25 (by decide)
                clear hd
                obtain ⟨m0, m1, m2, m3, m4⟩ := HBO.out
                have q := D26.out
                simp only [h21, h25]
                gi_wp2_with fail
                refine HK.out _ _ ?_ ?_ ?_
                · (try simp only [h21, h25]) <;> kernel_rfl
                · (first | rfl | (show _ = _; simp only [valOf]; congr 1; simp only [wrap64, B5.paint, B5.heat, B5.stretch]; omega) | (show _ = _; simp [valOf, B5.paint, B5.heat, B5.stretch, wrap64]; omega))
                · exact Bel.refl _
              · refine growOpF_k ?_; intro vs W hW hd K HK
                have h20 : (vs 20) = .int .i64 b.paint.sl := hd 20 (by decide)
                have h26 : (vs 26) = .int .i64 b.paint.sh := hd 26 (by decide)
                clear hd
                simp only [h20, h26]
                gi_wp2_with fail
                refine ⟨trivial, rfl, (callsW (span_any _ _ _)).mono ?_⟩
                rintro e W' ⟨rfl, hb⟩
                gi_wp2_with fail
                refine HK.out _ _ ?_ ?_ ?_
                · (try simp only [h20, h26]) <;> kernel_rfl
                · rfl
                · exact hb
              · refine growOpF_k ?_; intro vs W hW hd K HK
                clear hd
                gi_wp2_with fail
                refine HK.out _ _ ?_ ?_ ?_
                · kernel_rfl
                · rfl
                · exact Bel.refl _
              · refine growOpF_k ?_; intro vs W hW hd K HK
                have h28 : (vs 28) = .pointer (some ⟨V, 4, none⟩) := hd 28 (by decide)
                clear hd
                have c0 := (HC6.out.bel hW).2.2.2.2
                simp only [h28]
                gi_wp2_with fail
                refine HK.out _ _ ?_ ?_ ?_
                · (try simp only [h28]) <;> kernel_rfl
                · rfl
                · exact Bel.refl _
              · refine growOpF_k ?_; intro vs W hW hd K HK
                have h29 : (vs 29) = .int .u8 (b.b4 : Int) := hd 29 (by decide)
                clear hd
                obtain ⟨m0, m1, m2, m3, m4⟩ := HBO.out
                simp only [h29]
                gi_wp2_with fail
                refine HK.out _ _ ?_ ?_ ?_
                · (try simp only [h29]) <;> kernel_rfl
                · (first | rfl | (show _ = _; simp only [valOf]; congr 1; simp only [wrap64, IntKind.wrap_i64, B5.paint, B5.heat, B5.stretch]; omega) | (show _ = _; simp [valOf, B5.paint, B5.heat, B5.stretch, wrap64]; omega))
                · exact Bel.refl _
              · refine growOpF_k ?_; intro vs W hW hd K HK
                have h30 : (vs 30) = .int .i64 ((b.b4 : Nat) : Int) := hd 30 (by decide)
                clear hd
                obtain ⟨m0, m1, m2, m3, m4⟩ := HBO.out
                simp only [h30]
                gi_wp2_with fail
                refine HK.out _ _ ?_ ?_ ?_
                · (try simp only [h30]) <;> kernel_rfl
                · (first | rfl | (show _ = _; simp only [valOf]; congr 1; simp only [wrap64, IntKind.wrap_i64, B5.paint, B5.heat, B5.stretch]; omega) | (show _ = _; simp [valOf, B5.paint, B5.heat, B5.stretch, wrap64]; omega))
                · exact Bel.refl _
              · refine growOpF_k ?_; intro vs W hW hd K HK
                have h31 : (vs 31) = .int .i64 ((b.b4 % 3 : Nat) : Int) := hd 31 (by decide)
                clear hd
                obtain ⟨m0, m1, m2, m3, m4⟩ := HBO.out
                simp only [h31]
                gi_wp2_with fail
                refine HK.out _ _ ?_ ?_ ?_
                · (try simp only [h31]) <;> kernel_rfl
                · (first | rfl | (show _ = _; simp only [valOf]; congr 1; simp only [wrap64, IntKind.wrap_i64, B5.paint, B5.heat, B5.stretch]; omega) | (show _ = _; simp [valOf, B5.paint, B5.heat, B5.stretch, wrap64]; omega))
                · exact Bel.refl _
              · refine growOpF_k ?_; intro vs W hW hd K HK
                clear hd
                gi_wp2_with fail
                refine HK.out _ _ ?_ ?_ ?_
                · kernel_rfl
                · rfl
                · exact Bel.refl _
              · refine growOpF_k ?_; intro vs W hW hd K HK
                have h33 : (vs 33) = .pointer (some ⟨V, 4, none⟩) := hd 33 (by decide)
                clear hd
                have c0 := (HC6.out.bel hW).2.2.2.2
                simp only [h33]
                gi_wp2_with fail
                refine HK.out _ _ ?_ ?_ ?_
                · (try simp only [h33]) <;> kernel_rfl
                · rfl
                · exact Bel.refl _
              · refine growOpF_k ?_; intro vs W hW hd K HK
                have h34 : (vs 34) = .int .u8 (b.b4 : Int) := hd 34 (by decide)
                clear hd
                obtain ⟨m0, m1, m2, m3, m4⟩ := HBO.out
                simp only [h34]
                gi_wp2_with fail
                refine HK.out _ _ ?_ ?_ ?_
                · (try simp only [h34]) <;> kernel_rfl
                · (first | rfl | (show _ = _; simp only [valOf]; congr 1; simp only [wrap64, IntKind.wrap_i64, B5.paint, B5.heat, B5.stretch]; omega) | (show _ = _; simp [valOf, B5.paint, B5.heat, B5.stretch, wrap64]; omega))
                · exact Bel.refl _
              · refine growOpF_k ?_; intro vs W hW hd K HK
                have h35 : (vs 35) = .int .i64 ((b.b4 : Nat) : Int) := hd 35 (by decide)
                clear hd
                obtain ⟨m0, m1, m2, m3, m4⟩ := HBO.out
                simp only [h35]
                gi_wp2_with fail
                refine HK.out _ _ ?_ ?_ ?_
                · (try simp only [h35]) <;> kernel_rfl
                · (first | rfl | (show _ = _; simp only [valOf]; congr 1; simp only [wrap64, IntKind.wrap_i64, B5.paint, B5.heat, B5.stretch]; omega) | (show _ = _; simp [valOf, B5.paint, B5.heat, B5.stretch, wrap64]; omega))
                · exact Bel.refl _
              · refine growOpF_k ?_; intro vs W hW hd K HK
                have h36 : (vs 36) = .int .i64 ((b.b4 / 4 : Nat) : Int) := hd 36 (by decide)
                clear hd
                obtain ⟨m0, m1, m2, m3, m4⟩ := HBO.out
                simp only [h36]
                gi_wp2_with fail
                refine HK.out _ _ ?_ ?_ ?_
                · (try simp only [h36]) <;> kernel_rfl
                · (first | rfl | (show _ = _; simp only [valOf]; congr 1; simp only [wrap64, IntKind.wrap_i64, B5.paint, B5.heat, B5.stretch]; omega) | (show _ = _; simp [valOf, B5.paint, B5.heat, B5.stretch, wrap64]; omega))
                · exact Bel.refl _
              · refine growOpF_k ?_; intro vs W hW hd K HK
                have h37 : (vs 37) = .int .i64 ((b.b4 / 4 % 12 : Nat) : Int) := hd 37 (by decide)
                clear hd
                obtain ⟨m0, m1, m2, m3, m4⟩ := HBO.out
                simp only [h37]
                gi_wp2_with fail
                refine HK.out _ _ ?_ ?_ ?_
                · (try simp only [h37]) <;> kernel_rfl
                · (first | rfl | (show _ = _; simp only [valOf]; congr 1; simp only [wrap64, IntKind.wrap_i64, B5.paint, B5.heat, B5.stretch]; omega) | (show _ = _; simp [valOf, B5.paint, B5.heat, B5.stretch, wrap64]; omega))
                · exact Bel.refl _
              · refine growOpF_k ?_; intro vs W hW hd K HK
                have h14 : (vs 14) = .agg #[.int .i64 b.paint.hl, .int .i64 b.paint.hh] := hd 14 (by decide)
                have h27 : (vs 27) = .agg #[.int .i64 b.paint.sl, .int .i64 b.paint.sh] := hd 27 (by decide)
                have h32 : (vs 32) = .int .i64 b.paint.coats := hd 32 (by decide)
                have h38 : (vs 38) = .int .i64 b.paint.most := hd 38 (by decide)
                clear hd
                simp only [h14, h27, h32, h38]
                gi_wp2_with fail
                refine ⟨trivial, rfl, (callsW (paint_any _ _ _ _ _ _ _)).mono ?_⟩
                rintro e W' ⟨rfl, hb⟩
                gi_wp2_with fail
                refine HK.out _ _ ?_ ?_ ?_
                · (try simp only [h14, h27, h32, h38]) <;> kernel_rfl
                · rfl
                · exact hb
              · refine growOpF_k ?_; intro vs W hW hd K HK
                have h39 : (vs 39) = .agg #[.int .i64 b.paint.hl, .int .i64 b.paint.hh, .int .i64 b.paint.sl, .int .i64 b.paint.sh, .int .i64 b.paint.coats, .int .i64 b.paint.most] := hd 39 (by decide)
                clear hd
                simp only [h39]
                gi_wp2_with fail
                refine HK.out _ _ ?_ ?_ ?_
                · (try simp only [h39]) <;> kernel_rfl
                · exact ⟨_, rfl, NewRow.new _ _ _⟩
                · exact (Bel.refl _).alloc _
            case gfin2 =>
              intro vs W hW hall
              have g1 : vs 1 = pr := hall 1 (by decide)
              have g40 : ∃ g, vs 40 = .slice (some ⟨g, 0, none⟩) 1 1 ∧ NewRow W (g) (paintRow b.paint) := hall 40 (by decide)
              clear hall
              obtain ⟨g, g40, hnr⟩ := g40
              simp only [List.drop_succ_cons, List.drop_zero, g1, g40]
              have HI6 := Lib.hid (HI5.out.bel hW)
              have HNR := Lib.hid hnr
              have hm3 : W1.heap.size ≤ W.heap.size := HI6.out.but.size
              have hm4 : (0 + 1) * 48 ≤ 140737488355328 := by omega
              clear hW g1 g40 hnr
              gi_wp2_with (gi_at_builtin; refine wpListIn_append_own2 rfl _ _ 28 rfl W1.heap.size 56 i1 _ 6 48 Try.underlying28 hp hy0 hy1 hy2 rfl (by decide) _ _ _ rfl HI6.out.paints ⟨g, 0, none⟩ 1 1 (paintRow b.paint) rfl rfl HNR.out (by simp [paintRow, Value.oneCell']) hm1 hm4 hm3 ?_; intro v3 w6 ho1 hg1 hw1; obtain ⟨xa, xc, rfl⟩ := own_sln ho1; have HI7 := Lib.hid (HI6.out.paint HZ.out HRS.out ho1 hg1 hw1); have s0 := HI7.out.set.c4.1; have s1 := HI7.out.set.fro 0; clear ho1 hg1 hw1 hm3)
              have HI8 := Lib.hid (HI7.out.store HZ.out (.slice xa (0 + 1) xc))
              clear hm4
              go_roundw
              case rel =>
                refine ⟨0 + 1, _, by omega, by go_num, HI8.out⟩
              case measure => simp [intOf]; omega
        · have hk0d : ((k : Int) == 0) = false := beq_eq_false_iff_ne.2 (by omega)
          have hk5 : decide ((k : Int) < 5) = true := decide_eq_true (by omega)
          gi_wp2_with fail
          have HV3 := Lib.hid (show some wr.heap.size ≠ u3.ownBlock from fun e => absurd (HI.out.heats.lt _ e.symm).2 (Nat.lt_irrefl _))
          have HV4 := Lib.hid (show some wr.heap.size ≠ u4.ownBlock from fun e => absurd (HI.out.stretches.lt _ e.symm).2 (Nat.lt_irrefl _))
          have HBO := Lib.hid hbo
          have D7 := Lib.hid (show IntKind.i64.wrap (((b.heat : Nat) : Int) - ((b.b2 % 8 : Nat) : Int)) = b.paint.hl by obtain ⟨m0, m1, m2, m3, m4⟩ := hbo; rw [IntKind.wrap_i64]; simp only [B5.paint, B5.heat]; omega)
          have D13 := Lib.hid (show IntKind.i64.wrap (((b.heat : Nat) : Int) + ((b.b2 / 16 : Nat) : Int)) = b.paint.hh by obtain ⟨m0, m1, m2, m3, m4⟩ := hbo; rw [IntKind.wrap_i64]; simp only [B5.paint, B5.heat]; omega)
          have D20 := Lib.hid (show IntKind.i64.wrap (((b.stretch : Nat) : Int) - ((b.b3 % 8 : Nat) : Int)) = b.paint.sl by obtain ⟨m0, m1, m2, m3, m4⟩ := hbo; rw [IntKind.wrap_i64]; simp only [B5.paint, B5.stretch]; omega)
          have D26 := Lib.hid (show IntKind.i64.wrap (((b.stretch : Nat) : Int) + ((b.b3 / 32 : Nat) : Int)) = b.paint.sh by obtain ⟨m0, m1, m2, m3, m4⟩ := hbo; rw [IntKind.wrap_i64]; simp only [B5.paint, B5.stretch]; omega)
          clear c0 c1 c2 c3 a2 e0 e1 e2 e3 e4
          generalize hW2 : wr.alloc _ = W2
          have hc5 : C5 W2 wr.heap.size (.int .u8 (b.b0 : Int)) (.int .u8 (b.b1 : Int)) (.int .u8 (b.b2 : Int)) (.int .u8 (b.b3 : Int)) (.int .u8 (b.b4 : Int)) := by rw [← hW2]; exact C5.new _ _ _ _ _ _ _
          have hi2 : MadeI W1 w.heap.size x nr gv k k k u3 u4 pr pr W2 := by rw [← hW2]; exact HI.out.bel ((Bel.refl _).alloc _)
          have HC5 := Lib.hid hc5
          have HI2 := Lib.hid hi2
          have B0w := Lib.hid (show IntKind.i64.wrap (b.b0 : Int) = (b.b0 : Int) by have := hbo.1; rw [IntKind.wrap_i64]; omega)
          have B1w := Lib.hid (show IntKind.i64.wrap (600 + (b.b0 : Int)) = ((b.heat : Nat) : Int) by have := hbo.1; rw [IntKind.wrap_i64]; unfold B5.heat; omega)
          have B2w := Lib.hid (show IntKind.i64.wrap (b.b1 : Int) = (b.b1 : Int) by have := hbo.2.1; rw [IntKind.wrap_i64]; omega)
          have B3w := Lib.hid (show (b.b1 : Int).tmod 60 = ((b.b1 % 60 : Nat) : Int) from rfl)
          have B4w := Lib.hid (show IntKind.i64.wrap ((b.b1 % 60 : Nat) : Int) = ((b.b1 % 60 : Nat) : Int) by have := hbo.2.1; rw [IntKind.wrap_i64]; omega)
          have B5w := Lib.hid (show IntKind.i64.wrap (60 + ((b.b1 % 60 : Nat) : Int)) = ((b.stretch : Nat) : Int) by have := hbo.2.1; rw [IntKind.wrap_i64]; unfold B5.stretch; omega)
          clear hc5 hi2 hW2 HI hbo
          generalize wr.heap.size = V at *
          refine region_growF (fun i v W => match i with
            | 0 => v = .pointer (some ⟨V, 0, none⟩)
            | 1 => v = .int .u8 (b.b0 : Int)
            | 2 => v = .int .i64 ((b.b0 : Nat) : Int)
            | 3 => v = .int .i64 ((b.heat : Nat) : Int)
            | 4 => v = .pointer (some ⟨V, 1, none⟩)
            | 5 => v = .int .u8 (b.b1 : Int)
            | 6 => v = .int .i64 ((b.b1 : Nat) : Int)
            | 7 => v = .int .i64 ((b.b1 % 60 : Nat) : Int)
            | 8 => v = .int .i64 ((b.stretch : Nat) : Int)
            | 9 => v = .int .i64 ((b.heat : Nat) : Int)
            | 10 => v = .int .i64 ((b.stretch : Nat) : Int)
            | _ => True) ?gfa3 ?gframe3 (by kernel_rfl) (by kernel_rfl) (by kernel_rfl) ?gstays3 ?gops3 ?gfin3
          case gframe3 =>
            intro vs
            simp only [putAll, Act.put, List.setIfInBounds_toArray, List.set_cons_succ, List.set_cons_zero, Nat.reduceAdd, Nat.zero_add]
            exact rfl
          case gstays3 =>
            intro i v W W' h hb
            split at h <;> first | exact h | exact h.bel hb | exact fun e => (h e).bel hb | exact ⟨h.1.bel hb, h.2⟩
          case gops3 =>
            refine ⟨?_, ?_, ?_, ?_, ?_, ?_, ?_, ?_, ?_, ?_, ?_, trivial⟩
            · refine growOpF_k ?_; intro vs W hW hd K HK
              clear hd
              gi_wp2_with fail
              refine HK.out _ _ ?_ ?_ ?_
              · kernel_rfl
              · rfl
              · exact Bel.refl _
            · refine growOpF_k ?_; intro vs W hW hd K HK
              have h0 : (vs 0) = .pointer (some ⟨V, 0, none⟩) := hd 0 (by decide)
              clear hd
              have t0 := (HC5.out.bel hW).1
              simp only [h0]
              gi_wp2_with fail
              refine HK.out _ _ ?_ ?_ ?_
              · (try simp only [h0]) <;> kernel_rfl
              · rfl
              · exact Bel.refl _
            · refine growOpF_k ?_; intro vs W hW hd K HK
              have h1 : (vs 1) = .int .u8 (b.b0 : Int) := hd 1 (by decide)
              clear hd
              have q := B0w.out
              simp only [h1]
              gi_wp2_with fail
              refine HK.out _ _ ?_ ?_ ?_
              · (try simp only [h1]) <;> kernel_rfl
              · (first | rfl | (show _ = _; simp only [valOf]; congr 1; unfold B5.heat; omega) | (show _ = _; simp [valOf, B5.heat, B5.stretch]; omega) | (show _ = _; simp [valOf, B5.heat, B5.stretch]))
              · exact Bel.refl _
            · refine growOpF_k ?_; intro vs W hW hd K HK
              have h2 : (vs 2) = .int .i64 ((b.b0 : Nat) : Int) := hd 2 (by decide)
              clear hd
              have q := B1w.out
              simp only [h2]
              gi_wp2_with fail
              refine HK.out _ _ ?_ ?_ ?_
              · (try simp only [h2]) <;> kernel_rfl
              · (first | rfl | (show _ = _; simp only [valOf]; congr 1; unfold B5.heat; omega) | (show _ = _; simp [valOf, B5.heat, B5.stretch]; omega) | (show _ = _; simp [valOf, B5.heat, B5.stretch]))
              · exact Bel.refl _
            · refine growOpF_k ?_; intro vs W hW hd K HK
              clear hd
              gi_wp2_with fail
              refine HK.out _ _ ?_ ?_ ?_
              · kernel_rfl
              · rfl
              · exact Bel.refl _
            · refine growOpF_k ?_; intro vs W hW hd K HK
              have h4 : (vs 4) = .pointer (some ⟨V, 1, none⟩) := hd 4 (by decide)
              clear hd
              have t1 := (HC5.out.bel hW).2.1
              simp only [h4]
              gi_wp2_with fail
              refine HK.out _ _ ?_ ?_ ?_
              · (try simp only [h4]) <;> kernel_rfl
              · rfl
              · exact Bel.refl _
            · refine growOpF_k ?_; intro vs W hW hd K HK
              have h5 : (vs 5) = .int .u8 (b.b1 : Int) := hd 5 (by decide)
              clear hd
              have q := B2w.out
              simp only [h5]
              gi_wp2_with fail
              refine HK.out _ _ ?_ ?_ ?_
              · (try simp only [h5]) <;> kernel_rfl
              · (first | rfl | (show _ = _; simp only [valOf]; congr 1; unfold B5.heat; omega) | (show _ = _; simp [valOf, B5.heat, B5.stretch]; omega) | (show _ = _; simp [valOf, B5.heat, B5.stretch]))
              · exact Bel.refl _
            · refine growOpF_k ?_; intro vs W hW hd K HK
              have h6 : (vs 6) = .int .i64 ((b.b1 : Nat) : Int) := hd 6 (by decide)
              clear hd
              have q := B3w.out
              have q2 := B4w.out
              simp only [h6]
              gi_wp2_with fail
              refine HK.out _ _ ?_ ?_ ?_
              · (try simp only [h6]) <;> kernel_rfl
              · (first | rfl | (show _ = _; simp only [valOf]; congr 1; unfold B5.heat; omega) | (show _ = _; simp [valOf, B5.heat, B5.stretch]; omega) | (show _ = _; simp [valOf, B5.heat, B5.stretch]))
              · exact Bel.refl _
            · refine growOpF_k ?_; intro vs W hW hd K HK
              have h7 : (vs 7) = .int .i64 ((b.b1 % 60 : Nat) : Int) := hd 7 (by decide)
              clear hd
              have q := B5w.out
              simp only [h7]
              gi_wp2_with fail
              refine HK.out _ _ ?_ ?_ ?_
              · (try simp only [h7]) <;> kernel_rfl
              · (first | rfl | (show _ = _; simp only [valOf]; congr 1; unfold B5.heat; omega) | (show _ = _; simp [valOf, B5.heat, B5.stretch]; omega) | (show _ = _; simp [valOf, B5.heat, B5.stretch]))
              · exact Bel.refl _
            · refine growOpF_k ?_; intro vs W hW hd K HK
              have h3 : (vs 3) = .int .i64 ((b.heat : Nat) : Int) := hd 3 (by decide)
              clear hd
              simp only [h3]
              gi_wp2_with fail
              refine HK.out _ _ ?_ ?_ ?_
              · (try simp only [h3]) <;> kernel_rfl
              · rfl
              · exact Bel.refl _
            · refine growOpF_k ?_; intro vs W hW hd K HK
              have h8 : (vs 8) = .int .i64 ((b.stretch : Nat) : Int) := hd 8 (by decide)
              clear hd
              simp only [h8]
              gi_wp2_with fail
              refine HK.out _ _ ?_ ?_ ?_
              · (try simp only [h8]) <;> kernel_rfl
              · rfl
              · exact Bel.refl _
          case gfin3 =>
            intro vs W hW hall
            have g9 : vs 9 = .int .i64 ((b.heat : Nat) : Int) := hall 9 (by decide)
            have g10 : vs 10 = .int .i64 ((b.stretch : Nat) : Int) := hall 10 (by decide)
            clear hall
            simp only [g9, g10]
            have HI3 := Lib.hid (HI2.out.bel hW)
            have HC5b := Lib.hid (HC5.out.bel hW)
            have hVW := lt_of_cell HC5b.out.1
            have hm1 : k + 1 ≤ maxLen := by unfold maxLen; omega
            have hm2 : (k + 1) * 8 ≤ 140737488355328 := by omega
            have hm3 : W1.heap.size ≤ (W.alloc (.cells #[.int .i64 (b.heat : Int)] 3)).heap.size := by have := HI3.out.but.size; simp; omega
            clear hW g9 g10
            gi_wp2_with (gi_at_builtin; first | (refine wpListIn_append_own2 rfl _ _ 32 rfl W1.heap.size 3 i0 (.int .i64 0) 1 8 Try.underlying32 hi hz0 hz1 hz2 rfl (by decide) _ _ _ rfl (HI3.out.bel ((Bel.refl _).alloc (.cells #[.int .i64 (b.heat : Int)] 3))).heats ⟨W.heap.size, 0, none⟩ 1 1 [.int .i64 (b.heat : Int)] rfl rfl (one_new _ _ _) (by simp [Value.oneCell']) hm1 hm2 hm3 ?_; intro v1 w4 ho1 hg1 hw1; have HI4 := Lib.hid ((HI3.out.bel ((Bel.refl _).alloc _)).heat HZ.out HRS.out ho1 hg1 hw1); have HC4 := Lib.hid ((HC5b.out.bel ((Bel.refl _).alloc _)).grown hg1 HV3.out); clear ho1 hg1 hw1 hm3; have hm3 : W1.heap.size ≤ (w4.alloc (.cells #[.int .i64 (b.stretch : Int)] 3)).heap.size := by have := HI4.out.but.size; simp; omega) | (refine wpListIn_append_own2 rfl _ _ 32 rfl W1.heap.size 3 i0 (.int .i64 0) 1 8 Try.underlying32 hi hz0 hz1 hz2 rfl (by decide) _ _ _ rfl (HI4.out.bel ((Bel.refl _).alloc (.cells #[.int .i64 (b.stretch : Int)] 3))).stretches ⟨w4.heap.size, 0, none⟩ 1 1 [.int .i64 (b.stretch : Int)] rfl rfl (one_new _ _ _) (by simp [Value.oneCell']) hm1 hm2 hm3 ?_; intro v2 w5 ho1 hg1 hw1; have HI5 := Lib.hid ((HI4.out.bel ((Bel.refl _).alloc _)).stretch HZ.out HRS.out ho1 hg1 hw1); have HC6 := Lib.hid ((HC4.out.bel ((Bel.refl _).alloc _)).grown hg1 HV4.out); clear ho1 hg1 hw1 hm3))
            clear hVW
            refine region_tailF 41 (fun i v W => match i with
              | 0 => v = .pointer (some ⟨w.heap.size + 1, 0, none⟩)
              | 1 => v = pr
              | 2 => v = .int .i64 ((b.heat : Nat) : Int)
              | 3 => v = .pointer (some ⟨V, 2, none⟩)
              | 4 => v = .int .u8 (b.b2 : Int)
              | 5 => v = .int .i64 ((b.b2 : Nat) : Int)
              | 6 => v = .int .i64 ((b.b2 % 8 : Nat) : Int)
              | 7 => v = .int .i64 b.paint.hl
              | 8 => v = .int .i64 ((b.heat : Nat) : Int)
              | 9 => v = .pointer (some ⟨V, 2, none⟩)
              | 10 => v = .int .u8 (b.b2 : Int)
              | 11 => v = .int .i64 ((b.b2 : Nat) : Int)
              | 12 => v = .int .i64 ((b.b2 / 16 : Nat) : Int)
              | 13 => v = .int .i64 b.paint.hh
              | 14 => v = .agg #[.int .i64 b.paint.hl, .int .i64 b.paint.hh]
              | 15 => v = .int .i64 ((b.stretch : Nat) : Int)
              | 16 => v = .pointer (some ⟨V, 3, none⟩)
              | 17 => v = .int .u8 (b.b3 : Int)
              | 18 => v = .int .i64 ((b.b3 : Nat) : Int)
              | 19 => v = .int .i64 ((b.b3 % 8 : Nat) : Int)
              | 20 => v = .int .i64 b.paint.sl
              | 21 => v = .int .i64 ((b.stretch : Nat) : Int)
              | 22 => v = .pointer (some ⟨V, 3, none⟩)
              | 23 => v = .int .u8 (b.b3 : Int)
              | 24 => v = .int .i64 ((b.b3 : Nat) : Int)
              | 25 => v = .int .i64 ((b.b3 / 32 : Nat) : Int)
              | 26 => v = .int .i64 b.paint.sh
              | 27 => v = .agg #[.int .i64 b.paint.sl, .int .i64 b.paint.sh]
              | 28 => v = .pointer (some ⟨V, 4, none⟩)
              | 29 => v = .int .u8 (b.b4 : Int)
              | 30 => v = .int .i64 ((b.b4 : Nat) : Int)
              | 31 => v = .int .i64 ((b.b4 % 3 : Nat) : Int)
              | 32 => v = .int .i64 b.paint.coats
              | 33 => v = .pointer (some ⟨V, 4, none⟩)
              | 34 => v = .int .u8 (b.b4 : Int)
              | 35 => v = .int .i64 ((b.b4 : Nat) : Int)
              | 36 => v = .int .i64 ((b.b4 / 4 : Nat) : Int)
              | 37 => v = .int .i64 ((b.b4 / 4 % 12 : Nat) : Int)
              | 38 => v = .int .i64 b.paint.most
              | 39 => v = .agg #[.int .i64 b.paint.hl, .int .i64 b.paint.hh, .int .i64 b.paint.sl, .int .i64 b.paint.sh, .int .i64 b.paint.coats, .int .i64 b.paint.most]
              | 40 => ∃ g, v = .slice (some ⟨g, 0, none⟩) 1 1 ∧ NewRow W g (paintRow b.paint)
              | _ => True) ?gfa4 ?gfb4 ?gframe4 ?gxframe4 (by kernel_rfl) (by kernel_rfl) (by kernel_rfl) (by kernel_rfl) ?gstays4 ?gops4 ?gfin4
            case gframe4 =>
              intro vs
              simp only [putAll, Act.put, List.setIfInBounds_toArray, List.set_cons_succ, List.set_cons_zero, Nat.reduceAdd, Nat.zero_add]
              exact rfl
            case gxframe4 =>
              intro vs
              simp only [putAll, Act.put, List.setIfInBounds_toArray, List.set_cons_succ, List.set_cons_zero, Nat.reduceAdd, Nat.zero_add, List.take_succ_cons, List.take_zero]
              exact rfl
            case gstays4 =>
              intro i v W W' h hb
              split at h <;> first | exact h | exact h.bel hb | exact fun e => (h e).bel hb | exact ⟨h.1.bel hb, h.2⟩ | (obtain ⟨g, h1, h2⟩ := h; exact ⟨g, h1, h2.bel hb⟩)
            case gops4 =>
              refine ⟨?_, ?_, ?_, ?_, ?_, ?_, ?_, ?_, ?_, ?_, ?_, ?_, ?_, ?_, ?_, ?_, ?_, ?_, ?_, ?_, ?_, ?_, ?_, ?_, ?_, ?_, ?_, ?_, ?_, ?_, ?_, ?_, ?_, ?_, ?_, ?_, ?_, ?_, ?_, ?_, ?_, trivial⟩
              · refine growOpF_k ?_; intro vs W hW hd K HK
                clear hd
                gi_wp2_with fail
                refine HK.out _ _ ?_ ?_ ?_
                · kernel_rfl
                · rfl
                · exact Bel.refl _
              · refine growOpF_k ?_; intro vs W hW hd K HK
                have h0 : (vs 0) = .pointer (some ⟨w.heap.size + 1, 0, none⟩) := hd 0 (by decide)
                clear hd
                have c0 := (HI5.out.bel hW).set.c4.1
                simp only [h0]
                gi_wp2_with fail
                refine HK.out _ _ ?_ ?_ ?_
                · (try simp only [h0]) <;> kernel_rfl
                · rfl
                · exact Bel.refl _
              · refine growOpF_k ?_; intro vs W hW hd K HK
                clear hd
                gi_wp2_with fail
                refine HK.out _ _ ?_ ?_ ?_
                · kernel_rfl
                · rfl
                · exact Bel.refl _
              · refine growOpF_k ?_; intro vs W hW hd K HK
                clear hd
                gi_wp2_with fail
                refine HK.out _ _ ?_ ?_ ?_
                · kernel_rfl
                · rfl
                · exact Bel.refl _
              · refine growOpF_k ?_; intro vs W hW hd K HK
                have h3 : (vs 3) = .pointer (some ⟨V, 2, none⟩) := hd 3 (by decide)
                clear hd
                have c0 := (HC6.out.bel hW).2.2.1
                simp only [h3]
                gi_wp2_with fail
                refine HK.out _ _ ?_ ?_ ?_
                · (try simp only [h3]) <;> kernel_rfl
                · rfl
                · exact Bel.refl _
              · refine growOpF_k ?_; intro vs W hW hd K HK
                have h4 : (vs 4) = .int .u8 (b.b2 : Int) := hd 4 (by decide)
                clear hd
                obtain ⟨m0, m1, m2, m3, m4⟩ := HBO.out
                simp only [h4]
                gi_wp2_with fail
                refine HK.out _ _ ?_ ?_ ?_
                · (try simp only [h4]) <;> kernel_rfl
                · (first | rfl | (show _ = _; simp only [valOf]; congr 1; simp only [wrap64, IntKind.wrap_i64, B5.paint, B5.heat, B5.stretch]; omega) | (show _ = _; simp [valOf, B5.paint, B5.heat, B5.stretch, wrap64]; omega))
                · exact Bel.refl _
              · refine growOpF_k ?_; intro vs W hW hd K HK
                have h5 : (vs 5) = .int .i64 ((b.b2 : Nat) : Int) := hd 5 (by decide)
                clear hd
                obtain ⟨m0, m1, m2, m3, m4⟩ := HBO.out
                simp only [h5]
                gi_wp2_with fail
                refine HK.out _ _ ?_ ?_ ?_
                · (try simp only [h5]) <;> kernel_rfl
                · (first | rfl | (show _ = _; simp only [valOf]; congr 1; simp only [wrap64, IntKind.wrap_i64, B5.paint, B5.heat, B5.stretch]; omega) | (show _ = _; simp [valOf, B5.paint, B5.heat, B5.stretch, wrap64]; omega))
                · exact Bel.refl _
              · refine growOpF_k ?_; intro vs W hW hd K HK
                have h2 : (vs 2) = .int .i64 ((b.heat : Nat) : Int) := hd 2 (by decide)
                have h6 : (vs 6) = .int .i64 ((b.b2 % 8 : Nat) : Int) := hd 6 (by decide)
                clear hd
                obtain ⟨m0, m1, m2, m3, m4⟩ := HBO.out
                have q := D7.out
                simp only [h2, h6]
                gi_wp2_with fail
                refine HK.out _ _ ?_ ?_ ?_
                · (try simp only [h2, h6]) <;> kernel_rfl
                · (first | rfl | (show _ = _; simp only [valOf]; congr 1; simp only [wrap64, B5.paint, B5.heat, B5.stretch]; omega) | (show _ = _; simp [valOf, B5.paint, B5.heat, B5.stretch, wrap64]; omega))
                · exact Bel.refl _
              · refine growOpF_k ?_; intro vs W hW hd K HK
                clear hd
                gi_wp2_with fail
                refine HK.out _ _ ?_ ?_ ?_
                · kernel_rfl
                · rfl
                · exact Bel.refl _
              · refine growOpF_k ?_; intro vs W hW hd K HK
                clear hd
                gi_wp2_with fail
                refine HK.out _ _ ?_ ?_ ?_
                · kernel_rfl
                · rfl
                · exact Bel.refl _
              · refine growOpF_k ?_; intro vs W hW hd K HK
                have h9 : (vs 9) = .pointer (some ⟨V, 2, none⟩) := hd 9 (by decide)
                clear hd
                have c0 := (HC6.out.bel hW).2.2.1
                simp only [h9]
                gi_wp2_with fail
                refine HK.out _ _ ?_ ?_ ?_
                · (try simp only [h9]) <;> kernel_rfl
                · rfl
                · exact Bel.refl _
              · refine growOpF_k ?_; intro vs W hW hd K HK
                have h10 : (vs 10) = .int .u8 (b.b2 : Int) := hd 10 (by decide)
                clear hd
                obtain ⟨m0, m1, m2, m3, m4⟩ := HBO.out
                simp only [h10]
                gi_wp2_with fail
                refine HK.out _ _ ?_ ?_ ?_
                · (try simp only [h10]) <;> kernel_rfl
                · (first | rfl | (show _ = _; simp only [valOf]; congr 1; simp only [wrap64, IntKind.wrap_i64, B5.paint, B5.heat, B5.stretch]; omega) | (show _ = _; simp [valOf, B5.paint, B5.heat, B5.stretch, wrap64]; omega))
                · exact Bel.refl _
              · refine growOpF_k ?_; intro vs W hW hd K HK
                have h11 : (vs 11) = .int .i64 ((b.b2 : Nat) : Int) := hd 11 (by decide)
                clear hd
                obtain ⟨m0, m1, m2, m3, m4⟩ := HBO.out
                simp only [h11]
                gi_wp2_with fail
                refine HK.out _ _ ?_ ?_ ?_
                · (try simp only [h11]) <;> kernel_rfl
                · (first | rfl | (show _ = _; simp only [valOf]; congr 1; simp only [wrap64, IntKind.wrap_i64, B5.paint, B5.heat, B5.stretch]; omega) | (show _ = _; simp [valOf, B5.paint, B5.heat, B5.stretch, wrap64]; omega))
                · exact Bel.refl _
              · refine growOpF_k ?_; intro vs W hW hd K HK
                have h8 : (vs 8) = .int .i64 ((b.heat : Nat) : Int) := hd 8 (by decide)
                have h12 : (vs 12) = .int .i64 ((b.b2 / 16 : Nat) : Int) := hd 12 (by decide)
                clear hd
                obtain ⟨m0, m1, m2, m3, m4⟩ := HBO.out
                have q := D13.out
                simp only [h8, h12]
                gi_wp2_with fail
                refine HK.out _ _ ?_ ?_ ?_
                · (try simp only [h8, h12]) <;> kernel_rfl
                · (first | rfl | (show _ = _; simp only [valOf]; congr 1; simp only [wrap64, B5.paint, B5.heat, B5.stretch]; omega) | (show _ = _; simp [valOf, B5.paint, B5.heat, B5.stretch, wrap64]; omega))
                · exact Bel.refl _
              · refine growOpF_k ?_; intro vs W hW hd K HK
                have h7 : (vs 7) = .int .i64 b.paint.hl := hd 7 (by decide)
                have h13 : (vs 13) = .int .i64 b.paint.hh := hd 13 (by decide)
                clear hd
                simp only [h7, h13]
                gi_wp2_with fail
                refine ⟨trivial, rfl, (callsW (span_any _ _ _)).mono ?_⟩
                rintro e W' ⟨rfl, hb⟩
                gi_wp2_with fail
                refine HK.out _ _ ?_ ?_ ?_
                · (try simp only [h7, h13]) <;> kernel_rfl
                · rfl
                · exact hb
              · refine growOpF_k ?_; intro vs W hW hd K HK
                clear hd
                gi_wp2_with fail
                refine HK.out _ _ ?_ ?_ ?_
                · kernel_rfl
                · rfl
                · exact Bel.refl _
              · refine growOpF_k ?_; intro vs W hW hd K HK
                clear hd
                gi_wp2_with fail
                refine HK.out _ _ ?_ ?_ ?_
                · kernel_rfl
                · rfl
                · exact Bel.refl _
              · refine growOpF_k ?_; intro vs W hW hd K HK
                have h16 : (vs 16) = .pointer (some ⟨V, 3, none⟩) := hd 16 (by decide)
                clear hd
                have c0 := (HC6.out.bel hW).2.2.2.1
                simp only [h16]
                gi_wp2_with fail
                refine HK.out _ _ ?_ ?_ ?_
                · (try simp only [h16]) <;> kernel_rfl
                · rfl
                · exact Bel.refl _
              · refine growOpF_k ?_; intro vs W hW hd K HK
                have h17 : (vs 17) = .int .u8 (b.b3 : Int) := hd 17 (by decide)
                clear hd
                obtain ⟨m0, m1, m2, m3, m4⟩ := HBO.out
                simp only [h17]
                gi_wp2_with fail
                refine HK.out _ _ ?_ ?_ ?_
                · (try simp only [h17]) <;> kernel_rfl
                · (first | rfl | (show _ = _; simp only [valOf]; congr 1; simp only [wrap64, IntKind.wrap_i64, B5.paint, B5.heat, B5.stretch]; omega) | (show _ = _; simp [valOf, B5.paint, B5.heat, B5.stretch, wrap64]; omega))
                · exact Bel.refl _
              · refine growOpF_k ?_; intro vs W hW hd K HK
                have h18 : (vs 18) = .int .i64 ((b.b3 : Nat) : Int) := hd 18 (by decide)
                clear hd
                obtain ⟨m0, m1, m2, m3, m4⟩ := HBO.out
                simp only [h18]
                gi_wp2_with fail
                refine HK.out _ _ ?_ ?_ ?_
                · (try simp only [h18]) <;> kernel_rfl
                · (first | rfl | (show _ = _; simp only [valOf]; congr 1; simp only [wrap64, IntKind.wrap_i64, B5.paint, B5.heat, B5.stretch]; omega) | (show _ = _; simp [valOf, B5.paint, B5.heat, B5.stretch, wrap64]; omega))
                · exact Bel.refl _
              · refine growOpF_k ?_; intro vs W hW hd K HK
                have h15 : (vs 15) = .int .i64 ((b.stretch : Nat) : Int) := hd 15 (by decide)
                have h19 : (vs 19) = .int .i64 ((b.b3 % 8 : Nat) : Int) := hd 19 (by decide)
                clear hd
                obtain ⟨m0, m1, m2, m3, m4⟩ := HBO.out
                have q := D20.out
                simp only [h15, h19]
                gi_wp2_with fail
                refine HK.out _ _ ?_ ?_ ?_
                · (try simp only [h15, h19]) <;> kernel_rfl
                · (first | rfl | (show _ = _; simp only [valOf]; congr 1; simp only [wrap64, B5.paint, B5.heat, B5.stretch]; omega) | (show _ = _; simp [valOf, B5.paint, B5.heat, B5.stretch, wrap64]; omega))
                · exact Bel.refl _
              · refine growOpF_k ?_; intro vs W hW hd K HK
                clear hd
                gi_wp2_with fail
                refine HK.out _ _ ?_ ?_ ?_
                · kernel_rfl
                · rfl
                · exact Bel.refl _
              · refine growOpF_k ?_; intro vs W hW hd K HK
                clear hd
                gi_wp2_with fail
                refine HK.out _ _ ?_ ?_ ?_
                · kernel_rfl
                · rfl
                · exact Bel.refl _
              · refine growOpF_k ?_; intro vs W hW hd K HK
                have h22 : (vs 22) = .pointer (some ⟨V, 3, none⟩) := hd 22 (by decide)
                clear hd
                have c0 := (HC6.out.bel hW).2.2.2.1
                simp only [h22]
                gi_wp2_with fail
                refine HK.out _ _ ?_ ?_ ?_
                · (try simp only [h22]) <;> kernel_rfl
                · rfl
                · exact Bel.refl _
              · refine growOpF_k ?_; intro vs W hW hd K HK
                have h23 : (vs 23) = .int .u8 (b.b3 : Int) := hd 23 (by decide)
                clear hd
                obtain ⟨m0, m1, m2, m3, m4⟩ := HBO.out
                simp only [h23]
                gi_wp2_with fail
                refine HK.out _ _ ?_ ?_ ?_
                · (try simp only [h23]) <;> kernel_rfl
                · (first | rfl | (show _ = _; simp only [valOf]; congr 1; simp only [wrap64, IntKind.wrap_i64, B5.paint, B5.heat, B5.stretch]; omega) | (show _ = _; simp [valOf, B5.paint, B5.heat, B5.stretch, wrap64]; omega))
                · exact Bel.refl _
              · refine growOpF_k ?_; intro vs W hW hd K HK
                have h24 : (vs 24) = .int .i64 ((b.b3 : Nat) : Int) := hd 24 (by decide)
                clear hd
                obtain ⟨m0, m1, m2, m3, m4⟩ := HBO.out
                simp only [h24]
                gi_wp2_with fail
                refine HK.out _ _ ?_ ?_ ?_
                · (try simp only [h24]) <;> kernel_rfl
                · (first | rfl | (show _ = _; simp only [valOf]; congr 1; simp only [wrap64, IntKind.wrap_i64, B5.paint, B5.heat, B5.stretch]; omega) | (show _ = _; simp [valOf, B5.paint, B5.heat, B5.stretch, wrap64]; omega))
                · exact Bel.refl _
              · refine growOpF_k ?_; intro vs W hW hd K HK
                have h21 : (vs 21) = .int .i64 ((b.stretch : Nat) : Int) := hd 21 (by decide)
                have h25 : (vs 25) = .int .i64 ((b.b3 / 32 : Nat) : Int) := hd 25 (by decide)
                clear hd
                obtain ⟨m0, m1, m2, m3, m4⟩ := HBO.out
                have q := D26.out
                simp only [h21, h25]
                gi_wp2_with fail
                refine HK.out _ _ ?_ ?_ ?_
                · (try simp only [h21, h25]) <;> kernel_rfl
                · (first | rfl | (show _ = _; simp only [valOf]; congr 1; simp only [wrap64, B5.paint, B5.heat, B5.stretch]; omega) | (show _ = _; simp [valOf, B5.paint, B5.heat, B5.stretch, wrap64]; omega))
                · exact Bel.refl _
              · refine growOpF_k ?_; intro vs W hW hd K HK
                have h20 : (vs 20) = .int .i64 b.paint.sl := hd 20 (by decide)
                have h26 : (vs 26) = .int .i64 b.paint.sh := hd 26 (by decide)
                clear hd
                simp only [h20, h26]
                gi_wp2_with fail
                refine ⟨trivial, rfl, (callsW (span_any _ _ _)).mono ?_⟩
                rintro e W' ⟨rfl, hb⟩
                gi_wp2_with fail
                refine HK.out _ _ ?_ ?_ ?_
                · (try simp only [h20, h26]) <;> kernel_rfl
                · rfl
                · exact hb
              · refine growOpF_k ?_; intro vs W hW hd K HK
                clear hd
                gi_wp2_with fail
                refine HK.out _ _ ?_ ?_ ?_
                · kernel_rfl
                · rfl
                · exact Bel.refl _
              · refine growOpF_k ?_; intro vs W hW hd K HK
                have h28 : (vs 28) = .pointer (some ⟨V, 4, none⟩) := hd 28 (by decide)
                clear hd
                have c0 := (HC6.out.bel hW).2.2.2.2
                simp only [h28]
                gi_wp2_with fail
                refine HK.out _ _ ?_ ?_ ?_
                · (try simp only [h28]) <;> kernel_rfl
                · rfl
                · exact Bel.refl _
              · refine growOpF_k ?_; intro vs W hW hd K HK
                have h29 : (vs 29) = .int .u8 (b.b4 : Int) := hd 29 (by decide)
                clear hd
                obtain ⟨m0, m1, m2, m3, m4⟩ := HBO.out
                simp only [h29]
                gi_wp2_with fail
                refine HK.out _ _ ?_ ?_ ?_
                · (try simp only [h29]) <;> kernel_rfl
                · (first | rfl | (show _ = _; simp only [valOf]; congr 1; simp only [wrap64, IntKind.wrap_i64, B5.paint, B5.heat, B5.stretch]; omega) | (show _ = _; simp [valOf, B5.paint, B5.heat, B5.stretch, wrap64]; omega))
                · exact Bel.refl _
              · refine growOpF_k ?_; intro vs W hW hd K HK
                have h30 : (vs 30) = .int .i64 ((b.b4 : Nat) : Int) := hd 30 (by decide)
                clear hd
                obtain ⟨m0, m1, m2, m3, m4⟩ := HBO.out
                simp only [h30]
                gi_wp2_with fail
                refine HK.out _ _ ?_ ?_ ?_
                · (try simp only [h30]) <;> kernel_rfl
                · (first | rfl | (show _ = _; simp only [valOf]; congr 1; simp only [wrap64, IntKind.wrap_i64, B5.paint, B5.heat, B5.stretch]; omega) | (show _ = _; simp [valOf, B5.paint, B5.heat, B5.stretch, wrap64]; omega))
                · exact Bel.refl _
              · refine growOpF_k ?_; intro vs W hW hd K HK
                have h31 : (vs 31) = .int .i64 ((b.b4 % 3 : Nat) : Int) := hd 31 (by decide)
                clear hd
                obtain ⟨m0, m1, m2, m3, m4⟩ := HBO.out
                simp only [h31]
                gi_wp2_with fail
                refine HK.out _ _ ?_ ?_ ?_
                · (try simp only [h31]) <;> kernel_rfl
                · (first | rfl | (show _ = _; simp only [valOf]; congr 1; simp only [wrap64, IntKind.wrap_i64, B5.paint, B5.heat, B5.stretch]; omega) | (show _ = _; simp [valOf, B5.paint, B5.heat, B5.stretch, wrap64]; omega))
                · exact Bel.refl _
              · refine growOpF_k ?_; intro vs W hW hd K HK
                clear hd
                gi_wp2_with fail
                refine HK.out _ _ ?_ ?_ ?_
                · kernel_rfl
                · rfl
                · exact Bel.refl _
              · refine growOpF_k ?_; intro vs W hW hd K HK
                have h33 : (vs 33) = .pointer (some ⟨V, 4, none⟩) := hd 33 (by decide)
                clear hd
                have c0 := (HC6.out.bel hW).2.2.2.2
                simp only [h33]
                gi_wp2_with fail
                refine HK.out _ _ ?_ ?_ ?_
                · (try simp only [h33]) <;> kernel_rfl
                · rfl
                · exact Bel.refl _
              · refine growOpF_k ?_; intro vs W hW hd K HK
                have h34 : (vs 34) = .int .u8 (b.b4 : Int) := hd 34 (by decide)
                clear hd
                obtain ⟨m0, m1, m2, m3, m4⟩ := HBO.out
                simp only [h34]
                gi_wp2_with fail
                refine HK.out _ _ ?_ ?_ ?_
                · (try simp only [h34]) <;> kernel_rfl
                · (first | rfl | (show _ = _; simp only [valOf]; congr 1; simp only [wrap64, IntKind.wrap_i64, B5.paint, B5.heat, B5.stretch]; omega) | (show _ = _; simp [valOf, B5.paint, B5.heat, B5.stretch, wrap64]; omega))
                · exact Bel.refl _
              · refine growOpF_k ?_; intro vs W hW hd K HK
                have h35 : (vs 35) = .int .i64 ((b.b4 : Nat) : Int) := hd 35 (by decide)
                clear hd
                obtain ⟨m0, m1, m2, m3, m4⟩ := HBO.out
                simp only [h35]
                gi_wp2_with fail
                refine HK.out _ _ ?_ ?_ ?_
                · (try simp only [h35]) <;> kernel_rfl
                · (first | rfl | (show _ = _; simp only [valOf]; congr 1; simp only [wrap64, IntKind.wrap_i64, B5.paint, B5.heat, B5.stretch]; omega) | (show _ = _; simp [valOf, B5.paint, B5.heat, B5.stretch, wrap64]; omega))
                · exact Bel.refl _
              · refine growOpF_k ?_; intro vs W hW hd K HK
                have h36 : (vs 36) = .int .i64 ((b.b4 / 4 : Nat) : Int) := hd 36 (by decide)
                clear hd
                obtain ⟨m0, m1, m2, m3, m4⟩ := HBO.out
                simp only [h36]
                gi_wp2_with fail
                refine HK.out _ _ ?_ ?_ ?_
                · (try simp only [h36]) <;> kernel_rfl
                · (first | rfl | (show _ = _; simp only [valOf]; congr 1; simp only [wrap64, IntKind.wrap_i64, B5.paint, B5.heat, B5.stretch]; omega) | (show _ = _; simp [valOf, B5.paint, B5.heat, B5.stretch, wrap64]; omega))
                · exact Bel.refl _
              · refine growOpF_k ?_; intro vs W hW hd K HK
                have h37 : (vs 37) = .int .i64 ((b.b4 / 4 % 12 : Nat) : Int) := hd 37 (by decide)
                clear hd
                obtain ⟨m0, m1, m2, m3, m4⟩ := HBO.out
                simp only [h37]
                gi_wp2_with fail
                refine HK.out _ _ ?_ ?_ ?_
                · (try simp only [h37]) <;> kernel_rfl
                · (first | rfl | (show _ = _; simp only [valOf]; congr 1; simp only [wrap64, IntKind.wrap_i64, B5.paint, B5.heat, B5.stretch]; omega) | (show _ = _; simp [valOf, B5.paint, B5.heat, B5.stretch, wrap64]; omega))
                · exact Bel.refl _
              · refine growOpF_k ?_; intro vs W hW hd K HK
                have h14 : (vs 14) = .agg #[.int .i64 b.paint.hl, .int .i64 b.paint.hh] := hd 14 (by decide)
                have h27 : (vs 27) = .agg #[.int .i64 b.paint.sl, .int .i64 b.paint.sh] := hd 27 (by decide)
                have h32 : (vs 32) = .int .i64 b.paint.coats := hd 32 (by decide)
                have h38 : (vs 38) = .int .i64 b.paint.most := hd 38 (by decide)
                clear hd
                simp only [h14, h27, h32, h38]
                gi_wp2_with fail
                refine ⟨trivial, rfl, (callsW (paint_any _ _ _ _ _ _ _)).mono ?_⟩
                rintro e W' ⟨rfl, hb⟩
                gi_wp2_with fail
                refine HK.out _ _ ?_ ?_ ?_
                · (try simp only [h14, h27, h32, h38]) <;> kernel_rfl
                · rfl
                · exact hb
              · refine growOpF_k ?_; intro vs W hW hd K HK
                have h39 : (vs 39) = .agg #[.int .i64 b.paint.hl, .int .i64 b.paint.hh, .int .i64 b.paint.sl, .int .i64 b.paint.sh, .int .i64 b.paint.coats, .int .i64 b.paint.most] := hd 39 (by decide)
                clear hd
                simp only [h39]
                gi_wp2_with fail
                refine HK.out _ _ ?_ ?_ ?_
                · (try simp only [h39]) <;> kernel_rfl
                · exact ⟨_, rfl, NewRow.new _ _ _⟩
                · exact (Bel.refl _).alloc _
            case gfin4 =>
              intro vs W hW hall
              have g1 : vs 1 = pr := hall 1 (by decide)
              have g40 : ∃ g, vs 40 = .slice (some ⟨g, 0, none⟩) 1 1 ∧ NewRow W (g) (paintRow b.paint) := hall 40 (by decide)
              clear hall
              obtain ⟨g, g40, hnr⟩ := g40
              simp only [List.drop_succ_cons, List.drop_zero, g1, g40]
              have HI6 := Lib.hid (HI5.out.bel hW)
              have HNR := Lib.hid hnr
              have hm3 : W1.heap.size ≤ W.heap.size := HI6.out.but.size
              have hm4 : (k + 1) * 48 ≤ 140737488355328 := by omega
              clear hW g1 g40 hnr
              gi_wp2_with (gi_at_builtin; refine wpListIn_append_own2 rfl _ _ 28 rfl W1.heap.size 56 i1 _ 6 48 Try.underlying28 hp hy0 hy1 hy2 rfl (by decide) _ _ _ rfl HI6.out.paints ⟨g, 0, none⟩ 1 1 (paintRow b.paint) rfl rfl HNR.out (by simp [paintRow, Value.oneCell']) hm1 hm4 hm3 ?_; intro v3 w6 ho1 hg1 hw1; obtain ⟨xa, xc, rfl⟩ := own_sln ho1; have HI7 := Lib.hid (HI6.out.paint HZ.out HRS.out ho1 hg1 hw1); have s0 := HI7.out.set.c4.1; have s1 := HI7.out.set.fro 0; clear ho1 hg1 hw1 hm3)
              have HI8 := Lib.hid (HI7.out.store HZ.out (.slice xa (k + 1) xc))
              clear hm4
              go_roundw
              case rel =>
                refine ⟨k + 1, _, by omega, by go_num, HI8.out⟩
              case measure => simp [intOf]; omega
      · obtain rfl : k = 0 := by omega
        have hlen : decide (((0 : Nat) : Int) < (x.paints.length : Int)) = false := decide_eq_false (by omega)
        have hbo := HX.out.paints 0
        have hrs := x.row_succ 0
        obtain ⟨b, hbe⟩ : ∃ b, b = B5.none := ⟨_, rfl⟩
        have hge : x.paints.getD 0 .none = b := by rw [hbe]; simp [List.getD, List.getElem?_eq_none (Nat.le_of_not_lt hpl)]
        rw [hge] at hbo hrs
        have HRS := Lib.hid hrs
        clear hge hrs
        gi_wp2_with fail
        rw [show (Obj.cells #[.int .u8 100, .int .u8 50, .int .u8 9, .int .u8 0, .int .u8 7] 82) = Obj.cells #[.int .u8 (b.b0 : Int), .int .u8 (b.b1 : Int), .int .u8 (b.b2 : Int), .int .u8 (b.b3 : Int), .int .u8 (b.b4 : Int)] 82 by rw [hbe]; rfl]
        clear hbe
        have HV3 := Lib.hid (show some wr.heap.size ≠ u3.ownBlock from fun e => absurd (HI.out.heats.lt _ e.symm).2 (Nat.lt_irrefl _))
        have HV4 := Lib.hid (show some wr.heap.size ≠ u4.ownBlock from fun e => absurd (HI.out.stretches.lt _ e.symm).2 (Nat.lt_irrefl _))
        have HBO := Lib.hid hbo
        have D7 := Lib.hid (show IntKind.i64.wrap (((b.heat : Nat) : Int) - ((b.b2 % 8 : Nat) : Int)) = b.paint.hl by obtain ⟨m0, m1, m2, m3, m4⟩ := hbo; rw [IntKind.wrap_i64]; simp only [B5.paint, B5.heat]; omega)
        have D13 := Lib.hid (show IntKind.i64.wrap (((b.heat : Nat) : Int) + ((b.b2 / 16 : Nat) : Int)) = b.paint.hh by obtain ⟨m0, m1, m2, m3, m4⟩ := hbo; rw [IntKind.wrap_i64]; simp only [B5.paint, B5.heat]; omega)
        have D20 := Lib.hid (show IntKind.i64.wrap (((b.stretch : Nat) : Int) - ((b.b3 % 8 : Nat) : Int)) = b.paint.sl by obtain ⟨m0, m1, m2, m3, m4⟩ := hbo; rw [IntKind.wrap_i64]; simp only [B5.paint, B5.stretch]; omega)
        have D26 := Lib.hid (show IntKind.i64.wrap (((b.stretch : Nat) : Int) + ((b.b3 / 32 : Nat) : Int)) = b.paint.sh by obtain ⟨m0, m1, m2, m3, m4⟩ := hbo; rw [IntKind.wrap_i64]; simp only [B5.paint, B5.stretch]; omega)
        clear c0 c1 c2 c3 a2
        generalize hW2 : wr.alloc _ = W2
        have hc5 : C5 W2 wr.heap.size (.int .u8 (b.b0 : Int)) (.int .u8 (b.b1 : Int)) (.int .u8 (b.b2 : Int)) (.int .u8 (b.b3 : Int)) (.int .u8 (b.b4 : Int)) := by rw [← hW2]; exact C5.new _ _ _ _ _ _ _
        have hi2 : MadeI W1 w.heap.size x nr gv 0 0 0 u3 u4 pr pr W2 := by rw [← hW2]; exact HI.out.bel ((Bel.refl _).alloc _)
        have HC5 := Lib.hid hc5
        have HI2 := Lib.hid hi2
        have B0w := Lib.hid (show IntKind.i64.wrap (b.b0 : Int) = (b.b0 : Int) by have := hbo.1; rw [IntKind.wrap_i64]; omega)
        have B1w := Lib.hid (show IntKind.i64.wrap (600 + (b.b0 : Int)) = ((b.heat : Nat) : Int) by have := hbo.1; rw [IntKind.wrap_i64]; unfold B5.heat; omega)
        have B2w := Lib.hid (show IntKind.i64.wrap (b.b1 : Int) = (b.b1 : Int) by have := hbo.2.1; rw [IntKind.wrap_i64]; omega)
        have B3w := Lib.hid (show (b.b1 : Int).tmod 60 = ((b.b1 % 60 : Nat) : Int) from rfl)
        have B4w := Lib.hid (show IntKind.i64.wrap ((b.b1 % 60 : Nat) : Int) = ((b.b1 % 60 : Nat) : Int) by have := hbo.2.1; rw [IntKind.wrap_i64]; omega)
        have B5w := Lib.hid (show IntKind.i64.wrap (60 + ((b.b1 % 60 : Nat) : Int)) = ((b.stretch : Nat) : Int) by have := hbo.2.1; rw [IntKind.wrap_i64]; unfold B5.stretch; omega)
        clear hc5 hi2 hW2 HI hbo
        generalize wr.heap.size = V at *
        refine region_growF (fun i v W => match i with
          | 0 => v = .pointer (some ⟨V, 0, none⟩)
          | 1 => v = .int .u8 (b.b0 : Int)
          | 2 => v = .int .i64 ((b.b0 : Nat) : Int)
          | 3 => v = .int .i64 ((b.heat : Nat) : Int)
          | 4 => v = .pointer (some ⟨V, 1, none⟩)
          | 5 => v = .int .u8 (b.b1 : Int)
          | 6 => v = .int .i64 ((b.b1 : Nat) : Int)
          | 7 => v = .int .i64 ((b.b1 % 60 : Nat) : Int)
          | 8 => v = .int .i64 ((b.stretch : Nat) : Int)
          | 9 => v = .int .i64 ((b.heat : Nat) : Int)
          | 10 => v = .int .i64 ((b.stretch : Nat) : Int)
          | _ => True) ?gfa5 ?gframe5 (by kernel_rfl) (by kernel_rfl) (by kernel_rfl) ?gstays5 ?gops5 ?gfin5
        case gframe5 =>
          intro vs
          simp only [putAll, Act.put, List.setIfInBounds_toArray, List.set_cons_succ, List.set_cons_zero, Nat.reduceAdd, Nat.zero_add]
          exact rfl
        case gstays5 =>
          intro i v W W' h hb
          split at h <;> first | exact h | exact h.bel hb | exact fun e => (h e).bel hb | exact ⟨h.1.bel hb, h.2⟩
        case gops5 =>
          refine ⟨?_, ?_, ?_, ?_, ?_, ?_, ?_, ?_, ?_, ?_, ?_, trivial⟩
          · refine growOpF_k ?_; intro vs W hW hd K HK
            clear hd
            gi_wp2_with fail
            refine HK.out _ _ ?_ ?_ ?_
            · kernel_rfl
            · rfl
            · exact Bel.refl _
          · refine growOpF_k ?_; intro vs W hW hd K HK
            have h0 : (vs 0) = .pointer (some ⟨V, 0, none⟩) := hd 0 (by decide)
            clear hd
            have t0 := (HC5.out.bel hW).1
            simp only [h0]
            gi_wp2_with fail
            refine HK.out _ _ ?_ ?_ ?_
            · (try simp only [h0]) <;> kernel_rfl
            · rfl
            · exact Bel.refl _
          · refine growOpF_k ?_; intro vs W hW hd K HK
            have h1 : (vs 1) = .int .u8 (b.b0 : Int) := hd 1 (by decide)
            clear hd
            have q := B0w.out
            simp only [h1]
            gi_wp2_with fail
            refine HK.out _ _ ?_ ?_ ?_
            · (try simp only [h1]) <;> kernel_rfl
            · (first | rfl | (show _ = _; simp only [valOf]; congr 1; unfold B5.heat; omega) | (show _ = _; simp [valOf, B5.heat, B5.stretch]; omega) | (show _ = _; simp [valOf, B5.heat, B5.stretch]))
            · exact Bel.refl _
          · refine growOpF_k ?_; intro vs W hW hd K HK
            have h2 : (vs 2) = .int .i64 ((b.b0 : Nat) : Int) := hd 2 (by decide)
            clear hd
            have q := B1w.out
            simp only [h2]
            gi_wp2_with fail
            refine HK.out _ _ ?_ ?_ ?_
            · (try simp only [h2]) <;> kernel_rfl
            · (first | rfl | (show _ = _; simp only [valOf]; congr 1; unfold B5.heat; omega) | (show _ = _; simp [valOf, B5.heat, B5.stretch]; omega) | (show _ = _; simp [valOf, B5.heat, B5.stretch]))
            · exact Bel.refl _
          · refine growOpF_k ?_; intro vs W hW hd K HK
            clear hd
            gi_wp2_with fail
            refine HK.out _ _ ?_ ?_ ?_
            · kernel_rfl
            · rfl
            · exact Bel.refl _
          · refine growOpF_k ?_; intro vs W hW hd K HK
            have h4 : (vs 4) = .pointer (some ⟨V, 1, none⟩) := hd 4 (by decide)
            clear hd
            have t1 := (HC5.out.bel hW).2.1
            simp only [h4]
            gi_wp2_with fail
            refine HK.out _ _ ?_ ?_ ?_
            · (try simp only [h4]) <;> kernel_rfl
            · rfl
            · exact Bel.refl _
          · refine growOpF_k ?_; intro vs W hW hd K HK
            have h5 : (vs 5) = .int .u8 (b.b1 : Int) := hd 5 (by decide)
            clear hd
            have q := B2w.out
            simp only [h5]
            gi_wp2_with fail
            refine HK.out _ _ ?_ ?_ ?_
            · (try simp only [h5]) <;> kernel_rfl
            · (first | rfl | (show _ = _; simp only [valOf]; congr 1; unfold B5.heat; omega) | (show _ = _; simp [valOf, B5.heat, B5.stretch]; omega) | (show _ = _; simp [valOf, B5.heat, B5.stretch]))
            · exact Bel.refl _
          · refine growOpF_k ?_; intro vs W hW hd K HK
            have h6 : (vs 6) = .int .i64 ((b.b1 : Nat) : Int) := hd 6 (by decide)
            clear hd
            have q := B3w.out
            have q2 := B4w.out
            simp only [h6]
            gi_wp2_with fail
            refine HK.out _ _ ?_ ?_ ?_
            · (try simp only [h6]) <;> kernel_rfl
            · (first | rfl | (show _ = _; simp only [valOf]; congr 1; unfold B5.heat; omega) | (show _ = _; simp [valOf, B5.heat, B5.stretch]; omega) | (show _ = _; simp [valOf, B5.heat, B5.stretch]))
            · exact Bel.refl _
          · refine growOpF_k ?_; intro vs W hW hd K HK
            have h7 : (vs 7) = .int .i64 ((b.b1 % 60 : Nat) : Int) := hd 7 (by decide)
            clear hd
            have q := B5w.out
            simp only [h7]
            gi_wp2_with fail
            refine HK.out _ _ ?_ ?_ ?_
            · (try simp only [h7]) <;> kernel_rfl
            · (first | rfl | (show _ = _; simp only [valOf]; congr 1; unfold B5.heat; omega) | (show _ = _; simp [valOf, B5.heat, B5.stretch]; omega) | (show _ = _; simp [valOf, B5.heat, B5.stretch]))
            · exact Bel.refl _
          · refine growOpF_k ?_; intro vs W hW hd K HK
            have h3 : (vs 3) = .int .i64 ((b.heat : Nat) : Int) := hd 3 (by decide)
            clear hd
            simp only [h3]
            gi_wp2_with fail
            refine HK.out _ _ ?_ ?_ ?_
            · (try simp only [h3]) <;> kernel_rfl
            · rfl
            · exact Bel.refl _
          · refine growOpF_k ?_; intro vs W hW hd K HK
            have h8 : (vs 8) = .int .i64 ((b.stretch : Nat) : Int) := hd 8 (by decide)
            clear hd
            simp only [h8]
            gi_wp2_with fail
            refine HK.out _ _ ?_ ?_ ?_
            · (try simp only [h8]) <;> kernel_rfl
            · rfl
            · exact Bel.refl _
        case gfin5 =>
          intro vs W hW hall
          have g9 : vs 9 = .int .i64 ((b.heat : Nat) : Int) := hall 9 (by decide)
          have g10 : vs 10 = .int .i64 ((b.stretch : Nat) : Int) := hall 10 (by decide)
          clear hall
          simp only [g9, g10]
          have HI3 := Lib.hid (HI2.out.bel hW)
          have HC5b := Lib.hid (HC5.out.bel hW)
          have hVW := lt_of_cell HC5b.out.1
          have hm1 : 0 + 1 ≤ maxLen := by unfold maxLen; omega
          have hm2 : (0 + 1) * 8 ≤ 140737488355328 := by omega
          have hm3 : W1.heap.size ≤ (W.alloc (.cells #[.int .i64 (b.heat : Int)] 3)).heap.size := by have := HI3.out.but.size; simp; omega
          clear hW g9 g10
          gi_wp2_with (gi_at_builtin; first | (refine wpListIn_append_own2 rfl _ _ 32 rfl W1.heap.size 3 i0 (.int .i64 0) 1 8 Try.underlying32 hi hz0 hz1 hz2 rfl (by decide) _ _ _ rfl (HI3.out.bel ((Bel.refl _).alloc (.cells #[.int .i64 (b.heat : Int)] 3))).heats ⟨W.heap.size, 0, none⟩ 1 1 [.int .i64 (b.heat : Int)] rfl rfl (one_new _ _ _) (by simp [Value.oneCell']) hm1 hm2 hm3 ?_; intro v1 w4 ho1 hg1 hw1; have HI4 := Lib.hid ((HI3.out.bel ((Bel.refl _).alloc _)).heat HZ.out HRS.out ho1 hg1 hw1); have HC4 := Lib.hid ((HC5b.out.bel ((Bel.refl _).alloc _)).grown hg1 HV3.out); clear ho1 hg1 hw1 hm3; have hm3 : W1.heap.size ≤ (w4.alloc (.cells #[.int .i64 (b.stretch : Int)] 3)).heap.size := by have := HI4.out.but.size; simp; omega) | (refine wpListIn_append_own2 rfl _ _ 32 rfl W1.heap.size 3 i0 (.int .i64 0) 1 8 Try.underlying32 hi hz0 hz1 hz2 rfl (by decide) _ _ _ rfl (HI4.out.bel ((Bel.refl _).alloc (.cells #[.int .i64 (b.stretch : Int)] 3))).stretches ⟨w4.heap.size, 0, none⟩ 1 1 [.int .i64 (b.stretch : Int)] rfl rfl (one_new _ _ _) (by simp [Value.oneCell']) hm1 hm2 hm3 ?_; intro v2 w5 ho1 hg1 hw1; have HI5 := Lib.hid ((HI4.out.bel ((Bel.refl _).alloc _)).stretch HZ.out HRS.out ho1 hg1 hw1); have HC6 := Lib.hid ((HC4.out.bel ((Bel.refl _).alloc _)).grown hg1 HV4.out); clear ho1 hg1 hw1 hm3))
          clear hVW
          refine region_tailF 41 (fun i v W => match i with
            | 0 => v = .pointer (some ⟨w.heap.size + 1, 0, none⟩)
            | 1 => v = pr
            | 2 => v = .int .i64 ((b.heat : Nat) : Int)
            | 3 => v = .pointer (some ⟨V, 2, none⟩)
            | 4 => v = .int .u8 (b.b2 : Int)
            | 5 => v = .int .i64 ((b.b2 : Nat) : Int)
            | 6 => v = .int .i64 ((b.b2 % 8 : Nat) : Int)
            | 7 => v = .int .i64 b.paint.hl
            | 8 => v = .int .i64 ((b.heat : Nat) : Int)
            | 9 => v = .pointer (some ⟨V, 2, none⟩)
            | 10 => v = .int .u8 (b.b2 : Int)
            | 11 => v = .int .i64 ((b.b2 : Nat) : Int)
            | 12 => v = .int .i64 ((b.b2 / 16 : Nat) : Int)
            | 13 => v = .int .i64 b.paint.hh
            | 14 => v = .agg #[.int .i64 b.paint.hl, .int .i64 b.paint.hh]
            | 15 => v = .int .i64 ((b.stretch : Nat) : Int)
            | 16 => v = .pointer (some ⟨V, 3, none⟩)
            | 17 => v = .int .u8 (b.b3 : Int)
            | 18 => v = .int .i64 ((b.b3 : Nat) : Int)
            | 19 => v = .int .i64 ((b.b3 % 8 : Nat) : Int)
            | 20 => v = .int .i64 b.paint.sl
            | 21 => v = .int .i64 ((b.stretch : Nat) : Int)
            | 22 => v = .pointer (some ⟨V, 3, none⟩)
            | 23 => v = .int .u8 (b.b3 : Int)
            | 24 => v = .int .i64 ((b.b3 : Nat) : Int)
            | 25 => v = .int .i64 ((b.b3 / 32 : Nat) : Int)
            | 26 => v = .int .i64 b.paint.sh
            | 27 => v = .agg #[.int .i64 b.paint.sl, .int .i64 b.paint.sh]
            | 28 => v = .pointer (some ⟨V, 4, none⟩)
            | 29 => v = .int .u8 (b.b4 : Int)
            | 30 => v = .int .i64 ((b.b4 : Nat) : Int)
            | 31 => v = .int .i64 ((b.b4 % 3 : Nat) : Int)
            | 32 => v = .int .i64 b.paint.coats
            | 33 => v = .pointer (some ⟨V, 4, none⟩)
            | 34 => v = .int .u8 (b.b4 : Int)
            | 35 => v = .int .i64 ((b.b4 : Nat) : Int)
            | 36 => v = .int .i64 ((b.b4 / 4 : Nat) : Int)
            | 37 => v = .int .i64 ((b.b4 / 4 % 12 : Nat) : Int)
            | 38 => v = .int .i64 b.paint.most
            | 39 => v = .agg #[.int .i64 b.paint.hl, .int .i64 b.paint.hh, .int .i64 b.paint.sl, .int .i64 b.paint.sh, .int .i64 b.paint.coats, .int .i64 b.paint.most]
            | 40 => ∃ g, v = .slice (some ⟨g, 0, none⟩) 1 1 ∧ NewRow W g (paintRow b.paint)
            | _ => True) ?gfa6 ?gfb6 ?gframe6 ?gxframe6 (by kernel_rfl) (by kernel_rfl) (by kernel_rfl) (by kernel_rfl) ?gstays6 ?gops6 ?gfin6
          case gframe6 =>
            intro vs
            simp only [putAll, Act.put, List.setIfInBounds_toArray, List.set_cons_succ, List.set_cons_zero, Nat.reduceAdd, Nat.zero_add]
            exact rfl
          case gxframe6 =>
            intro vs
            simp only [putAll, Act.put, List.setIfInBounds_toArray, List.set_cons_succ, List.set_cons_zero, Nat.reduceAdd, Nat.zero_add, List.take_succ_cons, List.take_zero]
            exact rfl
          case gstays6 =>
            intro i v W W' h hb
            split at h <;> first | exact h | exact h.bel hb | exact fun e => (h e).bel hb | exact ⟨h.1.bel hb, h.2⟩ | (obtain ⟨g, h1, h2⟩ := h; exact ⟨g, h1, h2.bel hb⟩)
          case gops6 =>
            refine ⟨?_, ?_, ?_, ?_, ?_, ?_, ?_, ?_, ?_, ?_, ?_, ?_, ?_, ?_, ?_, ?_, ?_, ?_, ?_, ?_, ?_, ?_, ?_, ?_, ?_, ?_, ?_, ?_, ?_, ?_, ?_, ?_, ?_, ?_, ?_, ?_, ?_, ?_, ?_, ?_, ?_, trivial⟩
            · refine growOpF_k ?_; intro vs W hW hd K HK
              clear hd
              gi_wp2_with fail
              refine HK.out _ _ ?_ ?_ ?_
              · kernel_rfl
              · rfl
              · exact Bel.refl _
            · refine growOpF_k ?_; intro vs W hW hd K HK
              have h0 : (vs 0) = .pointer (some ⟨w.heap.size + 1, 0, none⟩) := hd 0 (by decide)
              clear hd
              have c0 := (HI5.out.bel hW).set.c4.1
              simp only [h0]
              gi_wp2_with fail
              refine HK.out _ _ ?_ ?_ ?_
              · (try simp only [h0]) <;> kernel_rfl
              · rfl
              · exact Bel.refl _
            · refine growOpF_k ?_; intro vs W hW hd K HK
              clear hd
              gi_wp2_with fail
              refine HK.out _ _ ?_ ?_ ?_
              · kernel_rfl
              · rfl
              · exact Bel.refl _
            · refine growOpF_k ?_; intro vs W hW hd K HK
              clear hd
              gi_wp2_with fail
              refine HK.out _ _ ?_ ?_ ?_
              · kernel_rfl
              · rfl
              · exact Bel.refl _
            · refine growOpF_k ?_; intro vs W hW hd K HK
              have h3 : (vs 3) = .pointer (some ⟨V, 2, none⟩) := hd 3 (by decide)
              clear hd
              have c0 := (HC6.out.bel hW).2.2.1
              simp only [h3]
              gi_wp2_with fail
              refine HK.out _ _ ?_ ?_ ?_
              · (try simp only [h3]) <;> kernel_rfl
              · rfl
              · exact Bel.refl _
            · refine growOpF_k ?_; intro vs W hW hd K HK
              have h4 : (vs 4) = .int .u8 (b.b2 : Int) := hd 4 (by decide)
              clear hd
              obtain ⟨m0, m1, m2, m3, m4⟩ := HBO.out
              simp only [h4]
              gi_wp2_with fail
              refine HK.out _ _ ?_ ?_ ?_
              · (try simp only [h4]) <;> kernel_rfl
              · (first | rfl | (show _ = _; simp only [valOf]; congr 1; simp only [wrap64, IntKind.wrap_i64, B5.paint, B5.heat, B5.stretch]; omega) | (show _ = _; simp [valOf, B5.paint, B5.heat, B5.stretch, wrap64]; omega))
              · exact Bel.refl _
            · refine growOpF_k ?_; intro vs W hW hd K HK
              have h5 : (vs 5) = .int .i64 ((b.b2 : Nat) : Int) := hd 5 (by decide)
              clear hd
              obtain ⟨m0, m1, m2, m3, m4⟩ := HBO.out
              simp only [h5]
              gi_wp2_with fail
              refine HK.out _ _ ?_ ?_ ?_
              · (try simp only [h5]) <;> kernel_rfl
              · (first | rfl | (show _ = _; simp only [valOf]; congr 1; simp only [wrap64, IntKind.wrap_i64, B5.paint, B5.heat, B5.stretch]; omega) | (show _ = _; simp [valOf, B5.paint, B5.heat, B5.stretch, wrap64]; omega))
              · exact Bel.refl _
            · refine growOpF_k ?_; intro vs W hW hd K HK
              have h2 : (vs 2) = .int .i64 ((b.heat : Nat) : Int) := hd 2 (by decide)
              have h6 : (vs 6) = .int .i64 ((b.b2 % 8 : Nat) : Int) := hd 6 (by decide)
              clear hd
              obtain ⟨m0, m1, m2, m3, m4⟩ := HBO.out
              have q := D7.out
              simp only [h2, h6]
              gi_wp2_with fail
              refine HK.out _ _ ?_ ?_ ?_
              · (try simp only [h2, h6]) <;> kernel_rfl
              · (first | rfl | (show _ = _; simp only [valOf]; congr 1; simp only [wrap64, B5.paint, B5.heat, B5.stretch]; omega) | (show _ = _; simp [valOf, B5.paint, B5.heat, B5.stretch, wrap64]; omega))
              · exact Bel.refl _
            · refine growOpF_k ?_; intro vs W hW hd K HK
              clear hd
              gi_wp2_with fail
              refine HK.out _ _ ?_ ?_ ?_
              · kernel_rfl
              · rfl
              · exact Bel.refl _
            · refine growOpF_k ?_; intro vs W hW hd K HK
              clear hd
              gi_wp2_with fail
              refine HK.out _ _ ?_ ?_ ?_
              · kernel_rfl
              · rfl
              · exact Bel.refl _
            · refine growOpF_k ?_; intro vs W hW hd K HK
              have h9 : (vs 9) = .pointer (some ⟨V, 2, none⟩) := hd 9 (by decide)
              clear hd
              have c0 := (HC6.out.bel hW).2.2.1
              simp only [h9]
              gi_wp2_with fail
              refine HK.out _ _ ?_ ?_ ?_
              · (try simp only [h9]) <;> kernel_rfl
              · rfl
              · exact Bel.refl _
            · refine growOpF_k ?_; intro vs W hW hd K HK
              have h10 : (vs 10) = .int .u8 (b.b2 : Int) := hd 10 (by decide)
              clear hd
              obtain ⟨m0, m1, m2, m3, m4⟩ := HBO.out
              simp only [h10]
              gi_wp2_with fail
              refine HK.out _ _ ?_ ?_ ?_
              · (try simp only [h10]) <;> kernel_rfl
              · (first | rfl | (show _ = _; simp only [valOf]; congr 1; simp only [wrap64, IntKind.wrap_i64, B5.paint, B5.heat, B5.stretch]; omega) | (show _ = _; simp [valOf, B5.paint, B5.heat, B5.stretch, wrap64]; omega))
              · exact Bel.refl _
            · refine growOpF_k ?_; intro vs W hW hd K HK
              have h11 : (vs 11) = .int .i64 ((b.b2 : Nat) : Int) := hd 11 (by decide)
              clear hd
              obtain ⟨m0, m1, m2, m3, m4⟩ := HBO.out
              simp only [h11]
              gi_wp2_with fail
              refine HK.out _ _ ?_ ?_ ?_
              · (try simp only [h11]) <;> kernel_rfl
              · (first | rfl | (show _ = _; simp only [valOf]; congr 1; simp only [wrap64, IntKind.wrap_i64, B5.paint, B5.heat, B5.stretch]; omega) | (show _ = _; simp [valOf, B5.paint, B5.heat, B5.stretch, wrap64]; omega))
              · exact Bel.refl _
            · refine growOpF_k ?_; intro vs W hW hd K HK
              have h8 : (vs 8) = .int .i64 ((b.heat : Nat) : Int) := hd 8 (by decide)
              have h12 : (vs 12) = .int .i64 ((b.b2 / 16 : Nat) : Int) := hd 12 (by decide)
              clear hd
              obtain ⟨m0, m1, m2, m3, m4⟩ := HBO.out
              have q := D13.out
              simp only [h8, h12]
              gi_wp2_with fail
              refine HK.out _ _ ?_ ?_ ?_
              · (try simp only [h8, h12]) <;> kernel_rfl
              · (first | rfl | (show _ = _; simp only [valOf]; congr 1; simp only [wrap64, B5.paint, B5.heat, B5.stretch]; omega) | (show _ = _; simp [valOf, B5.paint, B5.heat, B5.stretch, wrap64]; omega))
              · exact Bel.refl _
            · refine growOpF_k ?_; intro vs W hW hd K HK
              have h7 : (vs 7) = .int .i64 b.paint.hl := hd 7 (by decide)
              have h13 : (vs 13) = .int .i64 b.paint.hh := hd 13 (by decide)
              clear hd
              simp only [h7, h13]
              gi_wp2_with fail
              refine ⟨trivial, rfl, (callsW (span_any _ _ _)).mono ?_⟩
              rintro e W' ⟨rfl, hb⟩
              gi_wp2_with fail
              refine HK.out _ _ ?_ ?_ ?_
              · (try simp only [h7, h13]) <;> kernel_rfl
              · rfl
              · exact hb
            · refine growOpF_k ?_; intro vs W hW hd K HK
              clear hd
              gi_wp2_with fail
              refine HK.out _ _ ?_ ?_ ?_
              · kernel_rfl
              · rfl
              · exact Bel.refl _
            · refine growOpF_k ?_; intro vs W hW hd K HK
              clear hd
              gi_wp2_with fail
              refine HK.out _ _ ?_ ?_ ?_
              · kernel_rfl
              · rfl
              · exact Bel.refl _
            · refine growOpF_k ?_; intro vs W hW hd K HK
              have h16 : (vs 16) = .pointer (some ⟨V, 3, none⟩) := hd 16 (by decide)
              clear hd
              have c0 := (HC6.out.bel hW).2.2.2.1
              simp only [h16]
              gi_wp2_with fail
              refine HK.out _ _ ?_ ?_ ?_
              · (try simp only [h16]) <;> kernel_rfl
              · rfl
              · exact Bel.refl _
            · refine growOpF_k ?_; intro vs W hW hd K HK
              have h17 : (vs 17) = .int .u8 (b.b3 : Int) := hd 17 (by decide)
              clear hd
              obtain ⟨m0, m1, m2, m3, m4⟩ := HBO.out
              simp only [h17]
              gi_wp2_with fail
              refine HK.out _ _ ?_ ?_ ?_
              · (try simp only [h17]) <;> kernel_rfl
              · (first | rfl | (show _ = _; simp only [valOf]; congr 1; simp only [wrap64, IntKind.wrap_i64, B5.paint, B5.heat, B5.stretch]; omega) | (show _ = _; simp [valOf, B5.paint, B5.heat, B5.stretch, wrap64]; omega))
              · exact Bel.refl _
            · refine growOpF_k ?_; intro vs W hW hd K HK
              have h18 : (vs 18) = .int .i64 ((b.b3 : Nat) : Int) := hd 18 (by decide)
              clear hd
              obtain ⟨m0, m1, m2, m3, m4⟩ := HBO.out
              simp only [h18]
              gi_wp2_with fail
              refine HK.out _ _ ?_ ?_ ?_
              · (try simp only [h18]) <;> kernel_rfl
              · (first | rfl | (show _ = _; simp only [valOf]; congr 1; simp only [wrap64, IntKind.wrap_i64, B5.paint, B5.heat, B5.stretch]; omega) | (show _ = _; simp [valOf, B5.paint, B5.heat, B5.stretch, wrap64]; omega))
              · exact Bel.refl _
            · refine growOpF_k ?_; intro vs W hW hd K HK
              have h15 : (vs 15) = .int .i64 ((b.stretch : Nat) : Int) := hd 15 (by decide)
              have h19 : (vs 19) = .int .i64 ((b.b3 % 8 : Nat) : Int) := hd 19 (by decide)
              clear hd
              obtain ⟨m0, m1, m2, m3, m4⟩ := HBO.out
              have q := D20.out
              simp only [h15, h19]
              gi_wp2_with fail
              refine HK.out _ _ ?_ ?_ ?_
              · (try simp only [h15, h19]) <;> kernel_rfl
              · (first | rfl | (show _ = _; simp only [valOf]; congr 1; simp only [wrap64, B5.paint, B5.heat, B5.stretch]; omega) | (show _ = _; simp [valOf, B5.paint, B5.heat, B5.stretch, wrap64]; omega))
              · exact Bel.refl _
            · refine growOpF_k ?_; intro vs W hW hd K HK
              clear hd
              gi_wp2_with fail
              refine HK.out _ _ ?_ ?_ ?_
              · kernel_rfl
              · rfl
              · exact Bel.refl _
            · refine growOpF_k ?_; intro vs W hW hd K HK
              clear hd
              gi_wp2_with fail
              refine HK.out _ _ ?_ ?_ ?_
              · kernel_rfl
              · rfl
              · exact Bel.refl _
            · refine growOpF_k ?_; intro vs W hW hd K HK
              have h22 : (vs 22) = .pointer (some ⟨V, 3, none⟩) := hd 22 (by decide)
              clear hd
              have c0 := (HC6.out.bel hW).2.2.2.1
              simp only [h22]
              gi_wp2_with fail
              refine HK.out _ _ ?_ ?_ ?_
              · (try simp only [h22]) <;> kernel_rfl
              · rfl
              · exact Bel.refl _
            · refine growOpF_k ?_; intro vs W hW hd K HK
              have h23 : (vs 23) = .int .u8 (b.b3 : Int) := hd 23 (by decide)
              clear hd
              obtain ⟨m0, m1, m2, m3, m4⟩ := HBO.out
              simp only [h23]
              gi_wp2_with fail
              refine HK.out _ _ ?_ ?_ ?_
              · (try simp only [h23]) <;> kernel_rfl
              · (first | rfl | (show _ = _; simp only [valOf]; congr 1; simp only [wrap64, IntKind.wrap_i64, B5.paint, B5.heat, B5.stretch]; omega) | (show _ = _; simp [valOf, B5.paint, B5.heat, B5.stretch, wrap64]; omega))
              · exact Bel.refl _
            · refine growOpF_k ?_; intro vs W hW hd K HK
              have h24 : (vs 24) = .int .i64 ((b.b3 : Nat) : Int) := hd 24 (by decide)
              clear hd
              obtain ⟨m0, m1, m2, m3, m4⟩ := HBO.out
              simp only [h24]
              gi_wp2_with fail
              refine HK.out _ _ ?_ ?_ ?_
              · (try simp only [h24]) <;> kernel_rfl
              · (first | rfl | (show _ = _; simp only [valOf]; congr 1; simp only [wrap64, IntKind.wrap_i64, B5.paint, B5.heat, B5.stretch]; omega) | (show _ = _; simp [valOf, B5.paint, B5.heat, B5.stretch, wrap64]; omega))
              · exact Bel.refl _
            · refine growOpF_k ?_; intro vs W hW hd K HK
              have h21 : (vs 21) = .int .i64 ((b.stretch : Nat) : Int) := hd 21 (by decide)
              have h25 : (vs 25) = .int .i64 ((b.b3 / 32 : Nat) : Int) := hd 25 (by decide)
              clear hd
              obtain ⟨m0, m1, m2, m3, m4⟩ := HBO.out
              have q := D26.out
              simp only [h21, h25]
              gi_wp2_with fail
              refine HK.out _ _ ?_ ?_ ?_
              · (try simp only [h21, h25]) <;> kernel_rfl
              · (first | rfl | (show _ = _; simp only [valOf]; congr 1; simp only [wrap64, B5.paint, B5.heat, B5.stretch]; omega) | (show _ = _; simp [valOf, B5.paint, B5.heat, B5.stretch, wrap64]; omega))
              · exact Bel.refl _
            · refine growOpF_k ?_; intro vs W hW hd K HK
              have h20 : (vs 20) = .int .i64 b.paint.sl := hd 20 (by decide)
              have h26 : (vs 26) = .int .i64 b.paint.sh := hd 26 (by decide)
              clear hd
              simp only [h20, h26]
              gi_wp2_with fail
              refine ⟨trivial, rfl, (callsW (span_any _ _ _)).mono ?_⟩
              rintro e W' ⟨rfl, hb⟩
              gi_wp2_with fail
              refine HK.out _ _ ?_ ?_ ?_
              · (try simp only [h20, h26]) <;> kernel_rfl
              · rfl
              · exact hb
            · refine growOpF_k ?_; intro vs W hW hd K HK
              clear hd
              gi_wp2_with fail
              refine HK.out _ _ ?_ ?_ ?_
              · kernel_rfl
              · rfl
              · exact Bel.refl _
            · refine growOpF_k ?_; intro vs W hW hd K HK
              have h28 : (vs 28) = .pointer (some ⟨V, 4, none⟩) := hd 28 (by decide)
              clear hd
              have c0 := (HC6.out.bel hW).2.2.2.2
              simp only [h28]
              gi_wp2_with fail
              refine HK.out _ _ ?_ ?_ ?_
              · (try simp only [h28]) <;> kernel_rfl
              · rfl
              · exact Bel.refl _
            · refine growOpF_k ?_; intro vs W hW hd K HK
              have h29 : (vs 29) = .int .u8 (b.b4 : Int) := hd 29 (by decide)
              clear hd
              obtain ⟨m0, m1, m2, m3, m4⟩ := HBO.out
              simp only [h29]
              gi_wp2_with fail
              refine HK.out _ _ ?_ ?_ ?_
              · (try simp only [h29]) <;> kernel_rfl
              · (first | rfl | (show _ = _; simp only [valOf]; congr 1; simp only [wrap64, IntKind.wrap_i64, B5.paint, B5.heat, B5.stretch]; omega) | (show _ = _; simp [valOf, B5.paint, B5.heat, B5.stretch, wrap64]; omega))
              · exact Bel.refl _
            · refine growOpF_k ?_; intro vs W hW hd K HK
              have h30 : (vs 30) = .int .i64 ((b.b4 : Nat) : Int) := hd 30 (by decide)
              clear hd
              obtain ⟨m0, m1, m2, m3, m4⟩ := HBO.out
              simp only [h30]
              gi_wp2_with fail
              refine HK.out _ _ ?_ ?_ ?_
              · (try simp only [h30]) <;> kernel_rfl
              · (first | rfl | (show _ = _; simp only [valOf]; congr 1; simp only [wrap64, IntKind.wrap_i64, B5.paint, B5.heat, B5.stretch]; omega) | (show _ = _; simp [valOf, B5.paint, B5.heat, B5.stretch, wrap64]; omega))
              · exact Bel.refl _
            · refine growOpF_k ?_; intro vs W hW hd K HK
              have h31 : (vs 31) = .int .i64 ((b.b4 % 3 : Nat) : Int) := hd 31 (by decide)
              clear hd
              obtain ⟨m0, m1, m2, m3, m4⟩ := HBO.out
              simp only [h31]
              gi_wp2_with fail
              refine HK.out _ _ ?_ ?_ ?_
              · (try simp only [h31]) <;> kernel_rfl
              · (first | rfl | (show _ = _; simp only [valOf]; congr 1; simp only [wrap64, IntKind.wrap_i64, B5.paint, B5.heat, B5.stretch]; omega) | (show _ = _; simp [valOf, B5.paint, B5.heat, B5.stretch, wrap64]; omega))
              · exact Bel.refl _
            · refine growOpF_k ?_; intro vs W hW hd K HK
              clear hd
              gi_wp2_with fail
              refine HK.out _ _ ?_ ?_ ?_
              · kernel_rfl
              · rfl
              · exact Bel.refl _
            · refine growOpF_k ?_; intro vs W hW hd K HK
              have h33 : (vs 33) = .pointer (some ⟨V, 4, none⟩) := hd 33 (by decide)
              clear hd
              have c0 := (HC6.out.bel hW).2.2.2.2
              simp only [h33]
              gi_wp2_with fail
              refine HK.out _ _ ?_ ?_ ?_
              · (try simp only [h33]) <;> kernel_rfl
              · rfl
              · exact Bel.refl _
            · refine growOpF_k ?_; intro vs W hW hd K HK
              have h34 : (vs 34) = .int .u8 (b.b4 : Int) := hd 34 (by decide)
              clear hd
              obtain ⟨m0, m1, m2, m3, m4⟩ := HBO.out
              simp only [h34]
              gi_wp2_with fail
              refine HK.out _ _ ?_ ?_ ?_
              · (try simp only [h34]) <;> kernel_rfl
              · (first | rfl | (show _ = _; simp only [valOf]; congr 1; simp only [wrap64, IntKind.wrap_i64, B5.paint, B5.heat, B5.stretch]; omega) | (show _ = _; simp [valOf, B5.paint, B5.heat, B5.stretch, wrap64]; omega))
              · exact Bel.refl _
            · refine growOpF_k ?_; intro vs W hW hd K HK
              have h35 : (vs 35) = .int .i64 ((b.b4 : Nat) : Int) := hd 35 (by decide)
              clear hd
              obtain ⟨m0, m1, m2, m3, m4⟩ := HBO.out
              simp only [h35]
              gi_wp2_with fail
              refine HK.out _ _ ?_ ?_ ?_
              · (try simp only [h35]) <;> kernel_rfl
              · (first | rfl | (show _ = _; simp only [valOf]; congr 1; simp only [wrap64, IntKind.wrap_i64, B5.paint, B5.heat, B5.stretch]; omega) | (show _ = _; simp [valOf, B5.paint, B5.heat, B5.stretch, wrap64]; omega))
              · exact Bel.refl _
            · refine growOpF_k ?_; intro vs W hW hd K HK
              have h36 : (vs 36) = .int .i64 ((b.b4 / 4 : Nat) : Int) := hd 36 (by decide)
              clear hd
              obtain ⟨m0, m1, m2, m3, m4⟩ := HBO.out
              simp only [h36]
              gi_wp2_with fail
              refine HK.out _ _ ?_ ?_ ?_
              · (try simp only [h36]) <;> kernel_rfl
              · (first | rfl | (show _ = _; simp only [valOf]; congr 1; simp only [wrap64, IntKind.wrap_i64, B5.paint, B5.heat, B5.stretch]; omega) | (show _ = _; simp [valOf, B5.paint, B5.heat, B5.stretch, wrap64]; omega))
              · exact Bel.refl _
            · refine growOpF_k ?_; intro vs W hW hd K HK
              have h37 : (vs 37) = .int .i64 ((b.b4 / 4 % 12 : Nat) : Int) := hd 37 (by decide)
              clear hd
              obtain ⟨m0, m1, m2, m3, m4⟩ := HBO.out
              simp only [h37]
              gi_wp2_with fail
              refine HK.out _ _ ?_ ?_ ?_
              · (try simp only [h37]) <;> kernel_rfl
              · (first | rfl | (show _ = _; simp only [valOf]; congr 1; simp only [wrap64, IntKind.wrap_i64, B5.paint, B5.heat, B5.stretch]; omega) | (show _ = _; simp [valOf, B5.paint, B5.heat, B5.stretch, wrap64]; omega))
              · exact Bel.refl _
            · refine growOpF_k ?_; intro vs W hW hd K HK
              have h14 : (vs 14) = .agg #[.int .i64 b.paint.hl, .int .i64 b.paint.hh] := hd 14 (by decide)
              have h27 : (vs 27) = .agg #[.int .i64 b.paint.sl, .int .i64 b.paint.sh] := hd 27 (by decide)
              have h32 : (vs 32) = .int .i64 b.paint.coats := hd 32 (by decide)
              have h38 : (vs 38) = .int .i64 b.paint.most := hd 38 (by decide)
              clear hd
              simp only [h14, h27, h32, h38]
              gi_wp2_with fail
              refine ⟨trivial, rfl, (callsW (paint_any _ _ _ _ _ _ _)).mono ?_⟩
              rintro e W' ⟨rfl, hb⟩
              gi_wp2_with fail
              refine HK.out _ _ ?_ ?_ ?_
              · (try simp only [h14, h27, h32, h38]) <;> kernel_rfl
              · rfl
              · exact hb
            · refine growOpF_k ?_; intro vs W hW hd K HK
              have h39 : (vs 39) = .agg #[.int .i64 b.paint.hl, .int .i64 b.paint.hh, .int .i64 b.paint.sl, .int .i64 b.paint.sh, .int .i64 b.paint.coats, .int .i64 b.paint.most] := hd 39 (by decide)
              clear hd
              simp only [h39]
              gi_wp2_with fail
              refine HK.out _ _ ?_ ?_ ?_
              · (try simp only [h39]) <;> kernel_rfl
              · exact ⟨_, rfl, NewRow.new _ _ _⟩
              · exact (Bel.refl _).alloc _
          case gfin6 =>
            intro vs W hW hall
            have g1 : vs 1 = pr := hall 1 (by decide)
            have g40 : ∃ g, vs 40 = .slice (some ⟨g, 0, none⟩) 1 1 ∧ NewRow W (g) (paintRow b.paint) := hall 40 (by decide)
            clear hall
            obtain ⟨g, g40, hnr⟩ := g40
            simp only [List.drop_succ_cons, List.drop_zero, g1, g40]
            have HI6 := Lib.hid (HI5.out.bel hW)
            have HNR := Lib.hid hnr
            have hm3 : W1.heap.size ≤ W.heap.size := HI6.out.but.size
            have hm4 : (0 + 1) * 48 ≤ 140737488355328 := by omega
            clear hW g1 g40 hnr
            gi_wp2_with (gi_at_builtin; refine wpListIn_append_own2 rfl _ _ 28 rfl W1.heap.size 56 i1 _ 6 48 Try.underlying28 hp hy0 hy1 hy2 rfl (by decide) _ _ _ rfl HI6.out.paints ⟨g, 0, none⟩ 1 1 (paintRow b.paint) rfl rfl HNR.out (by simp [paintRow, Value.oneCell']) hm1 hm4 hm3 ?_; intro v3 w6 ho1 hg1 hw1; obtain ⟨xa, xc, rfl⟩ := own_sln ho1; have HI7 := Lib.hid (HI6.out.paint HZ.out HRS.out ho1 hg1 hw1); have s0 := HI7.out.set.c4.1; have s1 := HI7.out.set.fro 0; clear ho1 hg1 hw1 hm3)
            have HI8 := Lib.hid (HI7.out.store HZ.out (.slice xa (0 + 1) xc))
            clear hm4
            go_roundw
            case rel =>
              refine ⟨0 + 1, _, by omega, by go_num, HI8.out⟩
            case measure => simp [intOf]; omega
    · obtain rfl : k = x.many := by omega
      have hm1 := x.many1
      have hk0d : ((x.many : Int) == 0) = false := beq_eq_false_iff_ne.2 (by omega)
      have hI := HI.out
      obtain ⟨xa, xc, rfl⟩ := own_sln hI.paints
      have hcut : (decide ((x.many : Int) < (x.paints.length : Int)) && decide ((x.many : Int) < 5)) = false := by
        by_cases e : x.many < x.paints.length
        · have : ¬ (x.many : Int) < 5 := by omega
          simp [this]
        · have : ¬ (x.many : Int) < (x.paints.length : Int) := by omega
          simp [this]
      have HMY := Lib.hid hm1
      have HCUT := Lib.hid hcut
      clear hI hm1 hcut hlt hk
      by_cases e : x.many < x.paints.length
      · have q0 : decide ((x.many : Int) < (x.paints.length : Int)) = true := decide_eq_true (by omega)
        have q1 : decide ((x.many : Int) < 5) = false := by have := HCUT.out; rw [q0] at this; simpa using this
        have q2 : ¬ (x.many : Int) < 5 := of_decide_eq_false q1
        have q3 : decide (x.many < x.paints.length) = true := decide_eq_true e
        clear hmy
        gi_wp2_with fail
        clear q0 q1 q2 q3 c0 c1 c2 c3 hk0d
        obtain ⟨w2, rfl⟩ : ∃ w2, w2 = wr := ⟨_, rfl⟩
        gi_loopw [9] (fun i w3 => ∃ (q : Nat) (er : Value), q ≤ min 4 x.eats.length ∧ i = .int .i64 q ∧ w3.ownsRow w2.heap.size 85 2 er (x.pairs x.many q).length ((x.pairs x.many q).flatMap pairRow) ∧ Row4 w3 (w.heap.size + 1) (.slice xa x.many xc) (.int .i64 nr) (.int .i64 gv) er 31 ∧ But (w.heap.size + 1) w2 w3) (fun i _ => 4 - (intOf i).toNat)
        case atStart => exact ⟨0, _, Nat.zero_le _, rfl, ⟨rfl, .inl ⟨rfl, rfl⟩⟩, HI.out.set, But.refl _ _⟩
        case round =>
          obtain ⟨q, er, hq, rfl, ho, hr, hbw⟩ := hrel
          have HO := Lib.hid ho
          have HR := Lib.hid hr
          have HBW := Lib.hid hbw
          obtain ⟨c0, c1, c2, c3⟩ := hbw.c4 (by omega) (HI.out.but.c4 (by omega) HXR.out)
          clear ho hr hbw
          have HPS := Lib.hid (x.pairs_succ x.many q)
          have HPL := Lib.hid (x.pairs_len x.many q)
          by_cases hq4 : q < min 4 x.eats.length
          · have p0 : decide ((q : Int) < (x.eats.length : Int)) = true := decide_eq_true (by omega)
            have p1 : decide ((q : Int) < 4) = true := decide_eq_true (by omega)
            have p2 : decide (q < x.eats.length) = true := decide_eq_true (by omega)
            obtain ⟨eb, eoff, rfl, e0, e1⟩ := HEC.out q (by omega)
            have hbl := lt_of_cell e0
            have hcl : ∀ p u, p.block = eb → w.cell? p = some u → wr.cell? p = some u := fun p u hp hu => HBW.out.cell (by rw [hp]; simp at hbl; omega) (HI.out.but.cell (by rw [hp]; simp at hbl; omega) (HB0.out.cell hu))
            have EC0 := Lib.hid (hcl _ _ rfl e0)
            have EC1 := Lib.hid (hcl _ _ rfl e1)
            have hab := HX.out.eats q
            generalize (x.eats.getD q (0, 0)).1 = A at EC0 hab HPS
            generalize (x.eats.getD q (0, 0)).2 = B at EC1 hab HPS
            have C3X := Lib.hid c3
            have HAB := Lib.hid hab
            have HQL := Lib.hid (show q < x.eats.length by omega)
            have HMN := Lib.hid (show (x.many : Int) ≠ 0 by have := HMY.out; omega)
            have HMA := Lib.hid (show (A : Int).tmod (x.many : Int) = ((A % x.many : Nat) : Int) from rfl)
            have HMB := Lib.hid (show (B : Int).tmod (x.many : Int) = ((B % x.many : Nat) : Int) from rfl)
            have HMW := Lib.hid HMY.out
            have hq5 := hq4
            clear e0 e1 hbl hcl hab hq hq4
            gi_wp2_with fail
            refine region_growF (fun i v W => match i with
              | 0 => v = .pointer (some ⟨w.heap.size, 3, none⟩)
              | 1 => v = .slice (some ⟨eb, eoff, none⟩) x.eats.length ec
              | 2 => v = .int .i64 ((q : Nat) : Int)
              | 3 => v = .pointer (some ⟨eb, eoff + q * 2, none⟩)
              | 4 => v = .pointer (some ⟨eb, eoff + q * 2, none⟩)
              | 5 => v = .int .u8 (A : Int)
              | 6 => v = .int .i64 ((A : Nat) : Int)
              | 7 => v = .pointer (some ⟨w.heap.size + 1, 0, none⟩)
              | 8 => v = .slice xa x.many xc
              | 9 => v = .int .i64 ((x.many : Nat) : Int)
              | 10 => v = .int .i64 ((A % x.many : Nat) : Int)
              | 11 => v = .pointer (some ⟨w.heap.size, 3, none⟩)
              | 12 => v = .slice (some ⟨eb, eoff, none⟩) x.eats.length ec
              | 13 => v = .int .i64 ((q : Nat) : Int)
              | 14 => v = .pointer (some ⟨eb, eoff + q * 2, none⟩)
              | 15 => v = .pointer (some ⟨eb, eoff + q * 2 + 1, none⟩)
              | 16 => v = .int .u8 (B : Int)
              | 17 => v = .int .i64 ((B : Nat) : Int)
              | 18 => v = .pointer (some ⟨w.heap.size + 1, 0, none⟩)
              | 19 => v = .slice xa x.many xc
              | 20 => v = .int .i64 ((x.many : Nat) : Int)
              | 21 => v = .int .i64 ((B % x.many : Nat) : Int)
              | 22 => v = .int .i64 ((A % x.many : Nat) : Int)
              | 23 => v = .int .i64 ((B % x.many : Nat) : Int)
              | _ => True) ?gfa7 ?gframe7 (by kernel_rfl) (by kernel_rfl) (by kernel_rfl) ?gstays7 ?gops7 ?gfin7
            case gframe7 =>
              intro vs
              simp only [putAll, Act.put, List.setIfInBounds_toArray, List.set_cons_succ, List.set_cons_zero, Nat.reduceAdd, Nat.zero_add]
              exact rfl
            case gstays7 =>
              intro i v W W' h hb
              split at h <;> first | exact h | exact h.bel hb | exact fun e => (h e).bel hb | exact ⟨h.1.bel hb, h.2⟩
            case gops7 =>
              refine ⟨?_, ?_, ?_, ?_, ?_, ?_, ?_, ?_, ?_, ?_, ?_, ?_, ?_, ?_, ?_, ?_, ?_, ?_, ?_, ?_, ?_, ?_, ?_, ?_, trivial⟩
              · refine growOpF_k ?_; intro vs W hW hd K HK
                clear hd
                gi_wp2_with fail
                refine HK.out _ _ ?_ ?_ ?_
                · kernel_rfl
                · (first | rfl | (show _ = _; simp only [valOf]; congr 1; simp only [wrap64, IntKind.wrap_i64]; omega) | (show _ = _; simp [valOf, wrap64]; omega) | (show _ = _; simp [valOf]) | (show _ = _; simp [valOf, wrap64]))
                · exact Bel.refl _
              · refine growOpF_k ?_; intro vs W hW hd K HK
                have h0 : (vs 0) = .pointer (some ⟨w.heap.size, 3, none⟩) := hd 0 (by decide)
                clear hd
                have c3 := hW.cell C3X.out
                simp only [h0]
                gi_wp2_with fail
                refine HK.out _ _ ?_ ?_ ?_
                · (try simp only [h0]) <;> kernel_rfl
                · (first | rfl | (show _ = _; simp only [valOf]; congr 1; simp only [wrap64, IntKind.wrap_i64]; omega) | (show _ = _; simp [valOf, wrap64]; omega) | (show _ = _; simp [valOf]) | (show _ = _; simp [valOf, wrap64]))
                · exact Bel.refl _
              · refine growOpF_k ?_; intro vs W hW hd K HK
                clear hd
                gi_wp2_with fail
                refine HK.out _ _ ?_ ?_ ?_
                · kernel_rfl
                · (first | rfl | (show _ = _; simp only [valOf]; congr 1; simp only [wrap64, IntKind.wrap_i64]; omega) | (show _ = _; simp [valOf, wrap64]; omega) | (show _ = _; simp [valOf]) | (show _ = _; simp [valOf, wrap64]))
                · exact Bel.refl _
              · refine growOpF_k ?_; intro vs W hW hd K HK
                have h1 : (vs 1) = .slice (some ⟨eb, eoff, none⟩) x.eats.length ec := hd 1 (by decide)
                have h2 : (vs 2) = .int .i64 ((q : Nat) : Int) := hd 2 (by decide)
                clear hd
                have q0 := HQL.out
                simp only [h1, h2]
                gi_wp2_with fail
                refine HK.out _ _ ?_ ?_ ?_
                · (try simp only [h1, h2]) <;> kernel_rfl
                · (first | rfl | (show _ = _; simp only [valOf]; congr 1; simp only [wrap64, IntKind.wrap_i64]; omega) | (show _ = _; simp [valOf, wrap64]; omega) | (show _ = _; simp [valOf]) | (show _ = _; simp [valOf, wrap64]))
                · exact Bel.refl _
              · refine growOpF_k ?_; intro vs W hW hd K HK
                have h3 : (vs 3) = .pointer (some ⟨eb, eoff + q * 2, none⟩) := hd 3 (by decide)
                clear hd
                simp only [h3]
                gi_wp2_with fail
                refine HK.out _ _ ?_ ?_ ?_
                · (try simp only [h3]) <;> kernel_rfl
                · (first | rfl | (show _ = _; simp only [valOf]; congr 1; simp only [wrap64, IntKind.wrap_i64]; omega) | (show _ = _; simp [valOf, wrap64]; omega) | (show _ = _; simp [valOf]) | (show _ = _; simp [valOf, wrap64]))
                · exact Bel.refl _
              · refine growOpF_k ?_; intro vs W hW hd K HK
                have h4 : (vs 4) = .pointer (some ⟨eb, eoff + q * 2, none⟩) := hd 4 (by decide)
                clear hd
                have c3 := hW.cell EC0.out
                simp only [h4]
                gi_wp2_with fail
                refine HK.out _ _ ?_ ?_ ?_
                · (try simp only [h4]) <;> kernel_rfl
                · (first | rfl | (show _ = _; simp only [valOf]; congr 1; simp only [wrap64, IntKind.wrap_i64]; omega) | (show _ = _; simp [valOf, wrap64]; omega) | (show _ = _; simp [valOf]) | (show _ = _; simp [valOf, wrap64]))
                · exact Bel.refl _
              · refine growOpF_k ?_; intro vs W hW hd K HK
                have h5 : (vs 5) = .int .u8 (A : Int) := hd 5 (by decide)
                clear hd
                have q0 := HAB.out
                simp only [h5]
                gi_wp2_with fail
                refine HK.out _ _ ?_ ?_ ?_
                · (try simp only [h5]) <;> kernel_rfl
                · (first | rfl | (show _ = _; simp only [valOf]; congr 1; simp only [wrap64, IntKind.wrap_i64]; omega) | (show _ = _; simp [valOf, wrap64]; omega) | (show _ = _; simp [valOf]) | (show _ = _; simp [valOf, wrap64]))
                · exact Bel.refl _
              · refine growOpF_k ?_; intro vs W hW hd K HK
                clear hd
                gi_wp2_with fail
                refine HK.out _ _ ?_ ?_ ?_
                · kernel_rfl
                · (first | rfl | (show _ = _; simp only [valOf]; congr 1; simp only [wrap64, IntKind.wrap_i64]; omega) | (show _ = _; simp [valOf, wrap64]; omega) | (show _ = _; simp [valOf]) | (show _ = _; simp [valOf, wrap64]))
                · exact Bel.refl _
              · refine growOpF_k ?_; intro vs W hW hd K HK
                have h7 : (vs 7) = .pointer (some ⟨w.heap.size + 1, 0, none⟩) := hd 7 (by decide)
                clear hd
                have c3 := (HR.out.bel hW).c4.1
                simp only [h7]
                gi_wp2_with fail
                refine HK.out _ _ ?_ ?_ ?_
                · (try simp only [h7]) <;> kernel_rfl
                · (first | rfl | (show _ = _; simp only [valOf]; congr 1; simp only [wrap64, IntKind.wrap_i64]; omega) | (show _ = _; simp [valOf, wrap64]; omega) | (show _ = _; simp [valOf]) | (show _ = _; simp [valOf, wrap64]))
                · exact Bel.refl _
              · refine growOpF_k ?_; intro vs W hW hd K HK
                have h8 : (vs 8) = .slice xa x.many xc := hd 8 (by decide)
                clear hd
                simp only [h8]
                gi_wp2_with fail
                refine HK.out _ _ ?_ ?_ ?_
                · (try simp only [h8]) <;> kernel_rfl
                · (first | rfl | (show _ = _; simp only [valOf]; congr 1; simp only [wrap64, IntKind.wrap_i64]; omega) | (show _ = _; simp [valOf, wrap64]; omega) | (show _ = _; simp [valOf]) | (show _ = _; simp [valOf, wrap64]))
                · exact Bel.refl _
              · refine growOpF_k ?_; intro vs W hW hd K HK
                have h6 : (vs 6) = .int .i64 ((A : Nat) : Int) := hd 6 (by decide)
                have h9 : (vs 9) = .int .i64 ((x.many : Nat) : Int) := hd 9 (by decide)
                clear hd
                have q0 := HAB.out
                have q1 := HMN.out
                have q2 := HMA.out
                have q3 := HMB.out
                have q4 := HMW.out
                simp only [h6, h9]
                gi_wp2_with fail
                refine HK.out _ _ ?_ ?_ ?_
                · (try simp only [h6, h9]) <;> kernel_rfl
                · (first | rfl | (show _ = _; simp only [valOf]; congr 1; simp only [wrap64, IntKind.wrap_i64]; omega) | (show _ = _; simp [valOf, wrap64]; omega) | (show _ = _; simp [valOf]) | (show _ = _; simp [valOf, wrap64]))
                · exact Bel.refl _
              · refine growOpF_k ?_; intro vs W hW hd K HK
                clear hd
                gi_wp2_with fail
                refine HK.out _ _ ?_ ?_ ?_
                · kernel_rfl
                · (first | rfl | (show _ = _; simp only [valOf]; congr 1; simp only [wrap64, IntKind.wrap_i64]; omega) | (show _ = _; simp [valOf, wrap64]; omega) | (show _ = _; simp [valOf]) | (show _ = _; simp [valOf, wrap64]))
                · exact Bel.refl _
              · refine growOpF_k ?_; intro vs W hW hd K HK
                have h11 : (vs 11) = .pointer (some ⟨w.heap.size, 3, none⟩) := hd 11 (by decide)
                clear hd
                have c3 := hW.cell C3X.out
                simp only [h11]
                gi_wp2_with fail
                refine HK.out _ _ ?_ ?_ ?_
                · (try simp only [h11]) <;> kernel_rfl
                · (first | rfl | (show _ = _; simp only [valOf]; congr 1; simp only [wrap64, IntKind.wrap_i64]; omega) | (show _ = _; simp [valOf, wrap64]; omega) | (show _ = _; simp [valOf]) | (show _ = _; simp [valOf, wrap64]))
                · exact Bel.refl _
              · refine growOpF_k ?_; intro vs W hW hd K HK
                clear hd
                gi_wp2_with fail
                refine HK.out _ _ ?_ ?_ ?_
                · kernel_rfl
                · (first | rfl | (show _ = _; simp only [valOf]; congr 1; simp only [wrap64, IntKind.wrap_i64]; omega) | (show _ = _; simp [valOf, wrap64]; omega) | (show _ = _; simp [valOf]) | (show _ = _; simp [valOf, wrap64]))
                · exact Bel.refl _
              · refine growOpF_k ?_; intro vs W hW hd K HK
                have h12 : (vs 12) = .slice (some ⟨eb, eoff, none⟩) x.eats.length ec := hd 12 (by decide)
                have h13 : (vs 13) = .int .i64 ((q : Nat) : Int) := hd 13 (by decide)
                clear hd
                have q0 := HQL.out
                simp only [h12, h13]
                gi_wp2_with fail
                refine HK.out _ _ ?_ ?_ ?_
                · (try simp only [h12, h13]) <;> kernel_rfl
                · (first | rfl | (show _ = _; simp only [valOf]; congr 1; simp only [wrap64, IntKind.wrap_i64]; omega) | (show _ = _; simp [valOf, wrap64]; omega) | (show _ = _; simp [valOf]) | (show _ = _; simp [valOf, wrap64]))
                · exact Bel.refl _
              · refine growOpF_k ?_; intro vs W hW hd K HK
                have h14 : (vs 14) = .pointer (some ⟨eb, eoff + q * 2, none⟩) := hd 14 (by decide)
                clear hd
                simp only [h14]
                gi_wp2_with fail
                refine HK.out _ _ ?_ ?_ ?_
                · (try simp only [h14]) <;> kernel_rfl
                · (first | rfl | (show _ = _; simp only [valOf]; congr 1; simp only [wrap64, IntKind.wrap_i64]; omega) | (show _ = _; simp [valOf, wrap64]; omega) | (show _ = _; simp [valOf]) | (show _ = _; simp [valOf, wrap64]))
                · exact Bel.refl _
              · refine growOpF_k ?_; intro vs W hW hd K HK
                have h15 : (vs 15) = .pointer (some ⟨eb, eoff + q * 2 + 1, none⟩) := hd 15 (by decide)
                clear hd
                have c3 := hW.cell EC1.out
                simp only [h15]
                gi_wp2_with fail
                refine HK.out _ _ ?_ ?_ ?_
                · (try simp only [h15]) <;> kernel_rfl
                · (first | rfl | (show _ = _; simp only [valOf]; congr 1; simp only [wrap64, IntKind.wrap_i64]; omega) | (show _ = _; simp [valOf, wrap64]; omega) | (show _ = _; simp [valOf]) | (show _ = _; simp [valOf, wrap64]))
                · exact Bel.refl _
              · refine growOpF_k ?_; intro vs W hW hd K HK
                have h16 : (vs 16) = .int .u8 (B : Int) := hd 16 (by decide)
                clear hd
                have q0 := HAB.out
                simp only [h16]
                gi_wp2_with fail
                refine HK.out _ _ ?_ ?_ ?_
                · (try simp only [h16]) <;> kernel_rfl
                · (first | rfl | (show _ = _; simp only [valOf]; congr 1; simp only [wrap64, IntKind.wrap_i64]; omega) | (show _ = _; simp [valOf, wrap64]; omega) | (show _ = _; simp [valOf]) | (show _ = _; simp [valOf, wrap64]))
                · exact Bel.refl _
              · refine growOpF_k ?_; intro vs W hW hd K HK
                clear hd
                gi_wp2_with fail
                refine HK.out _ _ ?_ ?_ ?_
                · kernel_rfl
                · (first | rfl | (show _ = _; simp only [valOf]; congr 1; simp only [wrap64, IntKind.wrap_i64]; omega) | (show _ = _; simp [valOf, wrap64]; omega) | (show _ = _; simp [valOf]) | (show _ = _; simp [valOf, wrap64]))
                · exact Bel.refl _
              · refine growOpF_k ?_; intro vs W hW hd K HK
                have h18 : (vs 18) = .pointer (some ⟨w.heap.size + 1, 0, none⟩) := hd 18 (by decide)
                clear hd
                have c3 := (HR.out.bel hW).c4.1
                simp only [h18]
                gi_wp2_with fail
                refine HK.out _ _ ?_ ?_ ?_
                · (try simp only [h18]) <;> kernel_rfl
                · (first | rfl | (show _ = _; simp only [valOf]; congr 1; simp only [wrap64, IntKind.wrap_i64]; omega) | (show _ = _; simp [valOf, wrap64]; omega) | (show _ = _; simp [valOf]) | (show _ = _; simp [valOf, wrap64]))
                · exact Bel.refl _
              · refine growOpF_k ?_; intro vs W hW hd K HK
                have h19 : (vs 19) = .slice xa x.many xc := hd 19 (by decide)
                clear hd
                simp only [h19]
                gi_wp2_with fail
                refine HK.out _ _ ?_ ?_ ?_
                · (try simp only [h19]) <;> kernel_rfl
                · (first | rfl | (show _ = _; simp only [valOf]; congr 1; simp only [wrap64, IntKind.wrap_i64]; omega) | (show _ = _; simp [valOf, wrap64]; omega) | (show _ = _; simp [valOf]) | (show _ = _; simp [valOf, wrap64]))
                · exact Bel.refl _
              · refine growOpF_k ?_; intro vs W hW hd K HK
                have h17 : (vs 17) = .int .i64 ((B : Nat) : Int) := hd 17 (by decide)
                have h20 : (vs 20) = .int .i64 ((x.many : Nat) : Int) := hd 20 (by decide)
                clear hd
                have q0 := HAB.out
                have q1 := HMN.out
                have q2 := HMA.out
                have q3 := HMB.out
                have q4 := HMW.out
                simp only [h17, h20]
                gi_wp2_with fail
                refine HK.out _ _ ?_ ?_ ?_
                · (try simp only [h17, h20]) <;> kernel_rfl
                · (first | rfl | (show _ = _; simp only [valOf]; congr 1; simp only [wrap64, IntKind.wrap_i64]; omega) | (show _ = _; simp [valOf, wrap64]; omega) | (show _ = _; simp [valOf]) | (show _ = _; simp [valOf, wrap64]))
                · exact Bel.refl _
              · refine growOpF_k ?_; intro vs W hW hd K HK
                have h10 : (vs 10) = .int .i64 ((A % x.many : Nat) : Int) := hd 10 (by decide)
                clear hd
                simp only [h10]
                gi_wp2_with fail
                refine HK.out _ _ ?_ ?_ ?_
                · (try simp only [h10]) <;> kernel_rfl
                · (first | rfl | (show _ = _; simp only [valOf]; congr 1; simp only [wrap64, IntKind.wrap_i64]; omega) | (show _ = _; simp [valOf, wrap64]; omega) | (show _ = _; simp [valOf]) | (show _ = _; simp [valOf, wrap64]))
                · exact Bel.refl _
              · refine growOpF_k ?_; intro vs W hW hd K HK
                have h21 : (vs 21) = .int .i64 ((B % x.many : Nat) : Int) := hd 21 (by decide)
                clear hd
                simp only [h21]
                gi_wp2_with fail
                refine HK.out _ _ ?_ ?_ ?_
                · (try simp only [h21]) <;> kernel_rfl
                · (first | rfl | (show _ = _; simp only [valOf]; congr 1; simp only [wrap64, IntKind.wrap_i64]; omega) | (show _ = _; simp [valOf, wrap64]; omega) | (show _ = _; simp [valOf]) | (show _ = _; simp [valOf, wrap64]))
                · exact Bel.refl _
            case gfin7 =>
              intro vs W hW hall
              have g22 : vs 22 = .int .i64 ((A % x.many : Nat) : Int) := hall 22 (by decide)
              have g23 : vs 23 = .int .i64 ((B % x.many : Nat) : Int) := hall 23 (by decide)
              clear hall
              simp only [g22, g23]
              have HO2 := Lib.hid (ownsRow_bel HO.out hW)
              have HR2 := Lib.hid (HR.out.bel hW)
              have HBW2 := Lib.hid (HBW.out.trans (hW.but _))
              clear hW g22 g23 c0 c1 c2 c3
              have hsz := HBW2.out.size
              have hmn := HI.out.but.size
              have hzz := HZ.out
              have hpl := HPL.out
              generalize A % x.many = a at *
              generalize B % x.many = b at *
              generalize hPQ : x.pairs x.many q = PQ at *
              by_cases hne : a = b
              · subst hne
                clear hsz hmn hzz hpl
                gi_wp2_with fail
                go_roundw
                case rel =>
                  refine ⟨q + 1, er, by omega, by go_num, ?_, HR2.out, HBW2.out⟩
                  have e : x.pairs x.many (q + 1) = PQ := by rw [HPS.out]; simp
                  rw [e]; exact HO2.out
                case measure => simp [intOf]; omega
              · have hne2 : ¬ (a : Int) = (b : Int) := by omega
                have c3 := HR2.out.c4.2.2.2
                have hm1 : PQ.length + 1 ≤ maxLen := by unfold maxLen; omega
                have hm2 : (PQ.length + 1) * 16 ≤ 140737488355328 := by omega
                have hm3 : w2.heap.size ≤ (W.alloc (.cells #[.int .i64 (a : Int), .int .i64 (b : Int)] 85)).heap.size := by simp; omega
                have hm4 : w.heap.size + 1 < w2.heap.size := by omega
                clear hsz hmn hzz hpl
                gi_wp2_with (gi_at_builtin; refine wpListIn_append_own _ rfl _ _ 29 rfl w2.heap.size 85 i2 (.agg #[.int .i64 0, .int .i64 0]) 2 16 Try.underlying29 he hx0 hx1 hx2 rfl (by decide) _ _ _ rfl (ownsRow_bel HO2.out ((Bel.refl _).alloc (.cells #[.int .i64 (a : Int), .int .i64 (b : Int)] 85))) ⟨W.heap.size, 0, none⟩ 1 1 [.int .i64 (a : Int), .int .i64 (b : Int)] rfl rfl (NewRow.new W [.int .i64 (a : Int), .int .i64 (b : Int)] 85) (by simp [Value.oneCell']) hm1 hm2 hm3 ?_; intro v' w4 ho1 hg1 _; obtain ⟨ya, yc, rfl⟩ := own_sln ho1; have HO4 := Lib.hid ho1; have HR4 := Lib.hid ((HR2.out.bel ((Bel.refl _).alloc _)).grown hg1 (fun e => by have := (HO2.out.lt _ e.symm).1; omega)); have HB4 := Lib.hid ((HBW2.out.trans (((Bel.refl _).alloc _).but _)).grown hg1 (fun k hk => (HO2.out.lt k hk).1)); have s0 := HR4.out.c4.2.2.2; have s1 := HR4.out.fro 3; clear ho1 hg1 hm3 c3)
                go_roundw
                case rel =>
                  refine ⟨q + 1, _, by omega, by go_num, ?_, heap_set HR4.out 3 _, HB4.out.trans (But.set _ _ _ _)⟩
                  have e : x.pairs x.many (q + 1) = PQ ++ [(a, b)] := by rw [HPS.out, if_neg hne]
                  rw [e]
                  have h := ownsRow_but HO4.out (But.set (w.heap.size + 1) 3 w4 (.slice ya (PQ.length + 1) yc)) hm4
                  simpa [pairRow] using h
                case measure => simp [intOf]; omega
          · have hqe : q = min 4 x.eats.length := by omega
            obtain ⟨ya, yc, rfl⟩ := own_sln HO.out
            obtain ⟨d0, d1, d2, d3⟩ := HR.out.c4
            have y0 := HR.out.fro 0
            have y1 := HR.out.fro 1
            have y2 := HR.out.fro 2
            have y3 := HR.out.fro 3
            by_cases e2 : q < x.eats.length
            · have p0 : decide (q < x.eats.length) = true := decide_eq_true e2
              have p1 : ¬ (q : Int) < 4 := by omega
              subst hqe
              clear hq hq4
              gi_wp2_with fail
              obtain ⟨V, hV⟩ : ∃ V, (((wr.setCell ⟨w.heap.size + 1, 0, none⟩ (.slice xa x.many xc)).setCell ⟨w.heap.size + 1, 1, none⟩ (.int .i64 nr)).setCell ⟨w.heap.size + 1, 2, none⟩ (.int .i64 gv)).setCell ⟨w.heap.size + 1, 3, none⟩ (.slice ya (x.pairs x.many (min 4 x.eats.length)).length yc) = V := ⟨_, rfl⟩
              have hbv : But (w.heap.size + 1) wr V := by rw [← hV]; exact ((But.set _ _ _ _).trans (But.set _ _ _ _)).trans ((But.set _ _ _ _).trans (But.set _ _ _ _))
              have hrv : Row4 V (w.heap.size + 1) (.slice xa x.many xc) (.int .i64 nr) (.int .i64 gv) (.slice ya (x.pairs x.many (min 4 x.eats.length)).length yc) 31 := by
                rw [← hV]; exact heap_set (heap_set (heap_set (heap_set HR.out 0 _) 1 _) 2 _) 3 _
              rw [hV]
              have hend := made_end HNR.out HGV.out HZ.out HB0.out HI.out HO.out HBW.out hbv
              obtain ⟨z0, z1, z2, z3⟩ := hrv.c4
              clear hV hbv hrv
              exact bodyPost_ret (v := .tuple #[.agg #[.slice xa x.many xc, .int .i64 nr, .int .i64 gv, .slice ya (x.pairs x.many (min 4 x.eats.length)).length yc], u3, u4]) (by simp [results, Try.results8, go_sem, z0, z1, z2, z3]) rfl ⟨_, _, _, rfl, hend.1, hend.2.1, hend.2.2.1, hend.2.2.2⟩
            · have p0 : decide (q < x.eats.length) = false := decide_eq_false e2
              subst hqe
              clear hq hq4
              gi_wp2_with fail
              obtain ⟨V, hV⟩ : ∃ V, (((wr.setCell ⟨w.heap.size + 1, 0, none⟩ (.slice xa x.many xc)).setCell ⟨w.heap.size + 1, 1, none⟩ (.int .i64 nr)).setCell ⟨w.heap.size + 1, 2, none⟩ (.int .i64 gv)).setCell ⟨w.heap.size + 1, 3, none⟩ (.slice ya (x.pairs x.many (min 4 x.eats.length)).length yc) = V := ⟨_, rfl⟩
              have hbv : But (w.heap.size + 1) wr V := by rw [← hV]; exact ((But.set _ _ _ _).trans (But.set _ _ _ _)).trans ((But.set _ _ _ _).trans (But.set _ _ _ _))
              have hrv : Row4 V (w.heap.size + 1) (.slice xa x.many xc) (.int .i64 nr) (.int .i64 gv) (.slice ya (x.pairs x.many (min 4 x.eats.length)).length yc) 31 := by
                rw [← hV]; exact heap_set (heap_set (heap_set (heap_set HR.out 0 _) 1 _) 2 _) 3 _
              rw [hV]
              have hend := made_end HNR.out HGV.out HZ.out HB0.out HI.out HO.out HBW.out hbv
              obtain ⟨z0, z1, z2, z3⟩ := hrv.c4
              clear hV hbv hrv
              exact bodyPost_ret (v := .tuple #[.agg #[.slice xa x.many xc, .int .i64 nr, .int .i64 gv, .slice ya (x.pairs x.many (min 4 x.eats.length)).length yc], u3, u4]) (by simp [results, Try.results8, go_sem, z0, z1, z2, z3]) rfl ⟨_, _, _, rfl, hend.1, hend.2.1, hend.2.2.1, hend.2.2.2⟩
      · have q0 : decide (x.many < x.paints.length) = false := decide_eq_false e
        clear hmy
        gi_wp2_with fail
        clear q0 c0 c1 c2 c3 hk0d
        obtain ⟨w2, rfl⟩ : ∃ w2, w2 = wr := ⟨_, rfl⟩
        gi_loopw [9] (fun i w3 => ∃ (q : Nat) (er : Value), q ≤ min 4 x.eats.length ∧ i = .int .i64 q ∧ w3.ownsRow w2.heap.size 85 2 er (x.pairs x.many q).length ((x.pairs x.many q).flatMap pairRow) ∧ Row4 w3 (w.heap.size + 1) (.slice xa x.many xc) (.int .i64 nr) (.int .i64 gv) er 31 ∧ But (w.heap.size + 1) w2 w3) (fun i _ => 4 - (intOf i).toNat)
        case atStart => exact ⟨0, _, Nat.zero_le _, rfl, ⟨rfl, .inl ⟨rfl, rfl⟩⟩, HI.out.set, But.refl _ _⟩
        case round =>
          obtain ⟨q, er, hq, rfl, ho, hr, hbw⟩ := hrel
          have HO := Lib.hid ho
          have HR := Lib.hid hr
          have HBW := Lib.hid hbw
          obtain ⟨c0, c1, c2, c3⟩ := hbw.c4 (by omega) (HI.out.but.c4 (by omega) HXR.out)
          clear ho hr hbw
          have HPS := Lib.hid (x.pairs_succ x.many q)
          have HPL := Lib.hid (x.pairs_len x.many q)
          by_cases hq4 : q < min 4 x.eats.length
          · have p0 : decide ((q : Int) < (x.eats.length : Int)) = true := decide_eq_true (by omega)
            have p1 : decide ((q : Int) < 4) = true := decide_eq_true (by omega)
            have p2 : decide (q < x.eats.length) = true := decide_eq_true (by omega)
            obtain ⟨eb, eoff, rfl, e0, e1⟩ := HEC.out q (by omega)
            have hbl := lt_of_cell e0
            have hcl : ∀ p u, p.block = eb → w.cell? p = some u → wr.cell? p = some u := fun p u hp hu => HBW.out.cell (by rw [hp]; simp at hbl; omega) (HI.out.but.cell (by rw [hp]; simp at hbl; omega) (HB0.out.cell hu))
            have EC0 := Lib.hid (hcl _ _ rfl e0)
            have EC1 := Lib.hid (hcl _ _ rfl e1)
            have hab := HX.out.eats q
            generalize (x.eats.getD q (0, 0)).1 = A at EC0 hab HPS
            generalize (x.eats.getD q (0, 0)).2 = B at EC1 hab HPS
            have C3X := Lib.hid c3
            have HAB := Lib.hid hab
            have HQL := Lib.hid (show q < x.eats.length by omega)
            have HMN := Lib.hid (show (x.many : Int) ≠ 0 by have := HMY.out; omega)
            have HMA := Lib.hid (show (A : Int).tmod (x.many : Int) = ((A % x.many : Nat) : Int) from rfl)
            have HMB := Lib.hid (show (B : Int).tmod (x.many : Int) = ((B % x.many : Nat) : Int) from rfl)
            have HMW := Lib.hid HMY.out
            have hq5 := hq4
            clear e0 e1 hbl hcl hab hq hq4
            gi_wp2_with fail
            refine region_growF (fun i v W => match i with
              | 0 => v = .pointer (some ⟨w.heap.size, 3, none⟩)
              | 1 => v = .slice (some ⟨eb, eoff, none⟩) x.eats.length ec
              | 2 => v = .int .i64 ((q : Nat) : Int)
              | 3 => v = .pointer (some ⟨eb, eoff + q * 2, none⟩)
              | 4 => v = .pointer (some ⟨eb, eoff + q * 2, none⟩)
              | 5 => v = .int .u8 (A : Int)
              | 6 => v = .int .i64 ((A : Nat) : Int)
              | 7 => v = .pointer (some ⟨w.heap.size + 1, 0, none⟩)
              | 8 => v = .slice xa x.many xc
              | 9 => v = .int .i64 ((x.many : Nat) : Int)
              | 10 => v = .int .i64 ((A % x.many : Nat) : Int)
              | 11 => v = .pointer (some ⟨w.heap.size, 3, none⟩)
              | 12 => v = .slice (some ⟨eb, eoff, none⟩) x.eats.length ec
              | 13 => v = .int .i64 ((q : Nat) : Int)
              | 14 => v = .pointer (some ⟨eb, eoff + q * 2, none⟩)
              | 15 => v = .pointer (some ⟨eb, eoff + q * 2 + 1, none⟩)
              | 16 => v = .int .u8 (B : Int)
              | 17 => v = .int .i64 ((B : Nat) : Int)
              | 18 => v = .pointer (some ⟨w.heap.size + 1, 0, none⟩)
              | 19 => v = .slice xa x.many xc
              | 20 => v = .int .i64 ((x.many : Nat) : Int)
              | 21 => v = .int .i64 ((B % x.many : Nat) : Int)
              | 22 => v = .int .i64 ((A % x.many : Nat) : Int)
              | 23 => v = .int .i64 ((B % x.many : Nat) : Int)
              | _ => True) ?gfa8 ?gframe8 (by kernel_rfl) (by kernel_rfl) (by kernel_rfl) ?gstays8 ?gops8 ?gfin8
            case gframe8 =>
              intro vs
              simp only [putAll, Act.put, List.setIfInBounds_toArray, List.set_cons_succ, List.set_cons_zero, Nat.reduceAdd, Nat.zero_add]
              exact rfl
            case gstays8 =>
              intro i v W W' h hb
              split at h <;> first | exact h | exact h.bel hb | exact fun e => (h e).bel hb | exact ⟨h.1.bel hb, h.2⟩
            case gops8 =>
              refine ⟨?_, ?_, ?_, ?_, ?_, ?_, ?_, ?_, ?_, ?_, ?_, ?_, ?_, ?_, ?_, ?_, ?_, ?_, ?_, ?_, ?_, ?_, ?_, ?_, trivial⟩
              · refine growOpF_k ?_; intro vs W hW hd K HK
                clear hd
                gi_wp2_with fail
                refine HK.out _ _ ?_ ?_ ?_
                · kernel_rfl
                · (first | rfl | (show _ = _; simp only [valOf]; congr 1; simp only [wrap64, IntKind.wrap_i64]; omega) | (show _ = _; simp [valOf, wrap64]; omega) | (show _ = _; simp [valOf]) | (show _ = _; simp [valOf, wrap64]))
                · exact Bel.refl _
              · refine growOpF_k ?_; intro vs W hW hd K HK
                have h0 : (vs 0) = .pointer (some ⟨w.heap.size, 3, none⟩) := hd 0 (by decide)
                clear hd
                have c3 := hW.cell C3X.out
                simp only [h0]
                gi_wp2_with fail
                refine HK.out _ _ ?_ ?_ ?_
                · (try simp only [h0]) <;> kernel_rfl
                · (first | rfl | (show _ = _; simp only [valOf]; congr 1; simp only [wrap64, IntKind.wrap_i64]; omega) | (show _ = _; simp [valOf, wrap64]; omega) | (show _ = _; simp [valOf]) | (show _ = _; simp [valOf, wrap64]))
                · exact Bel.refl _
              · refine growOpF_k ?_; intro vs W hW hd K HK
                clear hd
                gi_wp2_with fail
                refine HK.out _ _ ?_ ?_ ?_
                · kernel_rfl
                · (first | rfl | (show _ = _; simp only [valOf]; congr 1; simp only [wrap64, IntKind.wrap_i64]; omega) | (show _ = _; simp [valOf, wrap64]; omega) | (show _ = _; simp [valOf]) | (show _ = _; simp [valOf, wrap64]))
                · exact Bel.refl _
              · refine growOpF_k ?_; intro vs W hW hd K HK
                have h1 : (vs 1) = .slice (some ⟨eb, eoff, none⟩) x.eats.length ec := hd 1 (by decide)
                have h2 : (vs 2) = .int .i64 ((q : Nat) : Int) := hd 2 (by decide)
                clear hd
                have q0 := HQL.out
                simp only [h1, h2]
                gi_wp2_with fail
                refine HK.out _ _ ?_ ?_ ?_
                · (try simp only [h1, h2]) <;> kernel_rfl
                · (first | rfl | (show _ = _; simp only [valOf]; congr 1; simp only [wrap64, IntKind.wrap_i64]; omega) | (show _ = _; simp [valOf, wrap64]; omega) | (show _ = _; simp [valOf]) | (show _ = _; simp [valOf, wrap64]))
                · exact Bel.refl _
              · refine growOpF_k ?_; intro vs W hW hd K HK
                have h3 : (vs 3) = .pointer (some ⟨eb, eoff + q * 2, none⟩) := hd 3 (by decide)
                clear hd
                simp only [h3]
                gi_wp2_with fail
                refine HK.out _ _ ?_ ?_ ?_
                · (try simp only [h3]) <;> kernel_rfl
                · (first | rfl | (show _ = _; simp only [valOf]; congr 1; simp only [wrap64, IntKind.wrap_i64]; omega) | (show _ = _; simp [valOf, wrap64]; omega) | (show _ = _; simp [valOf]) | (show _ = _; simp [valOf, wrap64]))
                · exact Bel.refl _
              · refine growOpF_k ?_; intro vs W hW hd K HK
                have h4 : (vs 4) = .pointer (some ⟨eb, eoff + q * 2, none⟩) := hd 4 (by decide)
                clear hd
                have c3 := hW.cell EC0.out
                simp only [h4]
                gi_wp2_with fail
                refine HK.out _ _ ?_ ?_ ?_
                · (try simp only [h4]) <;> kernel_rfl
                · (first | rfl | (show _ = _; simp only [valOf]; congr 1; simp only [wrap64, IntKind.wrap_i64]; omega) | (show _ = _; simp [valOf, wrap64]; omega) | (show _ = _; simp [valOf]) | (show _ = _; simp [valOf, wrap64]))
                · exact Bel.refl _
              · refine growOpF_k ?_; intro vs W hW hd K HK
                have h5 : (vs 5) = .int .u8 (A : Int) := hd 5 (by decide)
                clear hd
                have q0 := HAB.out
                simp only [h5]
                gi_wp2_with fail
                refine HK.out _ _ ?_ ?_ ?_
                · (try simp only [h5]) <;> kernel_rfl
                · (first | rfl | (show _ = _; simp only [valOf]; congr 1; simp only [wrap64, IntKind.wrap_i64]; omega) | (show _ = _; simp [valOf, wrap64]; omega) | (show _ = _; simp [valOf]) | (show _ = _; simp [valOf, wrap64]))
                · exact Bel.refl _
              · refine growOpF_k ?_; intro vs W hW hd K HK
                clear hd
                gi_wp2_with fail
                refine HK.out _ _ ?_ ?_ ?_
                · kernel_rfl
                · (first | rfl | (show _ = _; simp only [valOf]; congr 1; simp only [wrap64, IntKind.wrap_i64]; omega) | (show _ = _; simp [valOf, wrap64]; omega) | (show _ = _; simp [valOf]) | (show _ = _; simp [valOf, wrap64]))
                · exact Bel.refl _
              · refine growOpF_k ?_; intro vs W hW hd K HK
                have h7 : (vs 7) = .pointer (some ⟨w.heap.size + 1, 0, none⟩) := hd 7 (by decide)
                clear hd
                have c3 := (HR.out.bel hW).c4.1
                simp only [h7]
                gi_wp2_with fail
                refine HK.out _ _ ?_ ?_ ?_
                · (try simp only [h7]) <;> kernel_rfl
                · (first | rfl | (show _ = _; simp only [valOf]; congr 1; simp only [wrap64, IntKind.wrap_i64]; omega) | (show _ = _; simp [valOf, wrap64]; omega) | (show _ = _; simp [valOf]) | (show _ = _; simp [valOf, wrap64]))
                · exact Bel.refl _
              · refine growOpF_k ?_; intro vs W hW hd K HK
                have h8 : (vs 8) = .slice xa x.many xc := hd 8 (by decide)
                clear hd
                simp only [h8]
                gi_wp2_with fail
                refine HK.out _ _ ?_ ?_ ?_
                · (try simp only [h8]) <;> kernel_rfl
                · (first | rfl | (show _ = _; simp only [valOf]; congr 1; simp only [wrap64, IntKind.wrap_i64]; omega) | (show _ = _; simp [valOf, wrap64]; omega) | (show _ = _; simp [valOf]) | (show _ = _; simp [valOf, wrap64]))
                · exact Bel.refl _
              · refine growOpF_k ?_; intro vs W hW hd K HK
                have h6 : (vs 6) = .int .i64 ((A : Nat) : Int) := hd 6 (by decide)
                have h9 : (vs 9) = .int .i64 ((x.many : Nat) : Int) := hd 9 (by decide)
                clear hd
                have q0 := HAB.out
                have q1 := HMN.out
                have q2 := HMA.out
                have q3 := HMB.out
                have q4 := HMW.out
                simp only [h6, h9]
                gi_wp2_with fail
                refine HK.out _ _ ?_ ?_ ?_
                · (try simp only [h6, h9]) <;> kernel_rfl
                · (first | rfl | (show _ = _; simp only [valOf]; congr 1; simp only [wrap64, IntKind.wrap_i64]; omega) | (show _ = _; simp [valOf, wrap64]; omega) | (show _ = _; simp [valOf]) | (show _ = _; simp [valOf, wrap64]))
                · exact Bel.refl _
              · refine growOpF_k ?_; intro vs W hW hd K HK
                clear hd
                gi_wp2_with fail
                refine HK.out _ _ ?_ ?_ ?_
                · kernel_rfl
                · (first | rfl | (show _ = _; simp only [valOf]; congr 1; simp only [wrap64, IntKind.wrap_i64]; omega) | (show _ = _; simp [valOf, wrap64]; omega) | (show _ = _; simp [valOf]) | (show _ = _; simp [valOf, wrap64]))
                · exact Bel.refl _
              · refine growOpF_k ?_; intro vs W hW hd K HK
                have h11 : (vs 11) = .pointer (some ⟨w.heap.size, 3, none⟩) := hd 11 (by decide)
                clear hd
                have c3 := hW.cell C3X.out
                simp only [h11]
                gi_wp2_with fail
                refine HK.out _ _ ?_ ?_ ?_
                · (try simp only [h11]) <;> kernel_rfl
                · (first | rfl | (show _ = _; simp only [valOf]; congr 1; simp only [wrap64, IntKind.wrap_i64]; omega) | (show _ = _; simp [valOf, wrap64]; omega) | (show _ = _; simp [valOf]) | (show _ = _; simp [valOf, wrap64]))
                · exact Bel.refl _
              · refine growOpF_k ?_; intro vs W hW hd K HK
                clear hd
                gi_wp2_with fail
                refine HK.out _ _ ?_ ?_ ?_
                · kernel_rfl
                · (first | rfl | (show _ = _; simp only [valOf]; congr 1; simp only [wrap64, IntKind.wrap_i64]; omega) | (show _ = _; simp [valOf, wrap64]; omega) | (show _ = _; simp [valOf]) | (show _ = _; simp [valOf, wrap64]))
                · exact Bel.refl _
              · refine growOpF_k ?_; intro vs W hW hd K HK
                have h12 : (vs 12) = .slice (some ⟨eb, eoff, none⟩) x.eats.length ec := hd 12 (by decide)
                have h13 : (vs 13) = .int .i64 ((q : Nat) : Int) := hd 13 (by decide)
                clear hd
                have q0 := HQL.out
                simp only [h12, h13]
                gi_wp2_with fail
                refine HK.out _ _ ?_ ?_ ?_
                · (try simp only [h12, h13]) <;> kernel_rfl
                · (first | rfl | (show _ = _; simp only [valOf]; congr 1; simp only [wrap64, IntKind.wrap_i64]; omega) | (show _ = _; simp [valOf, wrap64]; omega) | (show _ = _; simp [valOf]) | (show _ = _; simp [valOf, wrap64]))
                · exact Bel.refl _
              · refine growOpF_k ?_; intro vs W hW hd K HK
                have h14 : (vs 14) = .pointer (some ⟨eb, eoff + q * 2, none⟩) := hd 14 (by decide)
                clear hd
                simp only [h14]
                gi_wp2_with fail
                refine HK.out _ _ ?_ ?_ ?_
                · (try simp only [h14]) <;> kernel_rfl
                · (first | rfl | (show _ = _; simp only [valOf]; congr 1; simp only [wrap64, IntKind.wrap_i64]; omega) | (show _ = _; simp [valOf, wrap64]; omega) | (show _ = _; simp [valOf]) | (show _ = _; simp [valOf, wrap64]))
                · exact Bel.refl _
              · refine growOpF_k ?_; intro vs W hW hd K HK
                have h15 : (vs 15) = .pointer (some ⟨eb, eoff + q * 2 + 1, none⟩) := hd 15 (by decide)
                clear hd
                have c3 := hW.cell EC1.out
                simp only [h15]
                gi_wp2_with fail
                refine HK.out _ _ ?_ ?_ ?_
                · (try simp only [h15]) <;> kernel_rfl
                · (first | rfl | (show _ = _; simp only [valOf]; congr 1; simp only [wrap64, IntKind.wrap_i64]; omega) | (show _ = _; simp [valOf, wrap64]; omega) | (show _ = _; simp [valOf]) | (show _ = _; simp [valOf, wrap64]))
                · exact Bel.refl _
              · refine growOpF_k ?_; intro vs W hW hd K HK
                have h16 : (vs 16) = .int .u8 (B : Int) := hd 16 (by decide)
                clear hd
                have q0 := HAB.out
                simp only [h16]
                gi_wp2_with fail
                refine HK.out _ _ ?_ ?_ ?_
                · (try simp only [h16]) <;> kernel_rfl
                · (first | rfl | (show _ = _; simp only [valOf]; congr 1; simp only [wrap64, IntKind.wrap_i64]; omega) | (show _ = _; simp [valOf, wrap64]; omega) | (show _ = _; simp [valOf]) | (show _ = _; simp [valOf, wrap64]))
                · exact Bel.refl _
              · refine growOpF_k ?_; intro vs W hW hd K HK
                clear hd
                gi_wp2_with fail
                refine HK.out _ _ ?_ ?_ ?_
                · kernel_rfl
                · (first | rfl | (show _ = _; simp only [valOf]; congr 1; simp only [wrap64, IntKind.wrap_i64]; omega) | (show _ = _; simp [valOf, wrap64]; omega) | (show _ = _; simp [valOf]) | (show _ = _; simp [valOf, wrap64]))
                · exact Bel.refl _
              · refine growOpF_k ?_; intro vs W hW hd K HK
                have h18 : (vs 18) = .pointer (some ⟨w.heap.size + 1, 0, none⟩) := hd 18 (by decide)
                clear hd
                have c3 := (HR.out.bel hW).c4.1
                simp only [h18]
                gi_wp2_with fail
                refine HK.out _ _ ?_ ?_ ?_
                · (try simp only [h18]) <;> kernel_rfl
                · (first | rfl | (show _ = _; simp only [valOf]; congr 1; simp only [wrap64, IntKind.wrap_i64]; omega) | (show _ = _; simp [valOf, wrap64]; omega) | (show _ = _; simp [valOf]) | (show _ = _; simp [valOf, wrap64]))
                · exact Bel.refl _
              · refine growOpF_k ?_; intro vs W hW hd K HK
                have h19 : (vs 19) = .slice xa x.many xc := hd 19 (by decide)
                clear hd
                simp only [h19]
                gi_wp2_with fail
                refine HK.out _ _ ?_ ?_ ?_
                · (try simp only [h19]) <;> kernel_rfl
                · (first | rfl | (show _ = _; simp only [valOf]; congr 1; simp only [wrap64, IntKind.wrap_i64]; omega) | (show _ = _; simp [valOf, wrap64]; omega) | (show _ = _; simp [valOf]) | (show _ = _; simp [valOf, wrap64]))
                · exact Bel.refl _
              · refine growOpF_k ?_; intro vs W hW hd K HK
                have h17 : (vs 17) = .int .i64 ((B : Nat) : Int) := hd 17 (by decide)
                have h20 : (vs 20) = .int .i64 ((x.many : Nat) : Int) := hd 20 (by decide)
                clear hd
                have q0 := HAB.out
                have q1 := HMN.out
                have q2 := HMA.out
                have q3 := HMB.out
                have q4 := HMW.out
                simp only [h17, h20]
                gi_wp2_with fail
                refine HK.out _ _ ?_ ?_ ?_
                · (try simp only [h17, h20]) <;> kernel_rfl
                · (first | rfl | (show _ = _; simp only [valOf]; congr 1; simp only [wrap64, IntKind.wrap_i64]; omega) | (show _ = _; simp [valOf, wrap64]; omega) | (show _ = _; simp [valOf]) | (show _ = _; simp [valOf, wrap64]))
                · exact Bel.refl _
              · refine growOpF_k ?_; intro vs W hW hd K HK
                have h10 : (vs 10) = .int .i64 ((A % x.many : Nat) : Int) := hd 10 (by decide)
                clear hd
                simp only [h10]
                gi_wp2_with fail
                refine HK.out _ _ ?_ ?_ ?_
                · (try simp only [h10]) <;> kernel_rfl
                · (first | rfl | (show _ = _; simp only [valOf]; congr 1; simp only [wrap64, IntKind.wrap_i64]; omega) | (show _ = _; simp [valOf, wrap64]; omega) | (show _ = _; simp [valOf]) | (show _ = _; simp [valOf, wrap64]))
                · exact Bel.refl _
              · refine growOpF_k ?_; intro vs W hW hd K HK
                have h21 : (vs 21) = .int .i64 ((B % x.many : Nat) : Int) := hd 21 (by decide)
                clear hd
                simp only [h21]
                gi_wp2_with fail
                refine HK.out _ _ ?_ ?_ ?_
                · (try simp only [h21]) <;> kernel_rfl
                · (first | rfl | (show _ = _; simp only [valOf]; congr 1; simp only [wrap64, IntKind.wrap_i64]; omega) | (show _ = _; simp [valOf, wrap64]; omega) | (show _ = _; simp [valOf]) | (show _ = _; simp [valOf, wrap64]))
                · exact Bel.refl _
            case gfin8 =>
              intro vs W hW hall
              have g22 : vs 22 = .int .i64 ((A % x.many : Nat) : Int) := hall 22 (by decide)
              have g23 : vs 23 = .int .i64 ((B % x.many : Nat) : Int) := hall 23 (by decide)
              clear hall
              simp only [g22, g23]
              have HO2 := Lib.hid (ownsRow_bel HO.out hW)
              have HR2 := Lib.hid (HR.out.bel hW)
              have HBW2 := Lib.hid (HBW.out.trans (hW.but _))
              clear hW g22 g23 c0 c1 c2 c3
              have hsz := HBW2.out.size
              have hmn := HI.out.but.size
              have hzz := HZ.out
              have hpl := HPL.out
              generalize A % x.many = a at *
              generalize B % x.many = b at *
              generalize hPQ : x.pairs x.many q = PQ at *
              by_cases hne : a = b
              · subst hne
                clear hsz hmn hzz hpl
                gi_wp2_with fail
                go_roundw
                case rel =>
                  refine ⟨q + 1, er, by omega, by go_num, ?_, HR2.out, HBW2.out⟩
                  have e : x.pairs x.many (q + 1) = PQ := by rw [HPS.out]; simp
                  rw [e]; exact HO2.out
                case measure => simp [intOf]; omega
              · have hne2 : ¬ (a : Int) = (b : Int) := by omega
                have c3 := HR2.out.c4.2.2.2
                have hm1 : PQ.length + 1 ≤ maxLen := by unfold maxLen; omega
                have hm2 : (PQ.length + 1) * 16 ≤ 140737488355328 := by omega
                have hm3 : w2.heap.size ≤ (W.alloc (.cells #[.int .i64 (a : Int), .int .i64 (b : Int)] 85)).heap.size := by simp; omega
                have hm4 : w.heap.size + 1 < w2.heap.size := by omega
                clear hsz hmn hzz hpl
                gi_wp2_with (gi_at_builtin; refine wpListIn_append_own _ rfl _ _ 29 rfl w2.heap.size 85 i2 (.agg #[.int .i64 0, .int .i64 0]) 2 16 Try.underlying29 he hx0 hx1 hx2 rfl (by decide) _ _ _ rfl (ownsRow_bel HO2.out ((Bel.refl _).alloc (.cells #[.int .i64 (a : Int), .int .i64 (b : Int)] 85))) ⟨W.heap.size, 0, none⟩ 1 1 [.int .i64 (a : Int), .int .i64 (b : Int)] rfl rfl (NewRow.new W [.int .i64 (a : Int), .int .i64 (b : Int)] 85) (by simp [Value.oneCell']) hm1 hm2 hm3 ?_; intro v' w4 ho1 hg1 _; obtain ⟨ya, yc, rfl⟩ := own_sln ho1; have HO4 := Lib.hid ho1; have HR4 := Lib.hid ((HR2.out.bel ((Bel.refl _).alloc _)).grown hg1 (fun e => by have := (HO2.out.lt _ e.symm).1; omega)); have HB4 := Lib.hid ((HBW2.out.trans (((Bel.refl _).alloc _).but _)).grown hg1 (fun k hk => (HO2.out.lt k hk).1)); have s0 := HR4.out.c4.2.2.2; have s1 := HR4.out.fro 3; clear ho1 hg1 hm3 c3)
                go_roundw
                case rel =>
                  refine ⟨q + 1, _, by omega, by go_num, ?_, heap_set HR4.out 3 _, HB4.out.trans (But.set _ _ _ _)⟩
                  have e : x.pairs x.many (q + 1) = PQ ++ [(a, b)] := by rw [HPS.out, if_neg hne]
                  rw [e]
                  have h := ownsRow_but HO4.out (But.set (w.heap.size + 1) 3 w4 (.slice ya (PQ.length + 1) yc)) hm4
                  simpa [pairRow] using h
                case measure => simp [intOf]; omega
          · have hqe : q = min 4 x.eats.length := by omega
            obtain ⟨ya, yc, rfl⟩ := own_sln HO.out
            obtain ⟨d0, d1, d2, d3⟩ := HR.out.c4
            have y0 := HR.out.fro 0
            have y1 := HR.out.fro 1
            have y2 := HR.out.fro 2
            have y3 := HR.out.fro 3
            by_cases e2 : q < x.eats.length
            · have p0 : decide (q < x.eats.length) = true := decide_eq_true e2
              have p1 : ¬ (q : Int) < 4 := by omega
              subst hqe
              clear hq hq4
              gi_wp2_with fail
              obtain ⟨V, hV⟩ : ∃ V, (((wr.setCell ⟨w.heap.size + 1, 0, none⟩ (.slice xa x.many xc)).setCell ⟨w.heap.size + 1, 1, none⟩ (.int .i64 nr)).setCell ⟨w.heap.size + 1, 2, none⟩ (.int .i64 gv)).setCell ⟨w.heap.size + 1, 3, none⟩ (.slice ya (x.pairs x.many (min 4 x.eats.length)).length yc) = V := ⟨_, rfl⟩
              have hbv : But (w.heap.size + 1) wr V := by rw [← hV]; exact ((But.set _ _ _ _).trans (But.set _ _ _ _)).trans ((But.set _ _ _ _).trans (But.set _ _ _ _))
              have hrv : Row4 V (w.heap.size + 1) (.slice xa x.many xc) (.int .i64 nr) (.int .i64 gv) (.slice ya (x.pairs x.many (min 4 x.eats.length)).length yc) 31 := by
                rw [← hV]; exact heap_set (heap_set (heap_set (heap_set HR.out 0 _) 1 _) 2 _) 3 _
              rw [hV]
              have hend := made_end HNR.out HGV.out HZ.out HB0.out HI.out HO.out HBW.out hbv
              obtain ⟨z0, z1, z2, z3⟩ := hrv.c4
              clear hV hbv hrv
              exact bodyPost_ret (v := .tuple #[.agg #[.slice xa x.many xc, .int .i64 nr, .int .i64 gv, .slice ya (x.pairs x.many (min 4 x.eats.length)).length yc], u3, u4]) (by simp [results, Try.results8, go_sem, z0, z1, z2, z3]) rfl ⟨_, _, _, rfl, hend.1, hend.2.1, hend.2.2.1, hend.2.2.2⟩
            · have p0 : decide (q < x.eats.length) = false := decide_eq_false e2
              subst hqe
              clear hq hq4
              gi_wp2_with fail
              obtain ⟨V, hV⟩ : ∃ V, (((wr.setCell ⟨w.heap.size + 1, 0, none⟩ (.slice xa x.many xc)).setCell ⟨w.heap.size + 1, 1, none⟩ (.int .i64 nr)).setCell ⟨w.heap.size + 1, 2, none⟩ (.int .i64 gv)).setCell ⟨w.heap.size + 1, 3, none⟩ (.slice ya (x.pairs x.many (min 4 x.eats.length)).length yc) = V := ⟨_, rfl⟩
              have hbv : But (w.heap.size + 1) wr V := by rw [← hV]; exact ((But.set _ _ _ _).trans (But.set _ _ _ _)).trans ((But.set _ _ _ _).trans (But.set _ _ _ _))
              have hrv : Row4 V (w.heap.size + 1) (.slice xa x.many xc) (.int .i64 nr) (.int .i64 gv) (.slice ya (x.pairs x.many (min 4 x.eats.length)).length yc) 31 := by
                rw [← hV]; exact heap_set (heap_set (heap_set (heap_set HR.out 0 _) 1 _) 2 _) 3 _
              rw [hV]
              have hend := made_end HNR.out HGV.out HZ.out HB0.out HI.out HO.out HBW.out hbv
              obtain ⟨z0, z1, z2, z3⟩ := hrv.c4
              clear hV hbv hrv
              exact bodyPost_ret (v := .tuple #[.agg #[.slice xa x.many xc, .int .i64 nr, .int .i64 gv, .slice ya (x.pairs x.many (min 4 x.eats.length)).length yc], u3, u4]) (by simp [results, Try.results8, go_sem, z0, z1, z2, z3]) rfl ⟨_, _, _, rfl, hend.1, hend.2.1, hend.2.2.1, hend.2.2.2⟩

end Go.Proofs.Ytpkadofgmhninaa
