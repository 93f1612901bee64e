/- At which heats the furnace may be, round by round. A function that ranges over functions again and again leaves with many marks. The parts of a list are yielded one after another. -/
import Derived.Test.YtpkadofgmhninaaSurely
namespace Go.Proofs.Ytpkadofgmhninaa
open Go.RowKit

namespace CSet
def nextOf (s : CSet) (m : Int) (r : List Nat) : Int := r.foldl (fun m c => min m ((s.paint c).hl - 1)) m
def lowOf (s : CSet) (r : List Nat) : Int := r.foldl (fun m c => max m (s.paint c).hh) 0
def highAt (s : CSet) (p : Rounds) : Nat → Int
  | 0 => 1000
  | k + 1 => s.nextOf (s.highAt p k) (p.getD k [])
def lowAt (s : CSet) (p : Rounds) (k : Nat) : Int := s.lowOf (p.getD k [])
end CSet

theorem nextOf_snoc (s : CSet) (m : Int) (r : List Nat) (j : Nat) (hj : j < r.length) : s.nextOf m (r.take (j + 1)) = min (s.nextOf m (r.take j)) ((s.paint (r.getD j 0)).hl - 1) := by
  unfold CSet.nextOf
  rw [List.take_succ_eq_append_getElem hj, List.foldl_append, getD_lt _ _ _ hj]; rfl
theorem lowOf_snoc (s : CSet) (r : List Nat) (j : Nat) (hj : j < r.length) : s.lowOf (r.take (j + 1)) = max (s.lowOf (r.take j)) (s.paint (r.getD j 0)).hh := by
  unfold CSet.lowOf
  rw [List.take_succ_eq_append_getElem hj, List.foldl_append, getD_lt _ _ _ hj]; rfl
theorem nextOf_in (s : CSet) (hs : s.Ok) {n : Nat} (hn : n = s.paints.length) (r : List Nat) (h : ∀ c, c ∈ r → c < n) (m : Int) (h0 : -1 ≤ m) (h1 : m ≤ 1000) : -1 ≤ s.nextOf m r ∧ s.nextOf m r ≤ 1000 := by
  induction r generalizing m with
  | nil => exact ⟨h0, h1⟩
  | cons c r ih =>
    have := hs.paints c (by have := h c (by simp); omega)
    exact ih (fun x hx => h x (by simp [hx])) (min m ((s.paint c).hl - 1)) (by omega) (by omega)
theorem lowOf_in (s : CSet) (hs : s.Ok) {n : Nat} (hn : n = s.paints.length) (r : List Nat) (h : ∀ c, c ∈ r → c < n) : 0 ≤ s.lowOf r ∧ s.lowOf r ≤ 1000 := by
  unfold CSet.lowOf
  have H : ∀ (r : List Nat) (m : Int), (∀ c, c ∈ r → c < n) → 0 ≤ m → m ≤ 1000 → 0 ≤ r.foldl (fun m c => max m (s.paint c).hh) m ∧ r.foldl (fun m c => max m (s.paint c).hh) m ≤ 1000 := by
    intro r
    induction r with
    | nil => exact fun m _ h0 h1 => ⟨h0, h1⟩
    | cons c r ih =>
      intro m h h0 h1
      have := hs.paints c (by have := h c (by simp); omega)
      exact ih (max m (s.paint c).hh) (fun x hx => h x (by simp [hx])) (by omega) (by omega)
  exact H r 0 h (by omega) (by omega)
theorem highAt_in (s : CSet) (hs : s.Ok) {p : Rounds} (hp : PlanOk s.paints.length p) : ∀ k, -1 ≤ s.highAt p k ∧ s.highAt p k ≤ 1000
  | 0 => by simp [CSet.highAt]
  | k + 1 => by
    have ih := highAt_in s hs hp k
    exact nextOf_in s hs rfl _ (fun c hc => hp.ltD hc) _ ih.1 ih.2

set_option maxRecDepth 100000 in
set_option maxHeartbeats 4000000 in
theorem heats_any (s : CSet) (hs : s.Ok) (pv ev rv : Value) (p : Rounds) (w : World) (hf : Fd w pv ev rv s p) (hp : PlanOk s.paints.length p) :
    Calls Try.prog 33 #[.agg #[pv, .int .i64 s.near, .int .i64 s.give, ev, rv]] w fun e w' => ∃ r, e = .returned r ∧ Spans w' r p.length (s.lowAt p) (s.highAt p) ∧ Bel w w' := by
  obtain ⟨i0, hi0, hz0, hz1, hz2⟩ := info_parts Try.info54
  have hn5 := hs.n5
  have hlen := Nat.le_trans hp.len hn5
  have c5 := C5.new w pv (.int .i64 s.near) (.int .i64 s.give) ev rv 95
  have b0 := (Bel.refl w).alloc (.cells #[pv, .int .i64 s.near, .int .i64 s.give, ev, rv] 95)
  obtain ⟨pa, pc, rfl, hp1, hp2, -, hp3⟩ := hf.paints
  obtain ⟨ra, rc, rfl, hr1, hr2, -, hr3⟩ := hf.rounds
  have hin := highAt_in s hs hp
  have hpp := hs.paints
  have hsn := fun k (hk : k < p.length) => spanCells_succ (s.lowAt p) (s.highAt p) k
  have hlt' : ∀ k, k < p.length → ∀ j, j < (p.getD k []).length → (p.getD k []).getD j 0 < s.paints.length := fun k hk j hj => hp.ltD (i := k) (by rw [getD_lt _ _ _ hj]; exact List.getElem_mem hj)
  have hno : ∀ k, ∀ j, -1 ≤ s.nextOf (s.highAt p k) ((p.getD k []).take j) ∧ s.nextOf (s.highAt p k) ((p.getD k []).take j) ≤ 1000 := fun k j => nextOf_in s hs rfl _ (fun c hc => hp.ltD (i := k) (List.mem_of_mem_take hc)) _ (hin k).1 (hin k).2
  have hlo : ∀ k, ∀ j, 0 ≤ s.lowOf ((p.getD k []).take j) ∧ s.lowOf ((p.getD k []).take j) ≤ 1000 := fun k j => lowOf_in s hs rfl _ (fun c hc => hp.ltD (i := k) (List.mem_of_mem_take hc))
  have h0 : s.highAt p 0 = 1000 := rfl
  have hs1 : ∀ k, s.highAt p (k + 1) = s.nextOf (s.highAt p k) (p.getD k []) := fun _ => rfl
  unfold maxLen at hp2 hr2
  have HR3 := Lib.hid hr3
  have HP3 := Lib.hid hp3
  have HIN := Lib.hid hin
  have HPP := Lib.hid hpp
  have HSN := Lib.hid hsn
  have HLT := Lib.hid hlt'
  have HNO := Lib.hid hno
  have HLO := Lib.hid hlo
  have H0 := Lib.hid h0
  have HS1 := Lib.hid hs1
  have C50 := Lib.hid c5
  have B0 := Lib.hid b0
  have hlen5 : p.length ≤ 5 := hlen
  have hlo0 : ∀ k, s.lowAt p k = s.lowOf (p.getD k []) := fun _ => rfl
  have HLA := Lib.hid hlo0
  clear hf hp hs hr3 hp3 hin hpp hsn hlt' hno hlo h0 hs1 b0 hlo0
  obtain ⟨c0, c1, c2, c3, c4⟩ := c5
  go_enter Try.func33, Try.ntmps33
  go_wp2_with fail
  generalize hW1 : w.alloc (.cells #[.slice pa s.paints.length pc, .int .i64 s.near, .int .i64 s.give, ev, .slice ra (List.length p) rc] 95) = W1 at *
  have HW1 := Lib.hid hW1
  clear hW1
  go_loopw [3, 4, 14] (fun r h i wr => ∃ k : Nat, k ≤ p.length ∧ i = .int .i64 k ∧ h = .int .i64 (s.highAt p k) ∧ wr.ownsRow W1.heap.size 54 2 r k (spanCells (s.lowAt p) (s.highAt p) k) ∧ Bel W1 wr) (fun _ _ i _ => p.length - (intOf i).toNat)
  case atStart => exact ⟨0, Nat.zero_le _, rfl, by rw [H0.out], ⟨rfl, .inl ⟨rfl, rfl⟩⟩, Bel.refl _⟩
  case round =>
    obtain ⟨k, hk, rfl, rfl, ho, hb⟩ := hrel
    by_cases hlt : k < p.length
    · obtain ⟨b, off, rv, rfl, hcell, hcols⟩ := HR3.out k hlt
      have hcell' := (B0.out.trans hb).cell hcell
      have HCO := Lib.hid (hcols.bel (B0.out.trans hb))
      obtain ⟨qa, qc, rfl, hi1, hi2, -, hi3⟩ := hcols
      simp only [List.length_map] at hi1 hi3 hcell' ⊢
      have hi3' : ∀ j, j < (p.getD k []).length → ∃ b off, qa = some ⟨b, off, none⟩ ∧ wr.cell? ⟨b, off + j, none⟩ = some (.int .i64 ((p.getD k []).getD j 0 : Int)) := fun j hj => by
        obtain ⟨b, off, e, q⟩ := hi3 j hj
        rw [getD_map _ _ hj] at q
        exact ⟨b, off, e, (B0.out.trans hb).cell q⟩
      have HCO' := Lib.hid hi3'
      clear hi3 hi3'
      unfold maxLen at hi2
      have HO := Lib.hid ho
      have HB := Lib.hid hb
      clear ho hb
      have HS := Lib.hid (HSN.out k hlt)
      have hK := HIN.out k
      have HLT' := Lib.hid (HLT.out k hlt)
      have HNO' := Lib.hid (HNO.out k)
      have HLO' := Lib.hid (HLO.out k)
      have HK1 := Lib.hid (HS1.out k)
      have HK2 := Lib.hid (HLA.out k)
      generalize s.highAt p k = H at *
      generalize p.getD k [] = round at *
      obtain ⟨f0, f1, f2, f3, f4⟩ := C50.out.bel HB.out
      go_wp2_with fail
      obtain ⟨wo, hwo⟩ : ∃ wo : World, wo = wr := ⟨_, rfl⟩
      have HWO := Lib.hid hwo
      clear hwo
      go_loopw [7, 8, 21] (fun lo nx i w2 => ∃ j : Nat, j ≤ round.length ∧ i = .int .i64 j ∧ lo = .int .i64 (s.lowOf (round.take j)) ∧ nx = .int .i64 (s.nextOf H (round.take j)) ∧ w2 = wr) (fun _ _ i _ => round.length - (intOf i).toNat)
      case atStart => exact ⟨0, Nat.zero_le _, rfl, by simp [CSet.lowOf], by simp [CSet.nextOf], rfl⟩
      case round =>
        obtain ⟨j, hj, rfl, rfl, rfl, rfl⟩ := hrel
        by_cases hjl : j < round.length
        · obtain ⟨ba, offa, rfl, qcell⟩ := HCO'.out j hjl
          have hx := HLT'.out j hjl
          obtain ⟨pb, poff, rfl, q0, q1, -, -, -, -⟩ := HP3.out (round.getD j 0) hx
          have d0 := (B0.out.trans HB.out).cell q0
          have d1 := (B0.out.trans HB.out).cell q1
          have hpx := HPP.out (round.getD j 0) hx
          have hl1 := HLO'.out j
          have hn1 := HNO'.out j
          have HL2 := Lib.hid (lowOf_snoc s round j hjl)
          have HN2 := Lib.hid (nextOf_snoc s H round j hjl)
          unfold CSet.paint at hpx HL2 HN2
          clear q0 q1
          generalize round.getD j 0 = x at *
          generalize s.paints.getD x ⟨0, 0, 0, 0, 0, 0⟩ = P at *
          generalize s.lowOf (round.take j) = L0 at *
          generalize s.nextOf H (round.take j) = N0 at *
          go_wp2_with fail
          exact ⟨⟨j + 1, by omega, by go_num, by rw [HL2.out], by rw [HN2.out], trivial⟩, by simp [intOf]; omega⟩
        · obtain rfl : j = round.length := by omega
          rw [List.take_length]
          have hl1 := HLO'.out round.length
          rw [List.take_length] at hl1
          have HS' := HS.out
          rw [HK2.out] at HS'
          generalize s.lowOf round = L0 at *
          have hm1 : k + 1 ≤ maxLen := by unfold maxLen; omega
          have hm2 : (k + 1) * 16 ≤ 140737488355328 := by omega
          have hm3 : W1.heap.size ≤ (wr.alloc (.cells #[.int .i64 L0, .int .i64 H] 54)).heap.size := by have := HB.out.size; simp; omega
          have HS2 := Lib.hid HS'
          clear HS' HCO' f0 f1 f2 f3 f4
          go_wp2_with (at_builtin; refine wpList_append_own _ rfl _ _ 42 rfl W1.heap.size 54 i0 (.agg #[.int .i64 0, .int .i64 0]) 2 16 Try.underlying42 hi0 hz0 hz1 hz2 rfl (by decide) _ _ _ rfl (HO.out.alloc _) ⟨wr.heap.size, 0, none⟩ 1 1 [.int .i64 L0, .int .i64 H] rfl rfl (two_new _ _ _ _) (by simp [Value.oneCell']) hm1 hm2 hm3 ?_; intro v' w3 hown2 hgrow _; have HO2 := Lib.hid hown2; have HB3 := Lib.hid ((HB.out.alloc _).grown hgrow (fun k hk => (HO.out.lt k hk).1)); clear hown2 hgrow)
          go_roundw
          case rel => exact ⟨k + 1, by omega, by go_num, by rw [HK1.out], by rw [HS2.out]; exact HO2.out, HB3.out⟩
          case measure => simp [intOf]; omega
    · obtain rfl : k = p.length := by omega
      have HO := Lib.hid ho
      have HB := Lib.hid hb
      clear ho hb hlt
      go_wp2
      go_ret
      exact ⟨_, rfl, own_spans HO.out, B0.out.trans HB.out⟩

end Go.Proofs.Ytpkadofgmhninaa
namespace Go.Proofs.Ytpkadofgmhninaa
open Go.RowKit

def mark (d : Nat) : Deferred := { target := .collected d, args := #[] }
def Marks (n : Nat) (ds : List Nat) (w : World) : Prop := ds.Nodup ∧ ∀ d, d ∈ ds → n ≤ d ∧ w.heap[d]? = some (.deferred (some []))

theorem leaves_marks {F : Fence} {m : Nat} {fn : Func} {tmps : Array Value} {R : Ending → World → Prop} (n : Nat) : ∀ (ds : List Nat) (w : World), Marks n ds w →
    (∀ W, Quiet n w W → LeavesIn F m Try.prog fn tmps R [] .returning W) → LeavesInM F m Try.prog fn tmps R (ds.map mark) .returning w
  | [], w, _, h => h w (Quiet.refl _ _)
  | d :: ds, w, hm, h => by
    obtain ⟨hn, hd⟩ := hm
    obtain ⟨h1, h2⟩ := hd d (by simp)
    have hnd := List.nodup_cons.1 hn
    refine ⟨by simp, .inl ⟨d, _, rfl, run_takeDeferred h2, ?_⟩⟩
    have hq : Quiet n w (w.putObj d (.deferred none)) := Quiet.putObj _ h2 rfl h1
    refine leaves_marks n ds _ ⟨hnd.2, fun e he => ?_⟩ (fun W hW => h W (hq.trans hW))
    obtain ⟨h3, h4⟩ := hd e (by simp [he])
    refine ⟨h3, ?_⟩
    rw [World.putObj_heap_other (by intro e'; subst e'; exact hnd.1 he)]
    exact h4
theorem leaves_out {F : Fence} {m : Nat} {fn : Func} {tmps : Array Value} {R : Ending → World → Prop} {w : World} (hr : (results fn tmps).run Try.prog w = .ok (.tuple #[]) w) (h : R (.returned (.tuple #[])) w) :
    LeavesIn F m Try.prog fn tmps R [] .returning w := by
  exact ⟨.tuple #[], hr, h⟩
theorem Marks.keep {n : Nat} {ds : List Nat} {A B : World} (h : Marks n ds A) (k : KeepFrom n A B) : Marks n ds B :=
  ⟨h.1, fun d hd => ⟨(h.2 d hd).1, (k.2 d (h.2 d hd).1 (Array.getElem?_eq_some_iff.1 (h.2 d hd).2).1).trans (h.2 d hd).2⟩⟩
theorem Marks.quiet {n m : Nat} {ds : List Nat} {A B : World} (h : Marks n ds A) (k : Quiet m A B) (hm : A.heap.size ≤ m) : Marks n ds B :=
  ⟨h.1, fun d hd => ⟨(h.2 d hd).1, k.same _ _ (h.2 d hd).2 (.inl (by have := (Array.getElem?_eq_some_iff.1 (h.2 d hd).2).1; omega))⟩⟩
theorem Marks.bel {n : Nat} {ds : List Nat} {A B : World} (h : Marks n ds A) (k : Bel A B) : Marks n ds B := h.keep (k.keep n)
theorem Marks.cons {n d : Nat} {ds : List Nat} {w : World} (h : Marks n ds w) (hd : n ≤ d) (hn : d ∉ ds) (hw : w.heap[d]? = some (.deferred (some []))) : Marks n (d :: ds) w :=
  ⟨List.nodup_cons.2 ⟨hn, h.1⟩, fun e he => by
    rcases List.mem_cons.1 he with rfl | he
    · exact ⟨hd, hw⟩
    · exact h.2 e he⟩
theorem Marks.lt {n : Nat} {ds : List Nat} {w : World} (h : Marks n ds w) {d : Nat} (hd : d ∈ ds) : d < w.heap.size := (Array.getElem?_eq_some_iff.1 (h.2 d hd).2).1

end Go.Proofs.Ytpkadofgmhninaa
namespace Go.Proofs.Ytpkadofgmhninaa
open Go.RowKit
attribute [local go_sem] Oper.semAt_some

def FromB (n : Nat) (v : Value) : Prop := ∃ b off k c, v = .slice (some ⟨b, off, none⟩) k c ∧ n ≤ b
def EPart (n : Nat) (W : World) (vs : Array Value) (x : List Nat) : Prop := ∃ v, vs = #[v] ∧ Cols W v x ∧ FromB n v
def valsOf (l : List Nat) : List Value := l.map fun (c : Nat) => Value.int .i64 (c : Int)

def partsUpTo (b l : List Nat) (k : Nat) : List (List Nat) := (List.range k).flatMap fun i => (b ++ [l.getD i 0]) :: CSet.parts (b ++ [l.getD i 0]) (l.drop (i + 1))
theorem parts_eq (b : List Nat) : ∀ l, CSet.parts b l = partsUpTo b l l.length
  | [] => rfl
  | x :: xs => by
    have ih := parts_eq b xs
    unfold partsUpTo at *
    rw [List.length_cons, List.range_succ_eq_map, List.flatMap_cons, List.flatMap_map]
    simp only [CSet.parts, List.getD_cons_zero, List.drop_succ_cons, List.drop_zero, List.getD_cons_succ, Nat.succ_eq_add_one]
    rw [ih]; simp
theorem partsUpTo_succ (b l : List Nat) (k : Nat) : partsUpTo b l (k + 1) = partsUpTo b l k ++ ((b ++ [l.getD k 0]) :: CSet.parts (b ++ [l.getD k 0]) (l.drop (k + 1))) := by
  unfold partsUpTo; rw [List.range_succ, List.flatMap_append]; simp
theorem partsUpTo_pre (b l : List Nat) (k : Nat) (hk : k ≤ l.length) : partsUpTo b l k <+: CSet.parts b l := by
  rw [parts_eq]
  unfold partsUpTo
  obtain ⟨d, hd⟩ : ∃ d, l.length = k + d := ⟨l.length - k, by omega⟩
  rw [hd, List.range_add, List.flatMap_append]
  exact List.prefix_append _ _

theorem vals_one (w : World) (x : Value) (t : TypeId) : Vals (w.alloc (.cells #[x] t)) (.slice (some ⟨w.heap.size, 0, none⟩) 1 1) [x] := by
  refine ⟨_, 1, rfl, Nat.le_refl _, by decide, nofun, fun i hi => ⟨w.heap.size, 0, rfl, ?_⟩⟩
  have : i = 0 := by simpa using hi
  subst this
  have h := World.alloc_heap_new w (.cells #[x] t)
  simp only [World.cell?, h]; rfl
theorem rows2_two (w : World) (v1 v2 : Value) (t : TypeId) (xs ys : List Value) (h1 : Vals w v1 xs) (h2 : Vals w v2 ys) : Rows2 (w.alloc (.cells #[v1, v2] t)) (.slice (some ⟨w.heap.size, 0, none⟩) 2 2) [xs, ys] := by
  have hb := (Bel.refl w).alloc (.cells #[v1, v2] t)
  have h := World.alloc_heap_new w (.cells #[v1, v2] t)
  refine ⟨[v1, v2], ⟨_, 2, rfl, Nat.le_refl _, by decide, nofun, fun i hi => ⟨w.heap.size, 0, rfl, ?_⟩⟩, rfl, fun i hi => ?_⟩
  · have : i = 0 ∨ i = 1 := by simp at hi; omega
    simp only [World.cell?, h]
    rcases this with rfl | rfl <;> rfl
  · have : i = 0 ∨ i = 1 := by simp at hi; omega
    rcases this with rfl | rfl
    · exact h1.bel hb
    · exact h2.bel hb
theorem Cols.vals {w : World} {v : Value} {l : List Nat} (h : Cols w v l) : Vals w v (valsOf l) := by
  have := Vals.ints.1 h
  rw [List.map_map] at this
  exact this
theorem Cols.drop {w : World} {a : Option Addr} {n c : Nat} {l : List Nat} (h : Cols w (.slice a n c) l) : n = l.length := by
  obtain ⟨a', c', e, _⟩ := h
  injection e with e1 e2 e3
  rw [e2, List.length_map]

theorem concat_two (w : World) (v1 : Value) (x : Nat) (b : List Nat) (h1 : Cols w v1 b) (hlen : b.length < 1000) :
    Calls Try.prog 46 #[.slice (some ⟨w.heap.size + 1, 0, none⟩) 2 2] ((w.alloc (.cells #[.int .i64 (x : Int)] 3)).alloc (.cells #[v1, .slice (some ⟨w.heap.size, 0, none⟩) 1 1] 32)) fun e w' =>
      ∃ r, e = .returned r ∧ Cols w' r (b ++ [x]) ∧ FromB w.heap.size r ∧ Bel w w' := by
  have hb := (Bel.refl w).alloc (.cells #[.int .i64 (x : Int)] 3)
  have h2 := rows2_two (w.alloc (.cells #[.int .i64 (x : Int)] 3)) v1 (.slice (some ⟨w.heap.size, 0, none⟩) 1 1) 32 (valsOf b) [.int .i64 (x : Int)] (h1.bel hb).vals (vals_one _ _ _)
  rw [World.size_alloc] at h2
  have e1 : ([valsOf b, [.int .i64 (x : Int)]] : List (List Value)).flatten = (b ++ [x]).map fun (c : Nat) => Value.int .i64 (c : Int) := by simp [valsOf]
  have := concat_int _ _ _ h2 (by
    intro xs hxs u hu
    simp only [List.mem_cons, List.not_mem_nil, or_false] at hxs
    rcases hxs with rfl | rfl
    · obtain ⟨c, _, rfl⟩ := List.mem_map.1 hu; rfl
    · simp at hu; subst hu; rfl) (by rw [e1]; simp; omega)
  refine this.mono ?_
  rintro e w' ⟨r, rfl, ho, hbw⟩
  rw [e1] at ho
  have ho' := ho
  rw [List.length_map] at ho
  refine ⟨r, rfl, own_cols ho, ?_, (hb.alloc _).trans hbw⟩
  obtain ⟨_, ⟨_, h0⟩ | ⟨g, cap, cur, rfl, hg, _⟩⟩ := ho'
  · simp at h0
  · exact ⟨g, 0, _, cap, rfl, by simp at hg; omega⟩

theorem parts_any (a1 : Option Addr) (n1 c1 : Nat) (a2 : Option Addr) (n2 c2 : Nat) (w : World) : Calls Try.prog 71 #[.slice a1 n1 c1, .slice a2 n2 c2] w fun e w' => e = .returned (.func (.func 91) #[] #[.pointer (some ⟨w.heap.size + 1, 0, none⟩), .pointer (some ⟨w.heap.size, 0, none⟩)]) ∧
    (w.alloc (.cells #[.slice a1 n1 c1] 32)).alloc (.cells #[.slice a2 n2 c2] 32) = w' := by
  go_enter Try.func71, Try.ntmps71
  go_wp2
  go_ret
  exact ⟨rfl, rfl⟩

structure PartD (n B1 B2 : Nat) (lv bv : Value) (l b : List Nat) (W : World) : Prop where
  size : n ≤ W.heap.size
  boxl : Boxed W B1 32 lv
  boxb : Boxed W B2 32 bv
  list : Cols W lv l
  begun : Cols W bv b
theorem Cols.quiet {n : Nat} {A B : World} (h : Quiet n A B) {v : Value} {l : List Nat} (hx : Cols A v l) : Cols B v l := Quiet.ints h hx
theorem PartD.quiet {n B1 B2 : Nat} {lv bv : Value} {l b : List Nat} {A B : World} {m : Nat} (h : PartD n B1 B2 lv bv l b A) (q : Quiet m A B) : PartD n B1 B2 lv bv l b B :=
  ⟨Nat.le_trans h.size q.size, q.boxed h.boxl, q.boxed h.boxb, h.list.quiet q, h.begun.quiet q⟩
theorem PartD.bel {n B1 B2 : Nat} {lv bv : Value} {l b : List Nat} {A B : World} (h : PartD n B1 B2 lv bv l b A) (q : Bel A B) : PartD n B1 B2 lv bv l b B := h.quiet (q.quiet 0)
theorem Cols.keep {n : Nat} {A B : World} {b off k c : Nat} {l : List Nat} (hx : Cols A (.slice (some ⟨b, off, none⟩) k c) l) (h : KeepFrom n A B) (hn : n ≤ b) : Cols B (.slice (some ⟨b, off, none⟩) k c) l := by
  obtain ⟨a', c', e, h1, h2, h3, h4⟩ := hx
  refine ⟨a', c', e, h1, h2, h3, fun i hi => ?_⟩
  obtain ⟨b', off', e', q⟩ := h4 i hi
  subst e'
  injection e with e1 e2 e3
  injection e1 with e1
  injection e1 with e5 e6
  subst e5
  exact ⟨_, _, rfl, h.cell hn q⟩
theorem cols_none (w : World) (b off : Nat) (l : List Nat) (k : Nat) (h : l.length ≤ k) : Cols w (.slice (some ⟨b, off, none⟩) (l.length - k) 0) (l.drop k) := by
  refine ⟨some ⟨b, off, none⟩, 0, by rw [List.length_map, List.length_drop], by rw [List.length_map, List.length_drop]; omega, Nat.zero_le _, nofun, fun i hi => ?_⟩
  rw [List.length_map, List.length_drop] at hi
  omega
theorem two_boxes {w w' : World} {x y : Value} {t u : TypeId} (h : (w.alloc (.cells #[x] t)).alloc (.cells #[y] u) = w') : Boxed w' (w.heap.size + 1) u y ∧ Boxed w' w.heap.size t x ∧ Bel w w' ∧ w'.heap.size = w.heap.size + 2 := by
  subst h
  have h1 := Boxed.new (w.alloc (.cells #[x] t)) u y
  rw [World.size_alloc] at h1
  exact ⟨h1, (Boxed.new w t x).alloc _, ((Bel.refl w).alloc _).alloc _, by simp⟩
theorem Marks.quiet2 {n m : Nat} {ds : List Nat} {A B : World} (h : Marks n ds A) (k : Quiet m A B) (hm : ∀ d, d ∈ ds → d < m) : Marks n ds B :=
  ⟨h.1, fun d hd => ⟨(h.2 d hd).1, k.same _ _ (h.2 d hd).2 (.inl (hm d hd))⟩⟩
theorem Cols.dropped {w : World} {a : Option Addr} {c : Nat} {l : List Nat} (h : Cols w (.slice a l.length c) l) (k : Nat) (hk : k ≤ l.length) (b off : Nat) (ha : a = some ⟨b, off, none⟩) :
    Cols w (.slice (some ⟨b, off + k, none⟩) (l.length - k) (c - k)) (l.drop k) := by
  subst ha
  obtain ⟨a', c', e, h1, h2, h3, h4⟩ := h
  injection e with e1 e2 e3
  subst e1
  subst e3
  rw [List.length_map] at h1 h4
  refine ⟨some ⟨b, off + k, none⟩, c - k, by rw [List.length_map, List.length_drop], by rw [List.length_map, List.length_drop]; omega, by omega, nofun, fun i hi => ⟨b, off + k, rfl, ?_⟩⟩
  rw [List.length_map, List.length_drop] at hi
  obtain ⟨b', off', e4, q⟩ := h4 (k + i) (by omega)
  injection e4 with e4
  injection e4 with e5 e6
  subst e5 e6
  rw [getD_map _ _ (by omega)] at q
  rw [getD_map _ _ (by rw [List.length_drop]; omega), Nat.add_assoc, q]
  congr 3
  rw [getD_lt _ _ _ (by omega), getD_lt _ _ _ (by rw [List.length_drop]; omega), List.getElem_drop]

set_option maxRecDepth 100000 in
set_option maxHeartbeats 4000000 in
theorem parts1_seq (n : Nat) (m : Nat) : ∀ (l b : List Nat) (lv bv : Value) (B1 B2 : Nat), l.length = m → b.length + l.length ≤ 20 →
    SeqQ 91 #[] #[.pointer (some ⟨B1, 0, none⟩), .pointer (some ⟨B2, 0, none⟩)] (EPart n) (CSet.parts b l) (PartD n B1 B2 lv bv l b) := by
  induction m using Nat.strongRecOn with
  | _ m ih =>
  intro l b lv bv B1 B2 hm hbl L J Jx W hD hJ hJx hY h0
  have HD := Lib.hid hD
  have HJ := Lib.hid hJ
  have HJx := Lib.hid hJx
  have HY := Lib.hid hY
  have H0 := Lib.hid h0
  have IH := Lib.hid ih
  have HM := Lib.hid hm
  clear hD hJ hJx hY h0 ih hm
  refine (callsIn_wide (n := 0)).1 (callsIn_of_wp_marks Try.func91 rfl trivial ?_ rfl)
  simp only [Try.ntmps91, List.size_toArray, List.length_cons, List.length_nil, Nat.reduceAdd, Nat.reduceSub, Array.replicate_succ, Array.replicate_zero, List.push_toArray, List.append_toArray, List.nil_append, List.cons_append]
  have hw0 := (Bel.refl W).alloc (.cells #[.func (.yield L) #[] #[]] 109)
  have HW0 := Lib.hid hw0
  have hcl := (hw0.boxed HD.out.boxl).cell
  obtain ⟨la, lc, rfl, hl1, hl2, -, -⟩ := HD.out.list
  obtain ⟨ba, bc, rfl, hb1, hb2, -, -⟩ := HD.out.begun
  unfold maxLen at hl2 hb2
  rw [List.length_map] at hl1 hb1
  simp only [List.length_map] at HD HJ HJx HY H0 hcl ⊢
  have HBX := Lib.hid (Boxed.new W 109 (.func (.yield L) #[] #[]))
  clear hw0
  gi_wp2_with fail
  refine wpIn_loop (fun a' w' => ∃ (u4 u5 u6 u7 u10 u11 u12 u13 u14 u15 u16 u17 u18 u19 u20 u21 u22 u23 u24 u25 u26 u27 u28 u29 u30 u31 u32 u33 u34 u35 : Value) (k : Nat) (ds : List Nat), (u10 = .int .i64 (k : Int) ∧ k ≤ l.length ∧ J (partsUpTo b l k) w' ∧ PartD n B1 B2 (.slice la l.length lc) (.slice ba b.length bc) l b w' ∧ Boxed w' W.heap.size 109 (.func (.yield L) #[] #[]) ∧ Marks W.heap.size ds w') ∧
    a' = { tmps := #[Value.func (Fn.yield L) #[] #[], .pointer (some ⟨B1, 0, none⟩), .pointer (some ⟨B2, 0, none⟩), .pointer (some ⟨W.heap.size, 0, none⟩), u4, u5, u6, u7, .slice la l.length lc, .int .i64 (l.length : Int), u10, u11, u12, u13, u14, u15, u16, u17, u18, u19, u20, u21, u22, u23, u24, u25, u26, u27, u28, u29, u30, u31, u32, u33, u34, u35], defers := ds.map mark }) (fun a' _ => l.length - (intOf (a'.tmps.getD 10 undef)).toNat) ?_ ?_
  · refine ⟨_, _, _, _, _, _, _, _, _, _, _, _, _, _, _, _, _, _, _, _, _, _, _, _, _, _, _, _, _, _, 0, [], ⟨rfl, Nat.zero_le _, ?_, HD.out.bel HW0.out, HBX.out, ⟨List.nodup_nil, nofun⟩⟩, rfl⟩
    exact HJ.out _ _ _ H0.out (HW0.out.quiet _)
  · rintro a' wr ⟨u4, u5, u6, u7, u10, u11, u12, u13, u14, u15, u16, u17, u18, u19, u20, u21, u22, u23, u24, u25, u26, u27, u28, u29, u30, u31, u32, u33, u34, u35, k, ds, ⟨rfl, hk, hj, hd, hbx, hmk⟩, rfl⟩
    have HJ1 := Lib.hid hj
    have HD1 := Lib.hid hd
    have HB1 := Lib.hid hbx
    have HM1 := Lib.hid hmk
    have hbc := hbx.cell
    have hbb := hd.boxb.cell
    have hbl2 := hd.boxl.cell
    clear hj hd hbx hmk hcl
    by_cases hlt : k < l.length
    · obtain ⟨lb, loff, rfl, lcell⟩ := HD1.out.list.cellAt hlt
      generalize hx : l.getD k 0 = x at *
      have HX := Lib.hid hx
      clear hx
      have HPR := Lib.hid (show partsUpTo b l k ++ [b ++ [x]] <+: CSet.parts b l from by
        refine List.IsPrefix.trans ?_ (partsUpTo_pre b l (k + 1) hlt)
        rw [partsUpTo_succ, HX.out]
        exact ⟨CSet.parts (b ++ [x]) (l.drop (k + 1)), by simp⟩)
      have HPR2 := Lib.hid (fun pre (h : pre <+: CSet.parts (b ++ [x]) (l.drop (k + 1))) => show partsUpTo b l k ++ [b ++ [x]] ++ pre <+: CSet.parts b l from by
        refine List.IsPrefix.trans ?_ (partsUpTo_pre b l (k + 1) hlt)
        rw [partsUpTo_succ, HX.out]
        obtain ⟨t, ht⟩ := h
        exact ⟨t, by rw [← ht]; simp⟩)
      gi_wp2_with fail
      refine ⟨trivial, rfl, (callsW (concat_two wr _ x b HD1.out.begun (by omega))).mono ?_⟩
      rintro e w1 ⟨r, rfl, hcol, hfr, hw1⟩
      have HW1 := Lib.hid hw1
      have HJ2 := Lib.hid (HJ.out _ _ _ HJ1.out (hw1.quiet _))
      have HD2 := Lib.hid (HD1.out.bel hw1)
      have HB2 := Lib.hid (hw1.boxed HB1.out)
      have HM2 := Lib.hid (HM1.out.bel hw1)
      have hWr : W.heap.size ≤ wr.heap.size := by have := HB1.out.lt; omega
      have hnr := HD1.out.size
      obtain ⟨pb, poff, pk, pc, rfl, hpb⟩ := hfr
      have HCOL := Lib.hid hcol
      have hpk : pk = b.length + 1 := by simpa using hcol.drop
      subst hpk
      have HFR : Hid (FromB n (.slice (some ⟨pb, poff, none⟩) (b.length + 1) pc)) := Lib.hid ⟨pb, poff, _, _, rfl, by omega⟩
      obtain ⟨fn, tmps, assign, body, hyr, hR⟩ := HY.out (partsUpTo b l k) (b ++ [x]) #[.slice (some ⟨pb, poff, none⟩) (b.length + 1) pc] w1 HJ2.out HD2.out HPR.out ⟨_, rfl, HCOL.out, HFR.out⟩
      have hbx2 := HB2.out.cell
      clear hcol hw1 hbc hbb hbl2 lcell
      gi_wp2_with fail
      refine ⟨rfl, hR.mono ?_⟩
      rintro e W3 ⟨hd3, hk3, (⟨rfl, hJ3⟩ | ⟨rfl, hJx3⟩)⟩
      · have HD3 := Lib.hid hd3
        have HK3 := Lib.hid hk3
        have HJ3 := Lib.hid hJ3
        have HB3 := Lib.hid (hk3.boxed (Nat.le_refl _) HB2.out)
        have HM3 := Lib.hid (HM2.out.keep hk3)
        have HCOL3 := Lib.hid (HCOL.out.keep hk3 (by omega))
        have hbl3 := hd3.boxl.cell
        have hs3 := hk3.1
        have hs1 := HW1.out.size
        have HDRA := Lib.hid (hd3.list.dropped (k + 1) (by omega) lb loff rfl)
        have HDRB := Lib.hid (cols_none W3 lb loff l (k + 1))
        obtain ⟨DD, hDD1, hDD2⟩ : ∃ DD : World → Prop, (∀ w, DD w → PartD n B1 B2 (.slice (some ⟨lb, loff, none⟩) l.length lc) (.slice ba b.length bc) l b w) ∧ (∀ w, PartD n B1 B2 (.slice (some ⟨lb, loff, none⟩) l.length lc) (.slice ba b.length bc) l b w → DD w) := ⟨_, fun _ h => h, fun _ h => h⟩
        have HDD1 := Lib.hid hDD1
        have HDD2 := Lib.hid hDD2
        have HDDq := Lib.hid (fun m A B (h : DD A) (q : Quiet m A B) => hDD2 _ ((hDD1 _ h).quiet q))
        clear hR hyr hbx2 hJ3 hd3 hk3 hDD1 hDD2
        gi_wp2_with fail
        all_goals rcases Decidable.em (lc = k + 1) with rfl | hlc
        all_goals try (exfalso; omega)
        all_goals
          refine ⟨trivial, rfl, (callsW (parts_any _ _ _ _ _ _ _)).mono ?_⟩
          rintro e w4 ⟨rfl, hw4⟩
          obtain ⟨hbl4, hbb4, hw34, hz4⟩ := two_boxes hw4
          have hD4 : PartD n (W3.heap.size + 1) W3.heap.size _ _ (l.drop (k + 1)) (b ++ [x]) w4 := ⟨by have := HD3.out.size; have := hw34.size; omega, hbl4, hbb4, by first | exact HDRA.out.bel hw34 | exact (HDRB.out (by omega)).bel hw34, HCOL3.out.bel hw34⟩
          have HW34 := Lib.hid hw34
          have HD4 := Lib.hid hD4
          have HLT := Lib.hid (fun d (hd : d ∈ ds) => show d < w4.heap.size from by have := HM3.out.lt hd; omega)
          have HI0 := Lib.hid (show J (partsUpTo b l k ++ [b ++ [x]] ++ []) w4 ∧ DD w4 ∧ Boxed w4 W.heap.size 109 (.func (.yield L) #[] #[]) ∧ Marks W.heap.size ds w4 from
            ⟨by rw [List.append_nil]; exact HJ.out _ _ _ HJ3.out (hw34.quiet _), HDDq.out _ _ _ (HDD2.out _ HD3.out) (hw34.quiet 0), hw34.boxed HB3.out, HM3.out.bel hw34⟩)
          have hz5 : W.heap.size + 1 ≤ w4.heap.size := by have := HB3.out.lt; omega
          clear hbl4 hbb4 hw34 hw4 hbl3 hD4
          gi_wp2_with fail
          refine rf_outer (gf := 91) (fs := #[]) (lb := #[.pointer (some ⟨W3.heap.size + 1, 0, none⟩), .pointer (some ⟨W3.heap.size, 0, none⟩)]) rfl (enters_of Try.func91 (by kernel_rfl) rfl)
            (IH.out (l.length - (k + 1)) (by have := HM.out; omega) (l.drop (k + 1)) (b ++ [x]) _ _ _ _ (by simp) (by simp; omega)) HD4.out (fun A B h q => h.quiet q) (fun W vs x h => by obtain ⟨_, rfl, _⟩ := h; rfl)
            (fun pre w' => J (partsUpTo b l k ++ [b ++ [x]] ++ pre) w' ∧ DD w' ∧ Boxed w' W.heap.size 109 (.func (.yield L) #[] #[]) ∧ Marks W.heap.size ds w')
            (fun c _ w' => c = .ret ∧ (∃ pre, pre <+: CSet.parts b l ∧ Jx pre w') ∧ DD w' ∧ Marks W.heap.size ds w')
            (fun pre A B h q => ⟨HJ.out _ _ _ h.1 (q.mono (by omega)), HDDq.out _ _ _ h.2.1 q, q.boxed h.2.2.1, h.2.2.2.quiet2 q HLT.out⟩)
            (fun c pre A B h q => ⟨h.1, ⟨h.2.1.choose, h.2.1.choose_spec.1, HJx.out _ _ _ h.2.1.choose_spec.2 (q.mono (by omega))⟩, HDDq.out _ _ _ h.2.2.1 q, h.2.2.2.quiet2 q HLT.out⟩)
            HI0.out ?round ?done ?stop
          case stop =>
            rintro d c pre W5 hd5 _ ⟨rfl, ⟨pre', hp1, hp2⟩, hpd, hmk⟩ _ hK
            have hmk2 := hmk.cons (d := d) (by omega) (fun h => by have := HLT.out d h; omega) hK
            have HM5 := Lib.hid hmk2
            have HP1 := Lib.hid hp1
            have HP2 := Lib.hid hp2
            have HPD := Lib.hid hpd
            clear hp1 hp2 hpd hmk hmk2 hK
            gi_wp2_with fail
            refine leaves_marks W.heap.size (d :: ds) _ HM5.out (fun W6 q => leaves_out (results_none rfl _ _ _) ?_)
            exact ⟨⟨_, rfl⟩, HDD1.out _ (HDDq.out _ _ _ HPD.out q), .inr ⟨pre', HP1.out, HJx.out _ _ _ HP2.out q⟩⟩
          case done =>
            rintro d W5 hd5 ⟨hj5, hpd, hbx5, hmk⟩ _ hK
            have hmk2 := hmk.cons (d := d) (by omega) (fun h => by have := HLT.out d h; omega) hK
            have HM5 := Lib.hid hmk2
            have HPD := Lib.hid hpd
            have HJ5 := Lib.hid hj5
            have HB5 := Lib.hid hbx5
            clear hj5 hpd hbx5 hmk hmk2 hK
            gi_wp2_with fail
            refine ⟨⟨_, _, _, _, _, _, _, _, _, _, _, _, _, _, _, _, _, _, _, _, _, _, _, _, _, _, _, _, _, _, k + 1, d :: ds, ⟨by go_num, hlt, ?_, HDD1.out _ HPD.out, HB5.out, HM5.out⟩, rfl⟩, by simp [intOf]; omega⟩
            rw [partsUpTo_succ, HX.out]
            have h := HJ5.out
            rw [List.append_assoc] at h
            exact h
          case round =>
            rintro l2 pre y vs W5 hl5 ⟨hj5, hpd, hbx5, hmk⟩ hd5 hpre ⟨yv, rfl, hyc, hyf⟩
            gi_wp2_with fail
            refine ⟨Bel.refl _, fun W6 q _ _ => ?_⟩
            have HJ6 := Lib.hid (HJ.out _ _ _ hj5 (q.mono (by omega)))
            have HD6 := Lib.hid (HDDq.out _ _ _ hpd q)
            have HB6 := Lib.hid (q.boxed hbx5)
            have HM6 := Lib.hid (hmk.quiet2 q HLT.out)
            have HC6 := Lib.hid (hyc.quiet q)
            have HE6 := Lib.hid (hd5.quiet q)
            have HPY := Lib.hid (HPR2.out (pre ++ [y]) hpre)
            have hpy : (partsUpTo b l k ++ [b ++ [x]] ++ pre) ++ [y] <+: CSet.parts b l := by have h := HPY.out; rw [← List.append_assoc] at h; exact h
            obtain ⟨fn', tmps', assign', body', hyr', hR'⟩ := HY.out (partsUpTo b l k ++ [b ++ [x]] ++ pre) y #[yv] W6 HJ6.out (HDD1.out _ HD6.out) hpy ⟨_, rfl, HC6.out, hyf⟩
            have hbx6 := HB6.out.cell
            have HPX := Lib.hid hpy
            clear hj5 hpd hbx5 hmk hd5 hpre hyc q hpy
            gi_wp2_with fail
            refine ⟨rfl, (show RoundIn (Fence.wide.inRound l2) _ Try.prog L fn' tmps' assign' body' W6 _ from hR').mono ?_⟩
            rintro e W7 ⟨hd7, hk7, (⟨rfl, hJ7⟩ | ⟨rfl, hJx7⟩)⟩
            · have HD7 := Lib.hid hd7
              have HK7 := Lib.hid hk7
              have HJ7 := Lib.hid hJ7
              clear hd7 hk7 hJ7 hR' hyr' hbx6
              gi_wp2_with fail
              refine ⟨⟨by have := HE6.out.size; have := HK7.out.1; omega, HK7.out.boxed (by omega) HE6.out.boxl, HK7.out.boxed (by omega) HE6.out.boxb, by first | exact HD7.out.list.dropped (k + 1) (by omega) lb loff rfl | exact cols_none _ _ _ _ _ (by omega), HE6.out.begun.keep HK7.out (by omega)⟩,
                HK7.out.mono (by omega), ?_, HDD2.out _ HD7.out, HK7.out.boxed (Nat.le_refl _) HB6.out, HM6.out.keep HK7.out⟩
              have h := HJ7.out
              rw [List.append_assoc] at h
              exact h
            · have HD7 := Lib.hid hd7
              have HK7 := Lib.hid hk7
              have HJ7 := Lib.hid hJx7
              clear hd7 hk7 hJx7 hR' hyr' hbx6
              gi_wp2_with fail
              refine ⟨⟨by have := HE6.out.size; have := HK7.out.1; omega, HK7.out.boxed (by omega) HE6.out.boxl, HK7.out.boxed (by omega) HE6.out.boxb, by first | exact HD7.out.list.dropped (k + 1) (by omega) lb loff rfl | exact cols_none _ _ _ _ _ (by omega), HE6.out.begun.keep HK7.out (by omega)⟩,
                HK7.out.mono (by omega), rfl, ⟨_, HPX.out, HJ7.out⟩, HDD2.out _ HD7.out, HM6.out.keep HK7.out⟩
      · have HD3 := Lib.hid hd3
        have HJ3 := Lib.hid hJx3
        have HM3 := Lib.hid (HM2.out.keep hk3)
        clear hR hyr hbx2 hJx3 hd3 hk3
        gi_wp2_with fail
        refine leaves_marks W.heap.size ds _ HM3.out (fun W6 q => leaves_out (results_none rfl _ _ _) ?_)
        exact ⟨⟨_, rfl⟩, HD3.out.quiet q, .inr ⟨_, HPR.out, HJx.out _ _ _ HJ3.out q⟩⟩
    · obtain rfl : k = l.length := by omega
      have hfin := HJ1.out
      rw [← parts_eq] at hfin
      have HF := Lib.hid hfin
      clear hfin hbc hbb hbl2 hlt
      gi_wp2_with fail
      refine leaves_marks W.heap.size ds _ HM1.out (fun W6 q => leaves_out (results_none rfl _ _ _) ?_)
      exact ⟨⟨_, rfl⟩, HD1.out.quiet q, .inl (HJ.out _ _ _ HF.out q)⟩

end Go.Proofs.Ytpkadofgmhninaa
