/- ColourLies returns true. -/
import Derived.Test.YtpkadofgmhninaaShelf
import Derived.Test.YtpkadofgmhninaaFar
import Derived.Test.YtpkadofgmhninaaRightW
import Derived.Test.YtpkadofgmhninaaCopied
import Derived.Test.YtpkadofgmhninaaKnown
import Derived.Sort.CutIn
import Derived.Sort.BigQuietIn
namespace Go.Proofs.Ytpkadofgmhninaa
open Go.RowKit
attribute [local go_sem] Oper.semAt_some

/-- The true heats and stretches. -/
def Shelf.heats (x : Shelf) : List Nat := (x.row x.many).map B5.heat
def Shelf.stretches (x : Shelf) : List Nat := (x.row x.many).map B5.stretch
theorem row_getD (x : Shelf) {c : Nat} (f : B5 → Nat) (h : c < x.many) : ((x.row x.many).map f).getD c 0 = f (x.paints.getD c .none) := by
  unfold Shelf.row
  simp only [List.getD, List.getElem?_map, List.getElem?_range h, Option.map_some, Option.getD_some]
structure Truth (s : CSet) (H T : List Nat) : Prop where
  hlen : H.length = s.paints.length
  tlen : T.length = s.paints.length
  hb : ∀ c, H.getD c 0 ≤ 1000000
  tb : ∀ c, T.getD c 0 ≤ 1000000
  hin : ∀ c, c < s.paints.length → (s.paint c).hl ≤ ((H.getD c 0 : Nat) : Int) ∧ ((H.getD c 0 : Nat) : Int) ≤ (s.paint c).hh
  tin : ∀ c, c < s.paints.length → (s.paint c).sl ≤ ((T.getD c 0 : Nat) : Int) ∧ ((T.getD c 0 : Nat) : Int) ≤ (s.paint c).sh
theorem shelf_truth {x : Shelf} (h : x.Ok) : Truth x.set x.heats x.stretches := by
  have hl : x.set.paints.length = x.many := by simp [Shelf.set, Shelf.row_len]
  have out : ∀ (f : B5 → Nat) c, ¬ c < x.many → ((x.row x.many).map f).getD c 0 = 0 := fun f c hc => by
    rw [List.getD, List.getElem?_eq_none (by rw [List.length_map, Shelf.row_len]; omega)]; rfl
  refine ⟨by rw [hl]; simp [Shelf.heats, Shelf.row_len], by rw [hl]; simp [Shelf.stretches, Shelf.row_len], fun c => ?_, fun c => ?_, fun c hc => ?_, fun c hc => ?_⟩
  · unfold Shelf.heats
    by_cases hc : c < x.many
    · rw [row_getD x _ hc]; have := (h.paints c).1; unfold B5.heat; omega
    · rw [out _ c hc]; omega
  · unfold Shelf.stretches
    by_cases hc : c < x.many
    · rw [row_getD x _ hc]; unfold B5.stretch; omega
    · rw [out _ c hc]; omega
  · rw [hl] at hc
    unfold Shelf.heats
    rw [row_getD x _ hc, Shelf.paint_at hc]
    simp only [B5.paint]; omega
  · rw [hl] at hc
    unfold Shelf.stretches
    rw [row_getD x _ hc, Shelf.paint_at hc]
    simp only [B5.paint]; omega
theorem made_truth (x : Shelf) (hx : x.Ok) (v : Value) (w : World) (hv : ShelfV w v x) :
    Calls Try.prog 8 #[v] w fun e w' => ∃ sv hv tv, e = .returned (.tuple #[sv, hv, tv]) ∧ SetV w' sv x.set ∧ Cols w' hv x.heats ∧ Cols w' tv x.stretches ∧ Bel w w' :=
  (made_any x hx v w hv).mono fun e w' ⟨sv, hv, tv, e1, e2, e3, e4, e5⟩ => ⟨sv, hv, tv, e1, e2, by unfold Cols Shelf.heats; rw [List.map_map]; exact e3, by unfold Cols Shelf.stretches; rw [List.map_map]; exact e4, e5⟩

theorem plns_row {W : World} {base : Nat} {v : Value} {ps : List Rounds} {vs : List Value} (h : W.ownsRow base 35 1 v ps.length vs) (hl : vs.length = ps.length) (hx : ∀ i, i < ps.length → Rnds W (vs.getD i undef) (ps.getD i [])) : Plns W v ps := by
  have h' : W.ownsRow base 35 1 v vs.length vs := by rw [hl]; exact h
  obtain ⟨a, c, e, h1, h2, h3, h4⟩ := own_vals h'
  rw [hl] at e h1 h4
  exact ⟨a, c, fun i => vs.getD i undef, e, h1, h2, h3, fun i hi => by
    obtain ⟨b, off, e', q⟩ := h4 i hi
    exact ⟨b, off, e', q, hx i hi⟩⟩
/-- What Wrong has answered. -/
structure WrongO (s : CSet) (ps : List Rounds) (m : Nat) (d : List Nat) (v : Value) (F : Int) (W : World) : Prop where
  cols : Cols W v d
  sub : d.Sublist (List.range ps.length)
  few : d.length ≤ m
  how : (F = 0 ∧ d ≠ []) ∨ (F = 6 ∧ d = [])
  all : s.canDrop ps d = true
  less : ∀ y : List Nat, y.Sublist d → y.length < d.length → s.canDrop ps y = false
theorem WrongO.bel {s : CSet} {ps : List Rounds} {m : Nat} {d : List Nat} {v : Value} {F : Int} {A B : World} (h : WrongO s ps m d v F A) (q : Bel A B) : WrongO s ps m d v F B := ⟨h.cols.bel q, h.sub, h.few, h.how, h.all, h.less⟩
theorem wrongO {n : Nat} {s : CSet} (hs : s.Ok) {H T : List Nat} (ht : Truth s H T) {ps : List Rounds} (hp : ∀ p, p ∈ ps → PlanOk s.paints.length p) {v : Value} {er : Int} {W : World} (h : WrongV n s ps v er W) :
    ∃ d, WrongO s ps (CSet.notRight s ps (fun c => ((H.getD c 0 : Nat) : Int)) (fun c => ((T.getD c 0 : Nat) : Int))).length d v er W := by
  unfold WrongV at h
  cases hc : s.canDrop ps [] with
  | true =>
    rw [if_pos hc] at h
    obtain ⟨rfl, rfl⟩ := h
    exact ⟨[], Ints.nil W, List.nil_sublist _, Nat.zero_le _, .inr ⟨rfl, rfl⟩, hc, fun y _ hl => absurd hl (Nat.not_lt_zero _)⟩
  | false =>
    rw [if_neg (by rw [hc]; simp)] at h
    obtain ⟨h1, rfl⟩ := h
    obtain ⟨d, e, h2, h3, h4, h5, h6⟩ := CSet.wrong_some hs ps hp _ _ ht.hin ht.tin hc
    rw [e] at h1
    exact ⟨d, h1.1, h3, h6, .inl ⟨rfl, h2⟩, h4, h5⟩
/-- Which plans are left out. -/
def leftOut (d : List Nat) (k : Int) : List Nat := if k < 0 then d else CSet.butAt d k.toNat
theorem leftOut_sub (d : List Nat) {k : Int} (hk : k < d.length) : (leftOut d k).Sublist d := by
  unfold leftOut
  split
  · exact List.Sublist.refl _
  · exact (CSet.butAt_lt (by omega)).2
theorem mem_butAt {d : List Nat} (hd : d.Nodup) {k i : Nat} (hk : k < d.length) : i ∈ CSet.butAt d k ↔ i ∈ d ∧ i ≠ d.getD k 0 := by
  have e : d.getD k 0 = d[k] := getD_lt _ _ _ hk
  rw [CSet.butAt_eq, e, List.mem_eraseIdx_iff_getElem?]
  constructor
  · rintro ⟨j, hj, hji⟩
    obtain ⟨hl, rfl⟩ := List.getElem?_eq_some_iff.1 hji
    refine ⟨List.getElem_mem hl, fun h => ?_⟩
    rcases Nat.lt_trichotomy j k with q | q | q
    · exact List.pairwise_iff_getElem.1 hd j k hl hk q h
    · exact hj q
    · exact List.pairwise_iff_getElem.1 hd k j hk hl q h.symm
  · rintro ⟨hm, hne⟩
    obtain ⟨j, hl, rfl⟩ := List.getElem_of_mem hm
    exact ⟨j, fun h => hne (by subst h; rfl), List.getElem?_eq_getElem hl⟩
theorem leftOut_has {d : List Nat} (hd : d.Nodup) {k : Int} (hk0 : -1 ≤ k) (hk : k < d.length) (i : Nat) : (leftOut d k).contains i = (d.contains i && !(decide (0 ≤ k) && decide (d.getD k.toNat 0 = i))) := by
  unfold leftOut
  by_cases h : k < 0
  · rw [if_pos h]
    have : ¬ 0 ≤ k := by omega
    simp [this]
  · rw [if_neg h, Bool.eq_iff_iff, List.contains_eq_mem, decide_eq_true_eq, mem_butAt hd (by omega)]
    have : 0 ≤ k := by omega
    simp [this, List.contains_eq_mem]
    intro _
    exact ⟨fun h1 h2 => h1 h2.symm, fun h1 h2 => h1 h2.symm⟩
theorem leftOut_can {s : CSet} {ps : List Rounds} {d : List Nat} (hall : s.canDrop ps d = true) (hless : ∀ y : List Nat, y.Sublist d → y.length < d.length → s.canDrop ps y = false) {k : Int} (hk : k < d.length) : s.canDrop ps (leftOut d k) = decide (k < 0) := by
  unfold leftOut
  by_cases h : k < 0
  · rw [if_pos h, hall]; symm; exact decide_eq_true h
  · rw [if_neg h]
    obtain ⟨h1, h2⟩ := CSet.butAt_lt (l := d) (k := k.toNat) (by omega)
    rw [hless _ h2 h1]; symm; exact decide_eq_false h

theorem B5s.bel {A B : World} (q : Bel A B) {v : Value} {bs : List B5} (h : B5s A v bs) : B5s B v bs := by
  obtain ⟨a, c, e, h1⟩ := h
  refine ⟨a, c, e, fun j hj => ?_⟩
  obtain ⟨b, off, e', k0, k1, k2, k3, k4⟩ := h1 j hj
  exact ⟨b, off, e', q.cell k0, q.cell k1, q.cell k2, q.cell k3, q.cell k4⟩
theorem B2s.bel {A B : World} (q : Bel A B) {v : Value} {bs : List (Nat × Nat)} (h : B2s A v bs) : B2s B v bs := by
  obtain ⟨a, c, e, h1⟩ := h
  refine ⟨a, c, e, fun j hj => ?_⟩
  obtain ⟨b, off, e', k0, k1⟩ := h1 j hj
  exact ⟨b, off, e', q.cell k0, q.cell k1⟩

/-- Three lists of bytes, one behind another. -/
def three {α : Type} (a b c : α) (k : Nat) : α := match k with | 0 => a | 1 => b | _ => c
def planBy (n : Nat) (bs : List Nat) : Rounds := laysUp bs (min n bs.length) 5
theorem planBy_ok (n : Nat) (bs : List Nat) : PlanOk n (planBy n bs) ∧ ∀ r, r ∈ planBy n bs → Asc n r := laysUp_ok bs (Nat.min_le_left _ _) 5
theorem planBy_len (n : Nat) (bs : List Nat) : (planBy n bs).length ≤ 1000 := Nat.le_trans (laysUp_len bs _ 5) (by omega)
/-- How many of the first plans truly were not right. -/
def badTo (s : CSet) (f t : Nat → Int) (P : Nat → Rounds) (k : Nat) : Nat := ((List.range k).filter fun i => !CSet.rightB s (P i) f t).length
theorem badTo_succ (s : CSet) (f t : Nat → Int) (P : Nat → Rounds) (k : Nat) : badTo s f t P (k + 1) = badTo s f t P k + (if CSet.rightB s (P k) f t = true then 0 else 1) := by
  unfold badTo
  rw [List.range_succ, List.filter_append, List.length_append, List.filter_cons, List.filter_nil]
  cases CSet.rightB s (P k) f t <;> rfl
theorem badTo_le (s : CSet) (f t : Nat → Int) (P : Nat → Rounds) (k : Nat) : badTo s f t P k ≤ k := by
  have := List.length_filter_le (fun i => !CSet.rightB s (P i) f t) (List.range k)
  rw [List.length_range] at this; exact this
theorem badTo_all (s : CSet) (f t : Nat → Int) (a b c : Rounds) : badTo s f t (three a b c) 3 = (CSet.notRight s [a, b, c] f t).length := rfl

theorem Byts.bel {A B : World} (q : Bel A B) {v : Value} {bs : List Nat} (h : Byts A v bs) : Byts B v bs := by
  obtain ⟨a, c, e, h1, h2, h3, h4⟩ := h
  exact ⟨a, c, e, h1, h2, fun j hj => by
    obtain ⟨b, off, e', k0⟩ := h3 j hj
    exact ⟨b, off, e', q.cell k0⟩, h4⟩

set_option maxRecDepth 100000 in
set_option maxHeartbeats 16000000 in
theorem lies_any (x : Shelf) (hx : x.Ok) (b0 b1 b2 : List Nat) (v s0 s1 s2 : Value) (w : World) (hv : ShelfV w v x) (h0 : Byts w s0 b0) (h1 : Byts w s1 b1) (h2 : Byts w s2 b2) :
    Calls Try.prog 7 #[v, .agg #[s0, s1, s2]] w fun e w' => e = .returned (.bool true) ∧ Bel w w' := by
  obtain ⟨i0, hi, hz0, hz1, hz2⟩ := info_parts Try.info35
  have HY := Lib.hid (show ∀ k, k < 3 → Byts w (three s0 s1 s2 k) (three b0 b1 b2 k) from fun k hk => by
    have : k = 0 ∨ k = 1 ∨ k = 2 := by omega
    rcases this with rfl | rfl | rfl
    · exact h0
    · exact h1
    · exact h2)
  clear h0 h1 h2
  obtain ⟨pv, ev, rfl, ⟨pa, pc, rfl, hpc⟩, ⟨ea, ec, rfl, hec⟩⟩ := hv
  have KM := Lib.hid (fun W (hW : Bel w W) => made_truth x hx _ W ⟨_, _, rfl, B5s.bel hW ⟨pa, pc, rfl, hpc⟩, B2s.bel hW ⟨ea, ec, rfl, hec⟩⟩)
  have HS := Lib.hid (Shelf.set_ok hx)
  have HTR := Lib.hid (shelf_truth hx)
  clear hpc hec hx
  generalize x.set = s at *
  generalize x.heats = H at *
  generalize x.stretches = T at *
  obtain ⟨c0, c1, c2, c3⟩ := (C4.new w (.int .u8 x.r0) (.int .u8 x.r1) (.slice pa x.paints.length pc) (.slice ea x.eats.length ec) 26).bel ((Bel.refl _).alloc (.cells #[s0, s1, s2] 72))
  have HQ := Lib.hid (show ∀ k, k < 3 → ((w.alloc (.cells #[.int .u8 x.r0, .int .u8 x.r1, .slice pa x.paints.length pc, .slice ea x.eats.length ec] 26)).alloc (.cells #[s0, s1, s2] 72)).cell? ⟨w.heap.size + 1, k, none⟩ = some (three s0 s1 s2 k) from fun k hk => by
    have h := World.alloc_heap_new (w.alloc (.cells #[.int .u8 x.r0, .int .u8 x.r1, .slice pa x.paints.length pc, .slice ea x.eats.length ec] 26)) (.cells #[s0, s1, s2] 72)
    rw [World.size_alloc] at h
    have : k = 0 ∨ k = 1 ∨ k = 2 := by omega
    rcases this with rfl | rfl | rfl <;> (simp only [World.cell?, h]; rfl))
  refine (callsIn_wide (n := 0)).1 (callsIn_of_wp Try.func7 rfl trivial ?_ rfl)
  simp only [Try.ntmps7, List.size_toArray, List.length_cons, List.length_nil, Nat.reduceAdd, Nat.reduceSub, Array.replicate_succ, Array.replicate_zero, List.push_toArray, List.append_toArray, List.nil_append, List.cons_append]
  gi_wp2_with fail
  refine ⟨trivial, rfl, (callsW (KM.out _ (((Bel.refl w).alloc _).alloc _))).mono ?_⟩
  rintro e w1 ⟨sv, hv, tv, rfl, hset, hhv, htv, hb⟩
  obtain ⟨pv, ev, rfl, h1, h2⟩ := hset
  have HP := Lib.hid h1
  have HE := Lib.hid h2
  obtain ⟨qa, qc, rfl, -, -, -, -⟩ := h1
  obtain ⟨da, dc, rfl, -, -, -, -⟩ := h2
  have HB1 := Lib.hid ((((Bel.refl w).alloc _).alloc _).trans hb)
  have HQ1 := Lib.hid (show ∀ k, k < 3 → w1.cell? ⟨w.heap.size + 1, k, none⟩ = some (three s0 s1 s2 k) from fun k hk => hb.cell (HQ.out k hk))
  have HHV := Lib.hid hhv
  have HTV := Lib.hid htv
  clear hb c0 c1 c2 c3 KM HQ hhv htv
  gi_wp2_with fail
  have hw1 : C4 (w1.alloc (.cells #[.slice qa s.paints.length qc, .int .i64 s.near, .int .i64 s.give, .slice da s.eats.length dc] 31)) w1.heap.size (.slice qa s.paints.length qc) (.int .i64 s.near) (.int .i64 s.give) (.slice da s.eats.length dc) := C4.new _ _ _ _ _ _
  obtain ⟨W1, hW1⟩ : ∃ W1, w1.alloc (.cells #[.slice qa s.paints.length qc, .int .i64 s.near, .int .i64 s.give, .slice da s.eats.length dc] 31) = W1 := ⟨_, rfl⟩
  have hsz : W1.heap.size = w1.heap.size + 1 := by rw [← hW1]; simp
  have HB2 := Lib.hid (show Bel w1 W1 by rw [← hW1]; exact (Bel.refl _).alloc _)
  rw [hW1] at hw1 ⊢
  rw [← hsz]
  have HC := Lib.hid hw1
  have HSB := Lib.hid (show Bel w W1 from HB1.out.trans HB2.out)
  have HSV := Lib.hid (show SetV W1 (.agg #[.slice qa s.paints.length qc, .int .i64 s.near, .int .i64 s.give, .slice da s.eats.length dc]) s from ⟨_, _, rfl, HP.out.bel HB2.out, HE.out.bel HB2.out⟩)
  have HHW := Lib.hid (HHV.out.bel HB2.out)
  have HTW := Lib.hid (HTV.out.bel HB2.out)
  have HQW := Lib.hid (show ∀ k, k < 3 → W1.cell? ⟨w.heap.size + 1, k, none⟩ = some (three s0 s1 s2 k) from fun k hk => HB2.out.cell (HQ1.out k hk))
  clear hW1 hsz hw1 HP HE HB2 HB1 HHV HTV HQ1
  generalize w1.heap.size = B at *
  clear w1
  generalize hfd : (fun c => ((H.getD c 0 : Nat) : Int)) = f at *
  generalize htd : (fun c => ((T.getD c 0 : Nat) : Int)) = t at *
  have HFD := Lib.hid hfd
  have HTD := Lib.hid htd
  clear hfd htd
  have HPO := Lib.hid (show ∀ k, PlanOk s.paints.length (planBy s.paints.length (three b0 b1 b2 k)) ∧ ∀ r, r ∈ planBy s.paints.length (three b0 b1 b2 k) → Asc s.paints.length r from fun k => planBy_ok _ _)
  have HPL := Lib.hid (show ∀ k, (planBy s.paints.length (three b0 b1 b2 k)).length ≤ 1000 from fun k => planBy_len _ _)
  have HN5 := Lib.hid HS.out.n5
  gi_loopw [8, 9, 10] (fun lv mv iv wr => ∃ (k : Nat) (us : List Value), k ≤ 3 ∧ iv = .int .i64 k ∧ mv = .int .i64 (badTo s f t (fun i => planBy s.paints.length (three b0 b1 b2 i)) k) ∧ us.length = k ∧ wr.ownsRow W1.heap.size 35 1 lv k us ∧ (∀ j, j < k → RndN W1.heap.size wr (us.getD j undef) (planBy s.paints.length (three b0 b1 b2 j))) ∧ Bel W1 wr) (fun _ _ iv _ => 3 - (intOf iv).toNat)
  case atStart =>
    exact ⟨0, [], Nat.zero_le _, rfl, rfl, rfl, World.ownsRow_made (base := W1.heap.size) (e := 35) (size := 1) W1 #[] 0 (Nat.le_refl _) (Nat.zero_le _) rfl, fun j hj => absurd hj (Nat.not_lt_zero _), (Bel.refl _).alloc _⟩
  case round =>
    as_aux_lemma =>
      obtain ⟨k, us, hk, rfl, rfl, hvl, ho, hvs, hb⟩ := hrel
      have HO := Lib.hid ho
      have HVS := Lib.hid hvs
      have HVL := Lib.hid hvl
      have HB := Lib.hid hb
      obtain ⟨c0, c1, c2, c3⟩ := HC.out.bel hb
      clear ho hvs hb hvl
      by_cases hlt : k < 3
      · have h0 : decide ((k : Int) < 3) = true := decide_eq_true (by omega)
        have KL := Lib.hid (laid_any s.paints.length (three s0 s1 s2 k) (three b0 b1 b2 k))
        have HYK := Lib.hid (HY.out k hlt)
        have HQK := Lib.hid (HB.out.cell (HQW.out k hlt))
        have HPK := Lib.hid (HPO.out k)
        have HLK := Lib.hid (HPL.out k)
        have HBS := Lib.hid (badTo_succ s f t (fun i => planBy s.paints.length (three b0 b1 b2 i)) k)
        have HBT := Lib.hid (badTo_le s f t (fun i => planBy s.paints.length (three b0 b1 b2 i)) k)
        have HDEF := Lib.hid (show laysUp (three b0 b1 b2 k) (min s.paints.length (three b0 b1 b2 k).length) 5 = planBy s.paints.length (three b0 b1 b2 k) from rfl)
        have HPE := Lib.hid (show planBy s.paints.length (three b0 b1 b2 k) = planBy s.paints.length (three b0 b1 b2 k) from rfl)
        generalize three s0 s1 s2 k = sk at *
        generalize hpk : planBy s.paints.length (three b0 b1 b2 k) = pk at *
        replace HPE := Lib.hid (show ∀ j, j = k → planBy s.paints.length (three b0 b1 b2 j) = pk from fun j hj => by rw [hj]; exact hpk)
        clear hpk
        generalize three b0 b1 b2 k = bk at *
        generalize badTo s f t (fun i => planBy s.paints.length (three b0 b1 b2 i)) k = mk at *
        gi_wp2_with fail
        clear c0 c1 c2 c3
        refine region_growF (fun i v W => match i with
          | 0 => v = .pointer (some ⟨B, 0, none⟩)
          | 1 => v = .slice qa s.paints.length qc
          | 2 => v = .int .i64 ((s.paints.length : Nat) : Int)
          | 3 => v = .int .i64 ((k : Nat) : Int)
          | 4 => v = .pointer (some ⟨w.heap.size + 1, k, none⟩)
          | 5 => v = sk
          | 6 => RndN W1.heap.size W v pk
          | 7 => RndN W1.heap.size W v pk
          | _ => True) ?gfa1 ?gframe1 (by kernel_rfl) (by kernel_rfl) (by kernel_rfl) ?gstays1 ?gops1 ?gfin1
        case gframe1 =>
          intro vs
          simp only [putAll, Act.put, List.setIfInBounds_toArray, List.set_cons_succ, List.set_cons_zero, Nat.reduceAdd, Nat.zero_add]
          exact rfl
        case gstays1 =>
          intro i v W W' h hb
          split at h <;> first | exact h | exact h.bel hb | exact fun e => (h e).bel hb | exact ⟨h.1.bel hb, h.2⟩
        case gops1 =>
          refine ⟨?_, ?_, ?_, ?_, ?_, ?_, ?_, ?_, trivial⟩
          · refine growOpF_k ?_; intro vs W hW hd K HK
            clear hd
            gi_wp2_with fail
            refine HK.out _ _ ?_ ?_ ?_
            · kernel_rfl
            · rfl
            · exact Bel.refl _
          · refine growOpF_k ?_; intro vs W hW hd K HK
            have h0 : (vs 0) = .pointer (some ⟨B, 0, none⟩) := hd 0 (by decide)
            clear hd
            obtain ⟨c0, c1, c2, c3⟩ := HC.out.bel (HB.out.trans hW)
            simp only [h0]
            gi_wp2_with fail
            refine HK.out _ _ ?_ ?_ ?_
            · (try simp only [h0]) <;> kernel_rfl
            · rfl
            · exact Bel.refl _
          · refine growOpF_k ?_; intro vs W hW hd K HK
            have h1 : (vs 1) = .slice qa s.paints.length qc := hd 1 (by decide)
            clear hd
            simp only [h1]
            gi_wp2_with fail
            refine HK.out _ _ ?_ ?_ ?_
            · (try simp only [h1]) <;> kernel_rfl
            · rfl
            · exact Bel.refl _
          · refine growOpF_k ?_; intro vs W hW hd K HK
            clear hd
            gi_wp2_with fail
            refine HK.out _ _ ?_ ?_ ?_
            · kernel_rfl
            · rfl
            · exact Bel.refl _
          · refine growOpF_k ?_; intro vs W hW hd K HK
            have h3 : (vs 3) = .int .i64 ((k : Nat) : Int) := hd 3 (by decide)
            clear hd
            simp only [h3]
            gi_wp2_with fail
            refine HK.out _ _ ?_ ?_ ?_
            · (try simp only [h3]) <;> kernel_rfl
            · rfl
            · exact Bel.refl _
          · refine growOpF_k ?_; intro vs W hW hd K HK
            have h4 : (vs 4) = .pointer (some ⟨w.heap.size + 1, k, none⟩) := hd 4 (by decide)
            clear hd
            have q0 := hW.cell HQK.out
            simp only [h4]
            gi_wp2_with fail
            refine HK.out _ _ ?_ ?_ ?_
            · (try simp only [h4]) <;> kernel_rfl
            · rfl
            · exact Bel.refl _
          · refine growOpF_k ?_; intro vs W hW hd K HK
            have h2 : (vs 2) = .int .i64 ((s.paints.length : Nat) : Int) := hd 2 (by decide)
            have h5 : (vs 5) = sk := hd 5 (by decide)
            clear hd
            have kl := KL.out W (HYK.out.bel (HSB.out.trans (HB.out.trans hW))) (by have := HN5.out; omega)
            simp only [h2, h5]
            gi_wp2_with fail
            refine ⟨trivial, rfl, (callsW kl).mono ?_⟩
            rintro e W' ⟨rv, rfl, hrn, hb⟩
            rw [HDEF.out] at hrn
            have hrn2 := hrn.le (base' := W1.heap.size) (HB.out.trans hW).size
            gi_wp2_with fail
            refine HK.out _ _ ?_ ?_ ?_
            · (try simp only [h2, h5]) <;> kernel_rfl
            · exact hrn2
            · exact hb
          · refine growOpF_k ?_; intro vs W hW hd K HK
            have h6 : RndN W1.heap.size W (vs 6) pk := hd 6 (by decide)
            clear hd
            gi_wp2_with fail
            refine HK.out _ _ ?_ ?_ ?_
            · kernel_rfl
            · exact h6
            · exact Bel.refl _
        case gfin1 =>
          intro vs W hW hall
          have g7 : RndN W1.heap.size W (vs 7) pk := hall 7 (by decide)
          clear hall
          generalize vs 7 = rv at *
          have HB6 := Lib.hid (HB.out.trans hW)
          have HO6 := Lib.hid (ownsRow_bel HO.out hW)
          have HVS6 := Lib.hid (show ∀ j, j < k → RndN W1.heap.size W (us.getD j undef) (planBy s.paints.length (three b0 b1 b2 j)) from fun j hj => (HVS.out j hj).bel hW)
          obtain ⟨ra, rn, rc, rfl⟩ := rndN_sl g7
          have HG7 := Lib.hid g7
          have hm1 : k + 1 ≤ maxLen := by unfold maxLen; omega
          have hm2 : (k + 1) * 24 ≤ 140737488355328 := by omega
          have hm3 : W1.heap.size ≤ (W.alloc (.cells #[.slice ra rn rc] 35)).heap.size := by have := HB6.out.size; simp; omega
          clear hW g7 HVS HO
          gi_wp2_with (gi_at_builtin; refine wpListIn_append_own _ rfl _ _ 73 rfl W1.heap.size 35 i0 (.slice none 0 0) 1 24 Try.underlying73 hi hz0 hz1 hz2 rfl (by decide) _ _ _ rfl (ownsRow_bel HO6.out ((Bel.refl _).alloc (.cells #[.slice ra rn rc] 35))) ⟨W.heap.size, 0, none⟩ 1 1 [.slice ra rn rc] rfl rfl (one_new _ _ _) (by simp [Value.oneCell']) hm1 hm2 hm3 ?_; intro v' w4 ho4 hg4 _; have HO4 := Lib.hid ho4; have HG4 := Lib.hid hg4; have hb4 : Bel W1 w4 := ((HB6.out.alloc _).grown hg4 (fun q hq => (HO6.out.lt q hq).1)); have HB4 := Lib.hid hb4; obtain ⟨c0, c1, c2, c3⟩ := HC.out.bel hb4; clear ho4 hg4 hb4 hm3)
          have ho' := ownsRow_bel HO6.out ((Bel.refl W).alloc (.cells #[.slice ra rn rc] 35))
          have hrv : RndN W1.heap.size w4 (.slice ra rn rc) pk := (HG7.out.bel ((Bel.refl _).alloc _)).grown ho' HG4.out
          have HRV := Lib.hid hrv
          have HVS4 := Lib.hid (show ∀ j, j < k → RndN W1.heap.size w4 (us.getD j undef) (planBy s.paints.length (three b0 b1 b2 j)) from fun j hj => ((HVS6.out j hj).bel ((Bel.refl _).alloc _)).grown ho' HG4.out)
          have hcall := right_any s HS.out _ (.slice ra rn rc) hv tv pk H T w4 (HSV.out.bel HB4.out) hrv.rnds (HHW.out.bel HB4.out) (HTW.out.bel HB4.out) HTR.out.hlen HTR.out.tlen HTR.out.hb HTR.out.tb (fun r hr c hc => ((HPK.out.1.asc r hr).1 c hc)) HLK.out (fun r hr => by
            have h1 := (HPK.out.2 r hr).len
            have := HN5.out
            omega)
          rw [HFD.out, HTD.out] at hcall
          have HCALL := Lib.hid hcall
          clear ho' hrv hcall
          refine ⟨trivial, rfl, (callsW HCALL.out).mono ?_⟩
          rintro e w6 ⟨rfl, hb6⟩
          have HB7 := Lib.hid (HB4.out.trans hb6)
          have HO7 := Lib.hid (ownsRow_bel HO4.out hb6)
          have HVS7 := Lib.hid (show ∀ j, j < k + 1 → RndN W1.heap.size w6 ((us ++ [Value.slice ra rn rc]).getD j undef) (planBy s.paints.length (three b0 b1 b2 j)) from fun j hj => by
            have hvl := HVL.out
            by_cases hjk : j < k
            · rw [show (us ++ [Value.slice ra rn rc]).getD j undef = us.getD j undef by simp [List.getD, List.getElem?_append, hvl, hjk]]
              exact (HVS4.out j hjk).bel hb6
            · obtain rfl : j = k := by omega
              rw [show (us ++ [Value.slice ra rn rc]).getD j undef = Value.slice ra rn rc by simp [List.getD, ← hvl], HPE.out _ rfl]
              exact HRV.out.bel hb6)
          have hmk := HBT.out
          have hbs := HBS.out
          clear hb6 c0 c1 c2 c3
          cases hrb : CSet.rightB s pk f t with
          | true =>
            rw [hrb, if_pos rfl] at hbs
            have HBE := Lib.hid hbs
            clear hbs hrb
            gi_wp2_with fail
            go_roundw
            case rel => exact ⟨k + 1, us ++ [.slice ra rn rc], by omega, by go_num, by rw [HBE.out]; rfl, by simp [HVL.out], HO7.out, HVS7.out, HB7.out⟩
            case measure => simp [intOf]; omega
          | false =>
            rw [hrb, if_neg (by simp)] at hbs
            have HBE := Lib.hid hbs
            clear hbs hrb
            gi_wp2_with fail
            go_roundw
            case rel => exact ⟨k + 1, us ++ [.slice ra rn rc], by omega, by go_num, by rw [HBE.out]; go_num, by simp [HVL.out], HO7.out, HVS7.out, HB7.out⟩
            case measure => simp [intOf]; omega
      · obtain rfl : k = 3 := by omega
        have hus := HVL.out
        obtain ⟨la, lc, rfl⟩ := own_sln HO.out
        obtain ⟨ps, hps⟩ : ∃ ps, ps = [planBy s.paints.length b0, planBy s.paints.length b1, planBy s.paints.length b2] := ⟨_, rfl⟩
        have hpl : ps.length = 3 := by rw [hps]; rfl
        have hpg : ∀ i, i < 3 → ps.getD i [] = planBy s.paints.length (three b0 b1 b2 i) := fun i hi => by
          rw [hps]
          have : i = 0 ∨ i = 1 ∨ i = 2 := by omega
          rcases this with rfl | rfl | rfl <;> rfl
        have hpok : ∀ p, p ∈ ps → (PlanOk s.paints.length p ∧ ∀ r, r ∈ p → Asc s.paints.length r) ∧ p.length ≤ 1000 := fun p hp => by
          rw [hps] at hp
          simp only [List.mem_cons, List.not_mem_nil, or_false] at hp
          rcases hp with rfl | rfl | rfl <;> exact ⟨planBy_ok _ _, planBy_len _ _⟩
        have hbad : badTo s f t (fun i => planBy s.paints.length (three b0 b1 b2 i)) 3 = (CSet.notRight s ps f t).length := by rw [hps]; rfl
        have hrl : ∀ p, p ∈ ps → ∀ r, r ∈ p → r.length ≤ 1000 := fun p hp r hr => by
          have h1 := ((hpok p hp).1.2 r hr).len
          have := HN5.out
          omega
        have hrn : ∀ i, i < 3 → Rnds wr (us.getD i undef) (ps.getD i []) := fun i hi => by rw [hpg i hi]; exact (HVS.out i hi).rnds
        have hplns : Plns wr (.slice la 3 lc) ps := plns_row (base := W1.heap.size) (vs := us) (by rw [hpl]; exact HO.out) (by rw [hpl]; exact hus) (fun i hi => hrn i (by omega))
        have hlv : ∀ i, i < 3 → ∃ b off, la = some ⟨b, off, none⟩ ∧ wr.cell? ⟨b, off + i, none⟩ = some (us.getD i undef) := fun i hi => by
          have h := HO.out
          obtain ⟨a, c, e, -, -, -, h4⟩ := own_vals (xs := us) (by rw [hus]; exact h)
          injection e with e1 e2 e3
          subst e1
          exact h4 i (by omega)
        have HPL3 := Lib.hid hpl
        have HPOK := Lib.hid hpok
        have HRL := Lib.hid hrl
        have HRN := Lib.hid hrn
        have HPS := Lib.hid hplns
        have HLV := Lib.hid hlv
        rw [hbad]
        have hnb : (CSet.notRight s ps f t).length ≤ 3 := by rw [← hbad]; exact badTo_le _ _ _ _ _
        have HNB := Lib.hid hnb
        have K1 := Lib.hid (own_any s _ wr (HSV.out.bel HB.out) (by have := HS.out.n5; omega) (by have := HS.out.eats; omega))
        have HTRW := Lib.hid (show ∀ (n : Nat) (v : Value) (er : Int) (W : World), WrongV n s ps v er W → ∃ d, WrongO s ps (CSet.notRight s ps f t).length d v er W from fun n v er W h => by
          have := wrongO HS.out HTR.out (fun p hp => (hpok p hp).1.1) h
          rwa [HFD.out, HTD.out] at this)
        clear hlt hus hps hpl hpg hpok hbad hrl hrn hplns hlv hnb HVS HO HVL
        generalize (CSet.notRight s ps f t).length = many at *
        gi_wp2_with fail
        refine ⟨trivial, rfl, (callsW K1.out).mono ?_⟩
        rintro e wa ⟨va, rfl, hset, hb⟩
        have HBa := Lib.hid hb
        have HVa := Lib.hid hset
        clear hset hb K1 c0 c1 c2 c3
        gi_wp2_with fail
        refine ⟨trivial, rfl, (callsW (plansCopy_any _ ps wa (HPS.out.bel HBa.out) (by rw [HPL3.out]; omega) (fun p hp => ⟨(HPOK.out p hp).2, HRL.out p hp⟩))).mono ?_⟩
        rintro e wb ⟨vb, rfl, hplb, -, hb⟩
        have HPb := Lib.hid hplb
        have HVb := Lib.hid (HVa.out.bel hb)
        have HBb := Lib.hid (HBa.out.trans hb)
        clear hplb hb HVa
        gi_wp2_with fail
        refine ⟨trivial, rfl, (callsW (wrong_any s HS.out va vb ps wb HVb.out HPb.out (fun p hp => (HPOK.out p hp).1) (by rw [HPL3.out]; omega))).mono ?_⟩
        rintro e wc ⟨wv, F, rfl, hwv, hb⟩
        have hbc := HBb.out.trans hb
        obtain ⟨d, hd⟩ := HTRW.out _ _ _ _ hwv
        have HD := Lib.hid hd
        have HBc := Lib.hid hbc
        clear hwv hb hbc hd HPb HVb HBb HBa
        obtain ⟨ba, bc, rfl⟩ := cols_some' HD.out.cols
        gi_upto_region 11 with fail
        gi_cut [84] from 22 (fun z wx => z = .bool false ∧ wx = wc)
        case first =>
          as_aux_lemma =>
            have hun : ∀ b, (undef = Value.bool b) = False := fun b => by unfold undef; simp
            have hfew := HD.out.few
            have l3 : decide (many < d.length) = false := decide_eq_false (by omega)
            have l4 : decide ((d.length : Int) > (many : Int)) = false := decide_eq_false (by omega)
            rcases HD.out.how with ⟨rfl, hne⟩ | ⟨rfl, hnil⟩
            · have hl0 : (d.length == 0) = false := by rw [beq_eq_false_iff_ne]; exact fun h => hne (List.length_eq_zero_iff.1 h)
              have hl1 : ((d.length : Int) == 0) = false := by rw [beq_eq_false_iff_ne]; exact fun h => hne (List.length_eq_zero_iff.1 (by omega))
              have hl2 : ¬ d.length = 0 := fun h => hne (List.length_eq_zero_iff.1 h)
              clear hne hfew
              gi_wp2_with fail
              gi_meet
              case rel => exact ⟨rfl, rfl⟩
            · subst hnil
              simp only [List.length_nil]
              have l5 : decide ((many : Int) < 0) = false := decide_eq_false (by omega)
              clear hfew
              gi_wp2_with fail
              gi_meet
              case rel => exact ⟨rfl, rfl⟩
        case rest =>
          as_aux_lemma =>
            obtain ⟨rfl, rfl⟩ := hcut
            gi_wp2_with fail
            have HDL := Lib.hid (show d.length ≤ 3 from by have := HD.out.sub.length_le; rw [List.length_range, HPL3.out] at this; exact this)
            have HDA := Lib.hid (show Asc 3 d from ⟨fun c hc => by have := List.mem_range.1 (HD.out.sub.subset hc); rw [HPL3.out] at this; exact this, (List.pairwise_lt_range (n := ps.length)).sublist HD.out.sub⟩)
            gi_loopw [14] (fun i wr => ∃ k : Nat, k ≤ d.length ∧ i = .int .i64 k ∧ Bel wc wr) (fun i _ => d.length - (intOf i).toNat)
            case atStart => exact ⟨0, Nat.zero_le _, rfl, Bel.refl _⟩
            case round =>
              as_aux_lemma =>
                obtain ⟨k, hk, rfl, hb⟩ := hrel
                have HBJ := Lib.hid hb
                clear hb
                by_cases hkl : k < d.length
                · have m0 : decide (k < d.length) = true := decide_eq_true hkl
                  obtain ⟨bb, boff, rfl, bcell⟩ := (HD.out.cols.bel HBJ.out).cellAt hkl
                  have hz5 : d.getD k 0 < 3 := by rw [getD_lt _ _ _ hkl]; exact HDA.out.1 _ (List.getElem_mem hkl)
                  by_cases hk0 : k = 0
                  · subst hk0
                    generalize d.getD 0 0 = z at *
                    have bcell0 : wr.cell? ⟨bb, boff, none⟩ = some (.int .i64 z) := bcell
                    have q0 : decide ((z : Int) < 0) = false := decide_eq_false (by omega)
                    have q1 : decide ((z : Int) > 2) = false := decide_eq_false (by omega)
                    have q2 : decide ((2 : Int) < (z : Int)) = false := decide_eq_false (by omega)
                    simp only [Int.natCast_zero]
                    gi_wp2_with fail
                    gi_big_quiet (fail)
                    gi_wp2_with fail
                    go_roundw
                    case rel => exact ⟨1, by omega, by go_num, HBJ.out.trans (bel_drewN _ _)⟩
                    case measure => simp [intOf]; omega
                  · obtain ⟨b2, boff2, e2, bcell2⟩ := (HD.out.cols.bel HBJ.out).cellAt (j := k - 1) (by omega)
                    injection e2 with e2
                    injection e2 with e2 e3
                    subst e2 e3
                    have hzz : d.getD (k - 1) 0 < d.getD k 0 := by
                      rw [getD_lt _ _ _ hkl, getD_lt _ _ _ (show k - 1 < d.length by omega)]
                      exact List.pairwise_iff_getElem.1 HDA.out.2 (k - 1) k (by omega) hkl (by omega)
                    generalize d.getD k 0 = z at *
                    generalize d.getD (k - 1) 0 = z2 at *
                    obtain ⟨k, rfl⟩ : ∃ j, k = j + 1 := ⟨k - 1, by omega⟩
                    simp only [Nat.add_sub_cancel] at bcell2
                    have hlt2 : k < d.length := by omega
                    have hb5 : d.length ≤ 3 := HDL.out
                    have g0 : decide (((k + 1 : Nat) : Int) > 0) = true := decide_eq_true (by omega)
                    have g1 : decide ((0 : Int) < ((k + 1 : Nat) : Int)) = true := decide_eq_true (by omega)
                    have g2 : ((k + 1 : Nat) : Int) - 1 = (k : Int) := by omega
                    have g3 : decide ((z : Int) ≤ (z2 : Int)) = false := decide_eq_false (by omega)
                    have g4 : decide (z ≤ z2) = false := decide_eq_false (by omega)
                    have q0 : decide ((z : Int) < 0) = false := decide_eq_false (by omega)
                    have q1 : decide ((z : Int) > 2) = false := decide_eq_false (by omega)
                    have q2 : decide ((2 : Int) < (z : Int)) = false := decide_eq_false (by omega)
                    gi_wp2_with fail
                    gi_big_quiet (fail)
                    gi_wp2_with fail
                    go_roundw
                    case rel => exact ⟨k + 1 + 1, by omega, by go_num, HBJ.out.trans (bel_drewN _ _)⟩
                    case measure => simp [intOf]; omega
                · obtain rfl : k = d.length := by omega
                  gi_wp2_with fail
                  obtain ⟨w2, rfl⟩ : ∃ w2, w2 = wr := ⟨_, rfl⟩
                  gi_loopw [15] (fun i wr => ∃ k : Int, -1 ≤ k ∧ k ≤ d.length ∧ i = .int .i64 k ∧ Bel wc wr) (fun i _ => (d.length - intOf i).toNat)
                  case atStart => exact ⟨-1, by omega, by omega, rfl, HBJ.out⟩
                  case round =>
                    as_aux_lemma =>
                      obtain ⟨k, hk0, hk1, rfl, hb⟩ := hrel
                      have HB3 := Lib.hid hb
                      clear hb
                      by_cases hkl : k < d.length
                      · have h0 : decide (k < (d.length : Int)) = true := decide_eq_true hkl
                        have HLH := Lib.hid (leftOut_has (HDA.out.2.imp Nat.ne_of_lt) hk0 hkl)
                        have HLC := Lib.hid (leftOut_can HD.out.all HD.out.less hkl)
                        gi_wp2_with fail
                        obtain ⟨w3, rfl⟩ : ∃ w3, w3 = wr := ⟨_, rfl⟩
                        gi_loopw [16, 17] (fun rv i wr => ∃ j : Nat, j ≤ 3 ∧ i = .int .i64 j ∧ wr.ownsRow w3.heap.size 35 1 rv (keepTo (leftOut d k) j).length ((keepTo (leftOut d k) j).map fun i => us.getD i undef) ∧ Bel w3 wr) (fun _ i _ => 3 - (intOf i).toNat)
                        case atStart => exact ⟨0, Nat.zero_le _, rfl, World.ownsRow_made (base := w3.heap.size) (e := 35) (size := 1) w3 #[] 0 (Nat.le_refl _) (Nat.zero_le _) rfl, (Bel.refl _).alloc _⟩
                        case round =>
                          as_aux_lemma =>
                            obtain ⟨j, hj, rfl, ho, hb⟩ := hrel
                            have HO := Lib.hid ho
                            have HB4 := Lib.hid hb
                            have HKS := Lib.hid (keepTo_succ (leftOut d k) j)
                            have hkl2 := keepTo_len (leftOut d k) j
                            have HW := Lib.hid (HBc.out.trans (HB3.out.trans hb))
                            clear ho hb
                            by_cases hjl : j < 3
                            · have j0 : decide ((j : Int) < 3) = true := decide_eq_true (by omega)
                              have HLJ := Lib.hid (HLH.out j)
                              generalize leftOut d k = D at *
                              generalize keepTo D j = R at *
                              obtain ⟨lb, loff, rfl, lcell⟩ := HLV.out j hjl
                              replace lcell := HW.out.cell lcell
                              obtain ⟨ua, uc, hu⟩ : ∃ ua uc, us.getD j undef = .slice ua (ps.getD j []).length uc := by
                                obtain ⟨a, c, e, -⟩ := HRN.out j hjl
                                exact ⟨a, c, e⟩
                              generalize (ps.getD j []).length = un at *
                              have HU := Lib.hid hu
                              rw [hu] at lcell
                              clear hu
                              have HHC := Lib.hid (HD.out.cols.bel (HB3.out.trans HB4.out))
                              gi_wp2_with fail
                              refine ⟨trivial, rfl, (callsW (has_any _ d j wr HHC.out)).mono ?_⟩
                              rintro e w6 ⟨he, hw6⟩
                              obtain rfl : wr = w6 := hw6
                              subst he
                              cases hin : d.contains j with
                              | false =>
                                have HIN := Lib.hid (show D.contains j = false by rw [HLJ.out, hin]; rfl)
                                clear hin
                                have hm1 : R.length + 1 ≤ maxLen := by unfold maxLen; omega
                                have hm2 : (R.length + 1) * 24 ≤ 140737488355328 := by omega
                                have hm3 : w3.heap.size ≤ (wr.alloc (.cells #[.slice ua un uc] 35)).heap.size := by have := HB4.out.size; simp; omega
                                gi_wp2_with (gi_at_builtin; refine wpListIn_append_own _ rfl _ _ 73 rfl w3.heap.size 35 i0 (.slice none 0 0) 1 24 Try.underlying73 hi hz0 hz1 hz2 rfl (by decide) _ _ _ rfl (ownsRow_bel HO.out ((Bel.refl _).alloc (.cells #[.slice ua un uc] 35))) ⟨wr.heap.size, 0, none⟩ 1 1 [.slice ua un uc] rfl rfl (one_new _ _ _) (by simp [Value.oneCell']) hm1 hm2 hm3 ?_; intro v' w4 ho4 hg4 _; have HO5 := Lib.hid ho4; have HB5 := Lib.hid ((HB4.out.alloc _).grown hg4 (fun q hq => (HO.out.lt q hq).1)); clear ho4 hg4 hm3)
                                go_roundw
                                case rel =>
                                  refine ⟨j + 1, by omega, by go_num, ?_, HB5.out⟩
                                  rw [HKS.out, HIN.out]
                                  have h := HO5.out
                                  rw [← HU.out] at h
                                  simpa using h
                                case measure => simp [intOf]; omega
                              | true =>
                                by_cases hk : 0 ≤ k
                                · have g0 : decide (k ≥ 0) = true := decide_eq_true hk
                                  obtain ⟨kn, rfl⟩ : ∃ kn : Nat, k = (kn : Int) := ⟨k.toNat, by omega⟩
                                  have hkn : kn < d.length := by omega
                                  have hb5 : d.length ≤ 3 := HDL.out
                                  obtain ⟨db, doff, rfl, dcell⟩ := HHC.out.cellAt hkn
                                  have HLJ2 := Lib.hid (show D.contains j = !decide (d.getD kn 0 = j) by rw [HLJ.out, hin]; simp)
                                  generalize d.getD kn 0 = z at *
                                  by_cases hzj : z = j
                                  · subst hzj
                                    have HIN := Lib.hid (show D.contains z = false by rw [HLJ2.out]; simp)
                                    clear hin
                                    have hm1 : R.length + 1 ≤ maxLen := by unfold maxLen; omega
                                    have hm2 : (R.length + 1) * 24 ≤ 140737488355328 := by omega
                                    have hm3 : w3.heap.size ≤ (wr.alloc (.cells #[.slice ua un uc] 35)).heap.size := by have := HB4.out.size; simp; omega
                                    gi_wp2_with (gi_at_builtin; refine wpListIn_append_own _ rfl _ _ 73 rfl w3.heap.size 35 i0 (.slice none 0 0) 1 24 Try.underlying73 hi hz0 hz1 hz2 rfl (by decide) _ _ _ rfl (ownsRow_bel HO.out ((Bel.refl _).alloc (.cells #[.slice ua un uc] 35))) ⟨wr.heap.size, 0, none⟩ 1 1 [.slice ua un uc] rfl rfl (one_new _ _ _) (by simp [Value.oneCell']) hm1 hm2 hm3 ?_; intro v' w4 ho4 hg4 _; have HO5 := Lib.hid ho4; have HB5 := Lib.hid ((HB4.out.alloc _).grown hg4 (fun q hq => (HO.out.lt q hq).1)); clear ho4 hg4 hm3)
                                    go_roundw
                                    case rel =>
                                      refine ⟨z + 1, by omega, by go_num, ?_, HB5.out⟩
                                      rw [HKS.out, HIN.out]
                                      have h := HO5.out
                                      rw [← HU.out] at h
                                      simpa using h
                                    case measure => simp [intOf]; omega
                                  · have g1 : ((z : Int) == (j : Int)) = false := beq_eq_false_iff_ne.2 (by omega)
                                    have HIN := Lib.hid (show D.contains j = true by rw [HLJ2.out]; simp [hzj])
                                    clear hin
                                    gi_wp2_with fail
                                    go_roundw
                                    case rel =>
                                      refine ⟨j + 1, by omega, by go_num, ?_, HB4.out⟩
                                      rw [HKS.out, HIN.out]
                                      simpa using HO.out
                                    case measure => simp [intOf]; omega
                                · have g0 : decide (k ≥ 0) = false := decide_eq_false hk
                                  have g2 : decide (0 ≤ k) = false := decide_eq_false hk
                                  have HIN := Lib.hid (show D.contains j = true by rw [HLJ.out, hin, g2]; rfl)
                                  clear hin
                                  gi_wp2_with fail
                                  go_roundw
                                  case rel =>
                                    refine ⟨j + 1, by omega, by go_num, ?_, HB4.out⟩
                                    rw [HKS.out, HIN.out]
                                    simpa using HO.out
                                  case measure => simp [intOf]; omega
                            · obtain rfl : j = 3 := by omega
                              have hrest : Plns wr u16 ((keepTo (leftOut d k) 3).map fun i => ps.getD i []) := plns_of 3 HO.out (fun i hi => (HRN.out i hi).bel HW.out)
                              have htru : s.truly ((keepTo (leftOut d k) 3).map fun i => ps.getD i []) = decide (k < 0) := by
                                rw [← HLC.out]
                                unfold CSet.canDrop CSet.dropAt keepTo
                                rw [HPL3.out]
                              have hrok : ∀ q, q ∈ ((keepTo (leftOut d k) 3).map fun i => ps.getD i []) → q ∈ ps := fun q hq => by
                                obtain ⟨i, hi, rfl⟩ := List.mem_map.1 hq
                                have := keepTo_lt hi
                                rw [List.getD, List.getElem?_eq_getElem (by rw [HPL3.out]; exact this)]
                                exact List.getElem_mem _
                              have hrlen : ((keepTo (leftOut d k) 3).map fun i => ps.getD i []).length ≤ 3 := by rw [List.length_map]; exact keepTo_len _ _
                              obtain ⟨ra, rc, rfl⟩ := own_sln HO.out
                              have HRE := Lib.hid hrest
                              have HTRU := Lib.hid htru
                              have HROK := Lib.hid hrok
                              have HRLEN := Lib.hid hrlen
                              have HWW := Lib.hid (HB.out.trans HW.out)
                              clear hrest htru hrok hrlen HO HKS hkl2
                              have hmap : (keepTo (leftOut d k) 3).length = ((keepTo (leftOut d k) 3).map fun i => ps.getD i []).length := by rw [List.length_map]
                              rw [hmap] at HRE ⊢
                              clear hmap
                              generalize ((keepTo (leftOut d k) 3).map fun i => ps.getD i []) = rest at *
                              have K1 := Lib.hid (own_any s _ wr (HSV.out.bel HWW.out) (by have := HS.out.n5; omega) (by have := HS.out.eats; omega))
                              obtain ⟨c0, c1, c2, c3⟩ := HC.out.bel HWW.out
                              gi_wp2_with fail
                              refine ⟨trivial, rfl, (callsW K1.out).mono ?_⟩
                              rintro e wa ⟨va, rfl, hset, hb⟩
                              have HBa := Lib.hid hb
                              have HVa := Lib.hid hset
                              clear hset hb K1 c0 c1 c2 c3
                              gi_wp2_with fail
                              refine ⟨trivial, rfl, (callsW (plansCopy_any _ rest wa (HRE.out.bel HBa.out) (by have := HRLEN.out; omega) (fun p hp => ⟨(HPOK.out p (HROK.out p hp)).2, HRL.out p (HROK.out p hp)⟩))).mono ?_⟩
                              rintro e wb ⟨vb, rfl, hplb, -, hb⟩
                              have HPb := Lib.hid hplb
                              have HVb := Lib.hid (HVa.out.bel hb)
                              have HBb := Lib.hid (HBa.out.trans hb)
                              clear hplb hb HVa
                              gi_wp2_with fail
                              refine ⟨trivial, rfl, (callsW (told_any s HS.out va vb rest wb HVb.out HPb.out (fun p hp => (HPOK.out p (HROK.out p hp)).1) HRLEN.out)).mono ?_⟩
                              rintro e wt ⟨ta, tb, er, rfl, her, hb⟩
                              have HBt := Lib.hid (HB3.out.trans (HB4.out.trans (HBb.out.trans hb)))
                              rw [HTRU.out] at her
                              clear hb HPb HVb HBb HBa
                              by_cases hkn : k < 0
                              · rw [decide_eq_true hkn, if_pos rfl] at her
                                obtain ⟨rfl, -⟩ := her
                                have g0 : decide (k < 0) = true := decide_eq_true hkn
                                obtain rfl : k = -1 := by omega
                                gi_wp2_with fail
                                go_roundw
                                case rel => exact ⟨0, by omega, by omega, by go_num, HBt.out⟩
                                case measure => simp [intOf] <;> omega
                              · rw [decide_eq_false hkn, if_neg (by simp)] at her
                                obtain ⟨rfl, -⟩ := her
                                have g0 : decide (k < 0) = false := decide_eq_false hkn
                                have hb5 : d.length ≤ 3 := HDL.out
                                gi_wp2_with fail
                                go_roundw
                                case rel => exact ⟨k + 1, by omega, by omega, by go_num, HBt.out⟩
                                case measure => simp [intOf]; omega
                      · have h0 : decide (k < (d.length : Int)) = false := decide_eq_false hkl
                        gi_wp2_with fail
                        refine ⟨trivial, rfl, (callsW (known_any _)).mono ?_⟩
                        rintro e w6 ⟨rfl, hb⟩
                        have hfin := HSB.out.trans ((HB.out.trans (HBc.out.trans HB3.out)).trans hb)
                        gi_wp2_with fail
                        exact bodyPost_ret (v := .bool true) (by simp [results, Try.results7, go_sem]) rfl ⟨rfl, hfin⟩

end Go.Proofs.Ytpkadofgmhninaa
