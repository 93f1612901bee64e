/- ColourBarred returns true. -/
import Derived.Test.YtpkadofgmhninaaMade
import Derived.Test.YtpkadofgmhninaaPlans
import Derived.Test.YtpkadofgmhninaaKnown
import Derived.Sort.CutIn
import Derived.Sort.BigQuietIn
namespace Go.Proofs.Ytpkadofgmhninaa
open Go.RowKit
attribute [local go_sem] Oper.semAt_some

/-- The colours below k whose bit is set. -/
def bitsTo (y k : Nat) : List Nat := (List.range k).filter fun c => y / 2 ^ c % 2 == 1
theorem bitsTo_succ (y k : Nat) : bitsTo y (k + 1) = bitsTo y k ++ (if y / 2 ^ k % 2 = 1 then [k] else []) := by
  unfold bitsTo
  rw [List.range_succ, List.filter_append, List.filter_cons, List.filter_nil]
  by_cases h : y / 2 ^ k % 2 = 1 <;> simp [h]
theorem bitsTo_asc (y k : Nat) : Asc k (bitsTo y k) := ⟨fun _c hc => List.mem_range.1 (List.mem_filter.1 hc).1, List.Pairwise.filter _ (List.pairwise_lt_range (n := k))⟩
theorem bitsTo_len (y k : Nat) : (bitsTo y k).length ≤ k := by
  have := List.length_filter_le (fun c => y / 2 ^ c % 2 == 1) (List.range k)
  rw [List.length_range] at this; exact this
theorem plan_er {n : Nat} {s : CSet} {l : List Nat} {v : Value} {er : Int} {W : World} (h : PlanV n (s.planOf l) v er W) : er = if s.can l = true then 0 else 7 := by
  cases hc : s.can l with
  | false => rw [CSet.planOf_none.2 hc] at h; exact h.2
  | true =>
    cases hp : s.planOf l with
    | none => rw [CSet.planOf_none.1 hp] at hc; cases hc
    | some q => rw [hp] at h; exact h.2
/-- What Bar has answered. -/
structure BarO (s : CSet) (L bl : List Nat) (bv : Value) (F : Int) (W : World) : Prop where
  cols : Cols W bv bl
  sub : bl.Sublist L
  how : (s.can L = false ∧ F = 0 ∧ bl ≠ [] ∧ s.can bl = false ∧ ∀ y : List Nat, y.Sublist bl → y.length < bl.length → s.can y = true) ∨ (s.can L = true ∧ F = 6 ∧ bl = [])
theorem BarO.bel {s : CSet} {L bl : List Nat} {bv : Value} {F : Int} {A B : World} (h : BarO s L bl bv F A) (q : Bel A B) : BarO s L bl bv F B := ⟨h.cols.bel q, h.sub, h.how⟩
theorem barO {n : Nat} {s : CSet} (hs : s.Ok) {L : List Nat} {v : Value} {er : Int} {W : World} (h : BarV n s L v er W) : ∃ bl, BarO s L bl v er W := by
  unfold BarV at h
  cases hc : s.can L with
  | true =>
    rw [if_pos hc] at h
    obtain ⟨rfl, rfl⟩ := h
    exact ⟨[], Ints.nil W, List.nil_sublist _, .inr ⟨hc, rfl, rfl⟩⟩
  | false =>
    rw [if_neg (by rw [hc]; simp)] at h
    obtain ⟨h1, rfl⟩ := h
    obtain ⟨bar, e, h2, h3, h4, h5⟩ := CSet.bar_some hs hc
    rw [e] at h1
    exact ⟨bar, h1.1, h3, .inl ⟨hc, rfl, h2, h4, h5⟩⟩

/-- A copy of a row onto an empty one. -/
theorem cols_some {W : World} {v : Value} {l : List Nat} (h : Cols W v l) : ∃ a c, v = .slice a l.length c := by
  obtain ⟨a, c, e, -⟩ := h
  rw [List.length_map] at e
  exact ⟨a, c, e⟩

theorem B5s.bel {A B : World} (q : Bel A B) {v : Value} {bs : List B5} (h : B5s A v bs) : B5s B v bs := by
  obtain ⟨a, c, e, h1⟩ := h
  refine ⟨a, c, e, fun j hj => ?_⟩
  obtain ⟨b, off, e', k0, k1, k2, k3, k4⟩ := h1 j hj
  exact ⟨b, off, e', q.cell k0, q.cell k1, q.cell k2, q.cell k3, q.cell k4⟩
theorem B2s.bel {A B : World} (q : Bel A B) {v : Value} {bs : List (Nat × Nat)} (h : B2s A v bs) : B2s B v bs := by
  obtain ⟨a, c, e, h1⟩ := h
  refine ⟨a, c, e, fun j hj => ?_⟩
  obtain ⟨b, off, e', k0, k1⟩ := h1 j hj
  exact ⟨b, off, e', q.cell k0, q.cell k1⟩

theorem bit_and1 : ∀ a : Fin 256, bits BinOp.and IntKind.u8 ((a.val : Nat) : Int) 1 = ((a.val % 2 : Nat) : Int) := by decide +kernel
theorem bit_at (y c : Nat) (hy : y < 256) : bits BinOp.and IntKind.u8 ((y : Int) / 2 ^ c) 1 = ((y / 2 ^ c % 2 : Nat) : Int) := by
  have h : (y : Int) / 2 ^ c = ((y / 2 ^ c : Nat) : Int) := by push_cast; rfl
  have hl : y / 2 ^ c < 256 := Nat.lt_of_le_of_lt (Nat.div_le_self _ _) hy
  rw [h]
  exact bit_and1 ⟨_, hl⟩
theorem bit_yes {y c : Nat} (hy : y < 256) (h : y / 2 ^ c % 2 = 1) : (bits BinOp.and IntKind.u8 ((y : Int) / 2 ^ c) 1 == 1) = true := by rw [bit_at y c hy, h]; rfl
theorem bit_no {y c : Nat} (hy : y < 256) (h : ¬ y / 2 ^ c % 2 = 1) : (bits BinOp.and IntKind.u8 ((y : Int) / 2 ^ c) 1 == 1) = false := by
  have h0 : y / 2 ^ c % 2 = 0 := by omega
  rw [bit_at y c hy, h0]; rfl

theorem has_quiet {v : Value} {l : List Nat} {x : Nat} {b : Bool} {w : World} (h : Cols w v l) (hb : l.contains x = b) (m n : Nat) :
    CallsIn Fence.wide m Try.prog 24 #[v, .int .i64 (x : Int)] (w.drewN n) fun e w' => e = .returned (.bool b) ∧ ∃ k, w' = w.drewN k :=
  CallsIn.quiet_of_same ((callsW (has_any v l x (w.drewN n) (h.bel (bel_drewN _ _)))).mono fun e w' q => ⟨by rw [← hb]; exact q.1, q.2.symm⟩)

/-- The first j elements of a list, without that of number k. -/
def restTo (l : List Nat) (k : Int) (j : Nat) : List Nat := ((List.range j).filter fun (i : Nat) => (i : Int) != k).map fun i => l.getD i 0
theorem restTo_succ (l : List Nat) (k : Int) (j : Nat) : restTo l k (j + 1) = restTo l k j ++ (if (j : Int) = k then [] else [l.getD j 0]) := by
  unfold restTo
  rw [List.range_succ, List.filter_append, List.map_append, List.filter_cons, List.filter_nil]
  congr 1
  by_cases h : (j : Int) = k
  · rw [if_pos h]; simp [h]
  · rw [if_neg h, if_pos (by rw [bne_iff_ne]; exact h)]; rfl
theorem restTo_len (l : List Nat) (k : Int) (j : Nat) : (restTo l k j).length ≤ j := by
  unfold restTo
  rw [List.length_map]
  have := List.length_filter_le (fun i : Nat => (i : Int) != k) (List.range j)
  rw [List.length_range] at this; exact this
theorem restTo_all (l : List Nat) {k : Int} (hk : k < 0) : restTo l k l.length = l := by
  unfold restTo
  rw [List.filter_eq_self.2 (fun i _ => by rw [bne_iff_ne]; omega)]
  apply List.ext_getElem?
  intro j
  rw [List.getElem?_map]
  by_cases hj : j < l.length
  · rw [List.getElem?_range hj, List.getElem?_eq_getElem hj]; simp [List.getD, List.getElem?_eq_getElem hj]
  · rw [List.getElem?_eq_none (by rw [List.length_range]; omega), List.getElem?_eq_none (Nat.le_of_not_lt hj)]; rfl
theorem restTo_but (l : List Nat) (k : Nat) : restTo l (k : Int) l.length = CSet.butAt l k := by
  unfold restTo CSet.butAt
  congr 1
  apply List.filter_congr
  intro i _
  by_cases h : i = k
  · subst h; simp
  · rw [show ((i : Int) != (k : Int)) = true by rw [bne_iff_ne]; omega, show (i != k) = true by rw [bne_iff_ne]; exact h]
/-- All of the bar, or all of it but one. -/
theorem rest_whole {s : CSet} {l bl : List Nat} {k : Int} (_hne : bl ≠ []) (hbc : s.can bl = false) (hless : ∀ y : List Nat, y.Sublist bl → y.length < bl.length → s.can y = true) (hk0 : -1 ≤ k) (hk : k < bl.length) (hl : bl.Sublist l) :
    (restTo bl k bl.length).Sublist l ∧ s.can (restTo bl k bl.length) = decide (0 ≤ k) := by
  by_cases h : k < 0
  · rw [restTo_all bl h]
    exact ⟨hl, by rw [hbc]; symm; exact decide_eq_false (by omega)⟩
  · obtain ⟨n, rfl⟩ : ∃ n : Nat, k = (n : Int) := ⟨k.toNat, by omega⟩
    rw [restTo_but]
    obtain ⟨h1, h2⟩ := CSet.butAt_lt (l := bl) (k := n) (by omega)
    exact ⟨h2.trans hl, by rw [hless _ h2 h1]; symm; exact decide_eq_true (by omega)⟩

/-- The colours below k that are c or in l. -/
def moreTo (l : List Nat) (c k : Nat) : List Nat := (List.range k).filter fun q => q == c || l.contains q
theorem moreTo_succ (l : List Nat) (c k : Nat) : moreTo l c (k + 1) = moreTo l c k ++ (if (k == c || l.contains k) = true then [k] else []) := by
  unfold moreTo
  rw [List.range_succ, List.filter_append, List.filter_cons, List.filter_nil]
theorem moreTo_len (l : List Nat) (c k : Nat) : (moreTo l c k).length ≤ k := by
  have := List.length_filter_le (fun q => q == c || l.contains q) (List.range k)
  rw [List.length_range] at this; exact this
theorem moreTo_asc (l : List Nat) (c k : Nat) : Asc k (moreTo l c k) := ⟨fun _q hq => List.mem_range.1 (List.mem_filter.1 hq).1, List.Pairwise.filter _ (List.pairwise_lt_range (n := k))⟩
theorem with_not {s : CSet} {l : List Nat} {c : Nat} (h : l.contains c = true) : (s.withOf l).contains c = false := by
  rw [Bool.eq_false_iff]
  intro hc
  rw [List.contains_eq_mem, decide_eq_true_eq] at hc
  unfold CSet.withOf at hc
  have := (List.mem_filter.1 hc).2
  rw [h] at this
  simp at this
theorem with_asc {s : CSet} {l : List Nat} : Asc s.paints.length (s.withOf l) := ⟨fun _q hq => List.mem_range.1 (List.mem_filter.1 hq).1, List.Pairwise.filter _ (List.pairwise_lt_range (n := s.paints.length))⟩

set_option maxRecDepth 100000 in
set_option maxHeartbeats 16000000 in
theorem barred_any (x : Shelf) (hx : x.Ok) (y : Nat) (hy : y < 256) (v : Value) (w : World) (hv : ShelfV w v x) :
    Calls Try.prog 5 #[v, .int .u8 (y : Int)] w fun e w' => e = .returned (.bool true) ∧ Bel w w' := by
  obtain ⟨i0, hi, hz0, hz1, hz2⟩ := info_parts Try.info3
  obtain ⟨pv, ev, rfl, ⟨pa, pc, rfl, hpc⟩, ⟨ea, ec, rfl, hec⟩⟩ := hv
  have KM := Lib.hid (fun W (hW : Bel w W) => made_any x hx _ W ⟨_, _, rfl, B5s.bel hW ⟨pa, pc, rfl, hpc⟩, B2s.bel hW ⟨ea, ec, rfl, hec⟩⟩)
  have hs := Shelf.set_ok hx
  have HS := Lib.hid hs
  clear hpc hec hx hs
  generalize x.set = s at *
  have hw0 := C4.new w (.int .u8 x.r0) (.int .u8 x.r1) (.slice pa x.paints.length pc) (.slice ea x.eats.length ec) 26
  obtain ⟨c0, c1, c2, c3⟩ := hw0
  refine (callsIn_wide (n := 0)).1 (callsIn_of_wp Try.func5 rfl trivial ?_ rfl)
  simp only [Try.ntmps5, List.size_toArray, List.length_cons, List.length_nil, Nat.reduceAdd, Nat.reduceSub, Array.replicate_succ, Array.replicate_zero, List.push_toArray, List.append_toArray, List.nil_append, List.cons_append]
  gi_wp2_with fail
  refine ⟨trivial, rfl, (callsW (KM.out _ ((Bel.refl w).alloc _))).mono ?_⟩
  rintro e w1 ⟨sv, hv, tv, rfl, hset, -, -, hb⟩
  obtain ⟨pv, ev, rfl, h1, h2⟩ := hset
  have HP := Lib.hid h1
  have HE := Lib.hid h2
  obtain ⟨qa, qc, rfl, -, -, -, -⟩ := h1
  obtain ⟨da, dc, rfl, -, -, -, -⟩ := h2
  have HB1 := Lib.hid (((Bel.refl w).alloc _).trans hb)
  clear hb c0 c1 c2 c3 KM
  gi_wp2_with fail
  have hw1 : C4 (w1.alloc (.cells #[.slice qa s.paints.length qc, .int .i64 s.near, .int .i64 s.give, .slice da s.eats.length dc] 31)) w1.heap.size (.slice qa s.paints.length qc) (.int .i64 s.near) (.int .i64 s.give) (.slice da s.eats.length dc) := C4.new _ _ _ _ _ _
  obtain ⟨W1, hW1⟩ : ∃ W1, w1.alloc (.cells #[.slice qa s.paints.length qc, .int .i64 s.near, .int .i64 s.give, .slice da s.eats.length dc] 31) = W1 := ⟨_, rfl⟩
  have hsz : W1.heap.size = w1.heap.size + 1 := by rw [← hW1]; simp
  have HB2 := Lib.hid (show Bel w1 W1 by rw [← hW1]; exact (Bel.refl _).alloc _)
  rw [hW1] at hw1 ⊢
  rw [← hsz]
  have HC := Lib.hid hw1
  have HSB := Lib.hid (show Bel w W1 from HB1.out.trans HB2.out)
  have HSV := Lib.hid (show SetV W1 (.agg #[.slice qa s.paints.length qc, .int .i64 s.near, .int .i64 s.give, .slice da s.eats.length dc]) s from ⟨_, _, rfl, HP.out.bel HB2.out, HE.out.bel HB2.out⟩)
  clear hW1 hsz hw1 HP HE HB2 HB1
  generalize w1.heap.size = B at *
  clear w1
  gi_loopw [8, 9] (fun lv i wr => ∃ c : Nat, c ≤ s.paints.length ∧ i = .int .i64 c ∧ wr.ownsRow W1.heap.size 3 1 lv (bitsTo y c).length (valsOf (bitsTo y c)) ∧ Bel W1 wr) (fun _ i _ => s.paints.length - (intOf i).toNat)
  case atStart =>
    exact ⟨0, Nat.zero_le _, rfl, World.ownsRow_made (base := W1.heap.size) (e := 3) (size := 1) W1 #[] 0 (Nat.le_refl _) (Nat.zero_le _) rfl, (Bel.refl _).alloc _⟩
  case round =>
    as_aux_lemma =>
      obtain ⟨c, hc, rfl, ho, hb⟩ := hrel
      have HO := Lib.hid ho
      have HB := Lib.hid hb
      obtain ⟨c0, c1, c2, c3⟩ := HC.out.bel hb
      have hn5 := HS.out.n5
      clear ho hb
      by_cases hlt : c < s.paints.length
      · have h0 : decide (c < s.paints.length) = true := decide_eq_true hlt
        by_cases hbit : y / 2 ^ c % 2 = 1
        · have h1 := bit_yes hy hbit
          have hm1 : (bitsTo y c).length + 1 ≤ maxLen := by have := bitsTo_len y c; unfold maxLen; omega
          have hm2 : ((bitsTo y c).length + 1) * 8 ≤ 140737488355328 := by have := bitsTo_len y c; omega
          have hm3 : W1.heap.size ≤ (wr.alloc (.cells #[.int .i64 (c : Int)] 3)).heap.size := by have := HB.out.size; simp; omega
          have HBS := Lib.hid (bitsTo_succ y c)
          have HBIT := Lib.hid hbit
          clear hbit
          generalize bitsTo y c = R at *
          gi_wp2_with (gi_at_builtin; refine wpListIn_append_own _ rfl _ _ 32 rfl W1.heap.size 3 i0 (.int .i64 0) 1 8 Try.underlying32 hi hz0 hz1 hz2 rfl (by decide) _ _ _ rfl (ownsRow_bel HO.out ((Bel.refl _).alloc _)) ⟨wr.heap.size, 0, none⟩ 1 1 [.int .i64 (c : Int)] rfl rfl (one_new _ _ _) (by simp [Value.oneCell']) hm1 hm2 hm3 ?_; intro v' w3 hown2 hgrow _; have HO2 := Lib.hid hown2; have HB3 := Lib.hid ((HB.out.alloc _).grown hgrow (fun k hk => (HO.out.lt k hk).1)); clear hown2 hgrow hm3)
          go_roundw
          case rel =>
            refine ⟨c + 1, by omega, by go_num, ?_, HB3.out⟩
            rw [HBS.out, if_pos HBIT.out]
            simpa [valsOf] using HO2.out
          case measure => simp [intOf]; omega
        · have h1 := bit_no hy hbit
          have HBS := Lib.hid (bitsTo_succ y c)
          have HBIT := Lib.hid hbit
          clear hbit
          gi_wp2_with fail
          go_roundw
          case rel =>
            refine ⟨c + 1, by omega, by go_num, ?_, HB.out⟩
            rw [HBS.out, if_neg HBIT.out, List.append_nil]
            exact HO.out
          case measure => simp [intOf]; omega
      · obtain rfl : c = s.paints.length := by omega
        have hcol : Cols wr u8 (bitsTo y s.paints.length) := own_cols HO.out
        have hasc := bitsTo_asc y s.paints.length
        generalize bitsTo y s.paints.length = L at *
        obtain ⟨la, lc, rfl⟩ := own_sln HO.out
        have HL := Lib.hid hcol
        have HA := Lib.hid hasc
        clear hcol hasc hlt hc
        have hlen : L.length ≤ 5 := Nat.le_trans HA.out.len hn5
        have HLEN := Lib.hid hlen
        clear HO hlen hn5 c0 c1 c2 c3
        have K1 := Lib.hid (own_any s _ wr (HSV.out.bel HB.out) (by have := HS.out.n5; omega) (by have := HS.out.eats; omega))
        obtain ⟨c0, c1, c2, c3⟩ := HC.out.bel HB.out
        gi_wp2_with fail
        refine ⟨trivial, rfl, (callsW K1.out).mono ?_⟩
        rintro e wa1 ⟨va1, rfl, hset, hb⟩
        have HBa1 := Lib.hid (HB.out.trans hb)
        have HLa1 := Lib.hid ((HL.out.bel hb).bel ((Bel.refl _).alloc (.cells #[] 3)))
        have HV1 := Lib.hid hset
        have HBx1 := Lib.hid (hb.alloc (.cells #[] 3))
        clear hset hb K1 c0 c1 c2 c3
        gi_wp2_with (gi_at_builtin; refine wpListIn_append_empty rfl _ _ 32 rfl 3 i0 _ 1 8 Try.underlying32 hi hz0 hz1 hz2 wa1.heap.size _ _ _ rfl rfl (valsOf L) (by simp [valsOf]) (cols_news HLa1.out).2.2 (cols_news HLa1.out).2.1 (by have := HLEN.out; omega) (by decide) ?_; intro gb1 cap1 wb1 hb h1 h2 h3; have HCb1 := Lib.hid (cols_new (l := L) rfl h1 h2 h3); have HBb1 := Lib.hid ((HBa1.out.alloc _).trans hb); have HVb1 := Lib.hid ((HV1.out.bel ((Bel.refl _).alloc _)).bel hb); have HLb1 := Lib.hid (HLa1.out.bel hb); have HBm1 := Lib.hid (HBx1.out.trans hb); clear hb h1 h2 h3)
        refine ⟨trivial, rfl, (callsW (plan_any s HS.out va1 _ L wb1 HVb1.out HCb1.out HA.out)).mono ?_⟩
        rintro e wc1 ⟨r1, er1, rfl, hpl, hb⟩
        have HBc1 := Lib.hid (HBb1.out.trans hb)
        replace HL := Lib.hid (HLb1.out.bel hb)
        have HE1 := Lib.hid (plan_er hpl)
        clear hpl
        clear HBa1 HLa1 HV1 HCb1 HBb1 HVb1 HLb1 HBx1 HBm1 hb
        have K2 := Lib.hid (own_any s _ wc1 (HSV.out.bel HBc1.out) (by have := HS.out.n5; omega) (by have := HS.out.eats; omega))
        obtain ⟨c0, c1, c2, c3⟩ := HC.out.bel HBc1.out
        gi_wp2_with fail
        refine ⟨trivial, rfl, (callsW K2.out).mono ?_⟩
        rintro e wa2 ⟨va2, rfl, hset, hb⟩
        have HBa2 := Lib.hid (HBc1.out.trans hb)
        have HLa2 := Lib.hid ((HL.out.bel hb).bel ((Bel.refl _).alloc (.cells #[] 3)))
        have HV2 := Lib.hid hset
        have HBx2 := Lib.hid (hb.alloc (.cells #[] 3))
        clear hset hb K2 c0 c1 c2 c3
        gi_wp2_with (gi_at_builtin; refine wpListIn_append_empty rfl _ _ 32 rfl 3 i0 _ 1 8 Try.underlying32 hi hz0 hz1 hz2 wa2.heap.size _ _ _ rfl rfl (valsOf L) (by simp [valsOf]) (cols_news HLa2.out).2.2 (cols_news HLa2.out).2.1 (by have := HLEN.out; omega) (by decide) ?_; intro gb2 cap2 wb2 hb h1 h2 h3; have HCb2 := Lib.hid (cols_new (l := L) rfl h1 h2 h3); have HBb2 := Lib.hid ((HBa2.out.alloc _).trans hb); have HVb2 := Lib.hid ((HV2.out.bel ((Bel.refl _).alloc _)).bel hb); have HLb2 := Lib.hid (HLa2.out.bel hb); have HBm2 := Lib.hid (HBx2.out.trans hb); clear hb h1 h2 h3)
        refine ⟨trivial, rfl, (callsW (bar_any s HS.out va2 _ L wb2 HVb2.out HCb2.out HA.out)).mono ?_⟩
        rintro e wc2 ⟨bv, F, rfl, hpl, hb⟩
        have HBc2 := Lib.hid (HBb2.out.trans hb)
        replace HL := Lib.hid (HLb2.out.bel hb)
        obtain ⟨bl, hbl⟩ := barO HS.out hpl
        have HBO := Lib.hid hbl
        clear hpl hbl
        clear HBa2 HLa2 HV2 HCb2 HBb2 HVb2 HLb2 HBx2 HBm2 hb
        have K3 := Lib.hid (own_any s _ wc2 (HSV.out.bel HBc2.out) (by have := HS.out.n5; omega) (by have := HS.out.eats; omega))
        obtain ⟨c0, c1, c2, c3⟩ := HC.out.bel HBc2.out
        gi_wp2_with fail
        refine ⟨trivial, rfl, (callsW K3.out).mono ?_⟩
        rintro e wa3 ⟨va3, rfl, hset, hb⟩
        have HBa3 := Lib.hid (HBc2.out.trans hb)
        have HLa3 := Lib.hid ((HL.out.bel hb).bel ((Bel.refl _).alloc (.cells #[] 3)))
        have HV3 := Lib.hid hset
        have HBx3 := Lib.hid (hb.alloc (.cells #[] 3))
        clear hset hb K3 c0 c1 c2 c3
        gi_wp2_with (gi_at_builtin; refine wpListIn_append_empty rfl _ _ 32 rfl 3 i0 _ 1 8 Try.underlying32 hi hz0 hz1 hz2 wa3.heap.size _ _ _ rfl rfl (valsOf L) (by simp [valsOf]) (cols_news HLa3.out).2.2 (cols_news HLa3.out).2.1 (by have := HLEN.out; omega) (by decide) ?_; intro gb3 cap3 wb3 hb h1 h2 h3; have HCb3 := Lib.hid (cols_new (l := L) rfl h1 h2 h3); have HBb3 := Lib.hid ((HBa3.out.alloc _).trans hb); have HVb3 := Lib.hid ((HV3.out.bel ((Bel.refl _).alloc _)).bel hb); have HLb3 := Lib.hid (HLa3.out.bel hb); have HBm3 := Lib.hid (HBx3.out.trans hb); clear hb h1 h2 h3)
        refine ⟨trivial, rfl, (callsW (with_any s HS.out va3 _ L wb3 HVb3.out HCb3.out HA.out)).mono ?_⟩
        rintro e wc3 ⟨wv, rfl, hpl, hb⟩
        have HBc3 := Lib.hid (HBb3.out.trans hb)
        replace HL := Lib.hid (HLb3.out.bel hb)
        have HWV := Lib.hid hpl
        have HBO := Lib.hid (HBO.out.bel (((HBm3.out)).trans hb))
        clear hpl
        clear HBa3 HLa3 HV3 HCb3 HBb3 HVb3 HLb3 HBx3 HBm3 hb
        obtain ⟨ba, bc, rfl⟩ := cols_some HBO.out.cols
        obtain ⟨xa, xc, rfl⟩ := cols_some HWV.out
        gi_upto_region 11 with fail
        gi_cut [117] from 28 (fun z wx => z = .bool false ∧ wx = wc3)
        case first =>
          as_aux_lemma =>
            have he := HE1.out
            have hun : ∀ b, (undef = Value.bool b) = False := fun b => by unfold undef; simp
            rcases HBO.out.how with ⟨hcan, rfl, hne, -, -⟩ | ⟨hcan, rfl, hnil⟩
            · rw [hcan] at he
              simp only [Bool.false_eq_true, if_false] at he
              subst he
              have hl0 : (bl.length == 0) = false := by rw [beq_eq_false_iff_ne]; exact fun h => hne (List.length_eq_zero_iff.1 h)
              have hl1 : ((bl.length : Int) == 0) = false := by rw [beq_eq_false_iff_ne]; exact fun h => hne (List.length_eq_zero_iff.1 (by omega))
              have hl2 : ¬ bl.length = 0 := fun h => hne (List.length_eq_zero_iff.1 h)
              clear hne hcan
              gi_wp2_with fail
              gi_meet
              case rel => exact ⟨rfl, rfl⟩
            · rw [hcan] at he
              simp only [if_true] at he
              subst he hnil
              simp only [List.length_nil]
              gi_wp2_with fail
              gi_meet
              case rel => exact ⟨rfl, rfl⟩
        case rest =>
          as_aux_lemma =>
            obtain ⟨rfl, rfl⟩ := hcut
            gi_wp2_with fail
            have HBL := Lib.hid (show bl.length ≤ 5 from Nat.le_trans HBO.out.sub.length_le HLEN.out)
            have HBM := Lib.hid (show ∀ i, i < bl.length → L.contains (bl.getD i 0) = true from fun i hi => by
              rw [List.contains_eq_mem, getD_lt _ _ _ hi]; exact decide_eq_true (HBO.out.sub.subset (List.getElem_mem hi)))
            have HBA := Lib.hid (show ∀ i, i < bl.length → 0 < i → bl.getD (i - 1) 0 < bl.getD i 0 from fun i hi h0 => by
              rw [getD_lt _ _ _ hi, getD_lt _ _ _ (show i - 1 < bl.length by omega)]
              exact List.pairwise_iff_getElem.1 (HA.out.2.sublist HBO.out.sub) (i - 1) i (by omega) hi (by omega))
            gi_loopw [16] (fun i wr => ∃ k : Nat, k ≤ bl.length ∧ i = .int .i64 k ∧ Bel wc wr) (fun i _ => bl.length - (intOf i).toNat)
            case atStart => exact ⟨0, Nat.zero_le _, rfl, Bel.refl _⟩
            case round =>
              as_aux_lemma =>
                obtain ⟨k, hk, rfl, hb⟩ := hrel
                have HB := Lib.hid hb
                clear hb
                by_cases hlt : k < bl.length
                · have h0 : decide (k < bl.length) = true := decide_eq_true hlt
                  obtain ⟨bb, boff, rfl, bcell⟩ := (HBO.out.cols.bel HB.out).cellAt hlt
                  have KH := Lib.hid (has_quiet (HL.out.bel HB.out) (HBM.out k hlt))
                  generalize hbk : bl.getD k 0 = z at *
                  by_cases hk0 : k = 0
                  · subst hk0
                    have bcell0 : wr.cell? ⟨bb, boff, none⟩ = some (.int .i64 z) := bcell
                    simp only [Int.natCast_zero]
                    gi_wp2_with fail
                    have kh := KH.out
                    refine wpIn_region_quiet_lit rfl (by kernel_rfl) (by kernel_rfl) ?_
                    repeat (gi_big_quiet_step (fail))
                    refine BigFrame.wpQuietIn_want (fun _ _ _ _ => trivial) rfl (fun K hK => ?_)
                    gi_big_quiet_op
                    refine ⟨_, fun _ => ⟨rfl, kh _ _⟩, ?_⟩
                    refine hK _ ?_
                    clear hK K
                    repeat (gi_big_quiet_step (fail))
                    refine wpQuietIn_nil ?_
                    intro _ hw'
                    obtain ⟨nq, rfl⟩ := hw'
                    gi_wp2_with fail
                    go_roundw
                    case rel => exact ⟨1, by omega, by go_num, HB.out.trans (bel_drewN _ _)⟩
                    case measure => simp [intOf]; omega
                  · obtain ⟨b2, boff2, e2, bcell2⟩ := (HBO.out.cols.bel HB.out).cellAt (j := k - 1) (by omega)
                    injection e2 with e2
                    injection e2 with e2 e3
                    subst e2 e3
                    have hzz := HBA.out k hlt (by omega)
                    rw [hbk] at hzz
                    generalize bl.getD (k - 1) 0 = z2 at *
                    obtain ⟨k, rfl⟩ : ∃ j, k = j + 1 := ⟨k - 1, by omega⟩
                    simp only [Nat.add_sub_cancel] at bcell2
                    have hlt2 : k < bl.length := by omega
                    have hb5 : bl.length ≤ 5 := HBL.out
                    have g0 : decide (((k + 1 : Nat) : Int) > 0) = true := decide_eq_true (by omega)
                    have g1 : decide ((0 : Int) < ((k + 1 : Nat) : Int)) = true := decide_eq_true (by omega)
                    have g2 : ((k + 1 : Nat) : Int) - 1 = (k : Int) := by omega
                    have g3 : decide ((z : Int) ≤ (z2 : Int)) = false := decide_eq_false (by omega)
                    have g4 : decide (z ≤ z2) = false := decide_eq_false (by omega)
                    gi_wp2_with fail
                    have kh := KH.out
                    refine wpIn_region_quiet_lit rfl (by kernel_rfl) (by kernel_rfl) ?_
                    repeat (gi_big_quiet_step (fail))
                    refine BigFrame.wpQuietIn_want (fun _ _ _ _ => trivial) rfl (fun K hK => ?_)
                    gi_big_quiet_op
                    refine ⟨_, fun _ => ⟨rfl, kh _ _⟩, ?_⟩
                    refine hK _ ?_
                    clear hK K
                    repeat (gi_big_quiet_step (fail))
                    refine wpQuietIn_nil ?_
                    intro _ hw'
                    obtain ⟨nq, rfl⟩ := hw'
                    gi_wp2_with fail
                    go_roundw
                    case rel => exact ⟨k + 1 + 1, by omega, by go_num, HB.out.trans (bel_drewN _ _)⟩
                    case measure => simp [intOf]; omega
                · obtain rfl : k = bl.length := by omega
                  gi_wp2_with fail
                  obtain ⟨w2, rfl⟩ : ∃ w2, w2 = wr := ⟨_, rfl⟩
                  gi_loopw [17] (fun i wr => ∃ k : Int, -1 ≤ k ∧ k ≤ bl.length ∧ i = .int .i64 k ∧ Bel wc wr) (fun i _ => (bl.length - intOf i).toNat)
                  case atStart => exact ⟨-1, by omega, by omega, rfl, HB.out⟩
                  case round =>
                    as_aux_lemma =>
                      obtain ⟨k, hk0, hk, rfl, hb⟩ := hrel
                      have HB := Lib.hid hb
                      clear hb
                      by_cases hgo : k < bl.length ∧ F = 0
                      · obtain ⟨hlt, hF⟩ := hgo
                        have h0 : decide (k < (bl.length : Int)) = true := decide_eq_true hlt
                        rcases HBO.out.how with ⟨hcan, -, hne, hbc, hless⟩ | ⟨hcan, h6, hnil⟩
                        · have HNE := Lib.hid hne
                          have HBC := Lib.hid hbc
                          have HLESS := Lib.hid hless
                          subst hF
                          clear hne hbc hless hcan
                          gi_wp2_with fail
                          obtain ⟨w3, rfl⟩ : ∃ w3, w3 = wr := ⟨_, rfl⟩
                          gi_loopw [18, 19] (fun rv i wr => ∃ j : Nat, j ≤ bl.length ∧ i = .int .i64 j ∧ wr.ownsRow w3.heap.size 3 1 rv (restTo bl k j).length (valsOf (restTo bl k j)) ∧ Bel w3 wr) (fun _ i _ => bl.length - (intOf i).toNat)
                          case atStart => exact ⟨0, Nat.zero_le _, rfl, World.ownsRow_made (base := w3.heap.size) (e := 3) (size := 1) w3 #[] 0 (Nat.le_refl _) (Nat.zero_le _) rfl, (Bel.refl _).alloc _⟩
                          case round =>
                            as_aux_lemma =>
                              obtain ⟨j, hj, rfl, ho, hb⟩ := hrel
                              have HO := Lib.hid ho
                              have HBJ := Lib.hid hb
                              have HRS := Lib.hid (restTo_succ bl k j)
                              have hrl := restTo_len bl k j
                              clear ho hb
                              by_cases hjl : j < bl.length
                              · have j0 : decide (j < bl.length) = true := decide_eq_true hjl
                                have hb5 : bl.length ≤ 5 := HBL.out
                                obtain ⟨bb, boff, rfl, bcell⟩ := (HBO.out.cols.bel (HB.out.trans HBJ.out)).cellAt hjl
                                generalize bl.getD j 0 = z at *
                                generalize restTo bl k j = R at *
                                by_cases hjk : (j : Int) = k
                                · have j1 : ((j : Int) != k) = false := by rw [hjk]; simp
                                  have HJK := Lib.hid hjk
                                  clear hjk
                                  gi_wp2_with fail
                                  go_roundw
                                  case rel =>
                                    refine ⟨j + 1, by omega, by go_num, ?_, HBJ.out⟩
                                    rw [HRS.out, if_pos HJK.out, List.append_nil]; exact HO.out
                                  case measure => simp [intOf]; omega
                                · have j1 : ((j : Int) != k) = true := by rw [bne_iff_ne]; exact hjk
                                  have HJK := Lib.hid hjk
                                  have hm1 : R.length + 1 ≤ maxLen := by unfold maxLen; omega
                                  have hm2 : (R.length + 1) * 8 ≤ 140737488355328 := by omega
                                  have hm3 : w3.heap.size ≤ (wr.alloc (.cells #[.int .i64 (z : Int)] 3)).heap.size := by have := HBJ.out.size; simp; omega
                                  gi_wp2_with (gi_at_builtin; refine wpListIn_append_own _ rfl _ _ 32 rfl w3.heap.size 3 i0 (.int .i64 0) 1 8 Try.underlying32 hi hz0 hz1 hz2 rfl (by decide) _ _ _ rfl (ownsRow_bel HO.out ((Bel.refl _).alloc _)) ⟨wr.heap.size, 0, none⟩ 1 1 [.int .i64 (z : Int)] rfl rfl (one_new _ _ _) (by simp [Value.oneCell']) hm1 hm2 hm3 ?_; intro v' w4 hown2 hgrow _; have HO2 := Lib.hid hown2; have HB4 := Lib.hid ((HBJ.out.alloc _).grown hgrow (fun k hk => (HO.out.lt k hk).1)); clear hown2 hgrow hm3)
                                  go_roundw
                                  case rel =>
                                    refine ⟨j + 1, by omega, by go_num, ?_, HB4.out⟩
                                    rw [HRS.out, if_neg HJK.out]
                                    simpa [valsOf] using HO2.out
                                  case measure => simp [intOf]; omega
                              · obtain rfl : j = bl.length := by omega
                                have hcol : Cols wr u18 (restTo bl k bl.length) := own_cols HO.out
                                obtain ⟨hra, hrc⟩ := rest_whole HNE.out HBC.out HLESS.out hk0 hlt (l := L) HBO.out.sub
                                obtain ⟨ra, rc, rfl⟩ := own_sln HO.out
                                have hsub : Asc s.paints.length (restTo bl k bl.length) := ⟨fun c hc => HA.out.1 c (hra.subset hc), HA.out.2.sublist hra⟩
                                have HX := Lib.hid (HB.out.trans HBJ.out)
                                have HXX := Lib.hid (HBc3.out.trans HX.out)
                                have HCOL := Lib.hid hcol
                                have HSUB := Lib.hid hsub
                                have HRC := Lib.hid hrc
                                clear hcol hra hrc hsub HO
                                generalize restTo bl k bl.length = R at *
                                have K4 := Lib.hid (own_any s _ wr (HSV.out.bel HXX.out) (by have := HS.out.n5; omega) (by have := HS.out.eats; omega))
                                obtain ⟨c0, c1, c2, c3⟩ := HC.out.bel HXX.out

                                gi_wp2_with fail
                                refine ⟨trivial, rfl, (callsW K4.out).mono ?_⟩
                                rintro e wa4 ⟨va4, rfl, hset, hb⟩
                                have HBa4 := Lib.hid (HX.out.trans hb)
                                have HCa4 := Lib.hid (HCOL.out.bel hb)
                                have HV4 := Lib.hid hset
                                clear hset hb K4 c0 c1 c2 c3
                                gi_wp2_with fail
                                refine ⟨trivial, rfl, (callsW (plan_any s HS.out va4 _ R wa4 HV4.out HCa4.out HSUB.out)).mono ?_⟩
                                rintro e wb4 ⟨r4, er4, rfl, hpl, hb⟩
                                have her4 := plan_er hpl
                                have HBb4 := Lib.hid (HBa4.out.trans hb)
                                clear hpl hb HBa4 HCa4 HV4
                                rw [HRC.out] at her4
                                by_cases h0k : 0 ≤ k
                                · rw [decide_eq_true h0k] at her4
                                  simp only [if_true] at her4
                                  subst her4
                                  have g0 : decide (k ≥ 0) = true := decide_eq_true h0k
                                  have hb5 : bl.length ≤ 5 := HBL.out
                                  gi_wp2_with fail
                                  go_roundw
                                  case rel => exact ⟨k + 1, by omega, by omega, by go_num, HBb4.out⟩
                                  case measure => simp [intOf]; omega
                                · rw [decide_eq_false h0k] at her4
                                  simp only [Bool.false_eq_true, if_false] at her4
                                  subst her4
                                  obtain rfl : k = -1 := by omega
                                  gi_wp2_with fail
                                  go_roundw
                                  case rel => exact ⟨0, by omega, by omega, by go_num, HBb4.out⟩
                                  case measure => simp [intOf] <;> omega
                        · omega
                      · gi_upto_region 19 with fail
                        gi_cut [154] from 147 (fun z wx => z = .bool false ∧ wx = wr)
                        case first =>
                          as_aux_lemma =>
                            by_cases hlt : k < bl.length
                            · have h0 : decide (k < (bl.length : Int)) = true := decide_eq_true hlt
                              have h1 : (F == 0) = false := beq_eq_false_iff_ne.2 (fun h => hgo ⟨hlt, h⟩)
                              gi_wp2_with fail
                              gi_meet
                              case rel => exact ⟨rfl, rfl⟩
                            · have h0 : decide (k < (bl.length : Int)) = false := decide_eq_false hlt
                              gi_wp2_with fail
                              gi_meet
                              case rel => exact ⟨rfl, rfl⟩
                        case rest =>
                          as_aux_lemma =>
                            obtain ⟨rfl, rfl⟩ := hcut
                            replace HL := Lib.hid (HL.out.bel HB.out)
                            replace HWV := Lib.hid (HWV.out.bel HB.out)
                            replace HBc3 := Lib.hid (HBc3.out.trans HB.out)
                            clear HB HBO HBM HBA hgo hk hk0
                            gi_wp2_with fail
                            gi_loopw [22] (fun i wr => ∃ c : Nat, c ≤ s.paints.length ∧ i = .int .i64 c ∧ Bel wc wr) (fun i _ => s.paints.length - (intOf i).toNat)
                            case atStart => exact ⟨0, Nat.zero_le _, rfl, Bel.refl _⟩
                            case round =>
                              as_aux_lemma =>
                                obtain ⟨c, hc, rfl, hb⟩ := hrel
                                have HB := Lib.hid hb
                                have HBB := Lib.hid (HBc3.out.trans hb)
                                obtain ⟨c0, c1, c2, c3⟩ := HC.out.bel HBB.out
                                have hn5 := HS.out.n5
                                clear hb
                                by_cases hlt : c < s.paints.length
                                · have l0 : decide (c < s.paints.length) = true := decide_eq_true hlt
                                  gi_wp2_with fail
                                  refine ⟨trivial, rfl, (callsW (has_any _ L c wr (HL.out.bel HB.out))).mono ?_⟩
                                  rintro e w5 ⟨he, hw5⟩
                                  obtain rfl : wr = w5 := hw5
                                  subst he
                                  cases hin : L.contains c with
                                  | true =>
                                    gi_wp2_with fail
                                    refine ⟨trivial, rfl, (callsW (has_any _ (s.withOf L) c wr (HWV.out.bel HB.out))).mono ?_⟩
                                    rintro e w6 ⟨he, hw6⟩
                                    obtain rfl : wr = w6 := hw6
                                    rw [with_not hin] at he
                                    subst he
                                    clear hin
                                    gi_wp2_with fail
                                    go_roundw
                                    case rel => exact ⟨c + 1, by omega, by go_num, HB.out⟩
                                    case measure => simp [intOf]; omega
                                  | false =>
                                    have HIN := Lib.hid hin
                                    clear hin c0 c1 c2 c3
                                    gi_wp2_with fail
                                    obtain ⟨w5, rfl⟩ : ∃ w5, w5 = wr := ⟨_, rfl⟩
                                    gi_loopw [23, 24] (fun rv i wr => ∃ k : Nat, k ≤ s.paints.length ∧ i = .int .i64 k ∧ wr.ownsRow w5.heap.size 3 1 rv (moreTo L c k).length (valsOf (moreTo L c k)) ∧ Bel w5 wr) (fun _ i _ => s.paints.length - (intOf i).toNat)
                                    case atStart => exact ⟨0, Nat.zero_le _, rfl, World.ownsRow_made (base := w5.heap.size) (e := 3) (size := 1) w5 #[] 0 (Nat.le_refl _) (Nat.zero_le _) rfl, (Bel.refl _).alloc _⟩
                                    case round =>
                                      as_aux_lemma =>
                                        obtain ⟨k, hk, rfl, ho, hb⟩ := hrel
                                        have HO := Lib.hid ho
                                        have HBJ := Lib.hid hb
                                        have HMS := Lib.hid (moreTo_succ L c k)
                                        have hml := moreTo_len L c k
                                        obtain ⟨c0, c1, c2, c3⟩ := HC.out.bel (HBB.out.trans hb)
                                        clear ho hb
                                        by_cases hkl : k < s.paints.length
                                        · have m0 : decide (k < s.paints.length) = true := decide_eq_true hkl
                                          generalize moreTo L c k = R at *
                                          have hm1 : R.length + 1 ≤ maxLen := by unfold maxLen; omega
                                          have hm2 : (R.length + 1) * 8 ≤ 140737488355328 := by omega
                                          have hm3 : w5.heap.size ≤ (wr.alloc (.cells #[.int .i64 (k : Int)] 3)).heap.size := by have := HBJ.out.size; simp; omega
                                          have HLK := Lib.hid (HL.out.bel (HB.out.trans HBJ.out))
                                          by_cases hkc : k = c
                                          · subst hkc
                                            gi_wp2_with fail
                                            refine ⟨trivial, ?_⟩
                                            gi_wp2_with (gi_at_builtin; refine wpListIn_append_own _ rfl _ _ 32 rfl w5.heap.size 3 i0 (.int .i64 0) 1 8 Try.underlying32 hi hz0 hz1 hz2 rfl (by decide) _ _ _ rfl (ownsRow_bel HO.out ((Bel.refl _).alloc _)) ⟨wr.heap.size, 0, none⟩ 1 1 [.int .i64 (k : Int)] rfl rfl (one_new _ _ _) (by simp [Value.oneCell']) hm1 hm2 hm3 ?_; intro v' w6 hown2 hgrow _; have HO2 := Lib.hid hown2; have HB4 := Lib.hid ((HBJ.out.alloc _).grown hgrow (fun k hk => (HO.out.lt k hk).1)); clear hown2 hgrow hm3)
                                            go_roundw
                                            case rel =>
                                              refine ⟨k + 1, by omega, by go_num, ?_, HB4.out⟩
                                              rw [HMS.out, if_pos (by simp)]
                                              simpa [valsOf] using HO2.out
                                            case measure => simp [intOf]; omega
                                          · have m1 : ((k : Int) == (c : Int)) = false := beq_eq_false_iff_ne.2 (by omega)
                                            have HKC := Lib.hid hkc
                                            gi_wp2_with fail
                                            refine ⟨trivial, rfl, (callsW (has_any _ L k wr HLK.out)).mono ?_⟩
                                            rintro e w6 ⟨he, hw6⟩
                                            obtain rfl : wr = w6 := hw6
                                            subst he
                                            cases hin : L.contains k with
                                            | true =>
                                              gi_wp2_with (gi_at_builtin; refine wpListIn_append_own _ rfl _ _ 32 rfl w5.heap.size 3 i0 (.int .i64 0) 1 8 Try.underlying32 hi hz0 hz1 hz2 rfl (by decide) _ _ _ rfl (ownsRow_bel HO.out ((Bel.refl _).alloc _)) ⟨wr.heap.size, 0, none⟩ 1 1 [.int .i64 (k : Int)] rfl rfl (one_new _ _ _) (by simp [Value.oneCell']) hm1 hm2 hm3 ?_; intro v' w6 hown2 hgrow _; have HO2 := Lib.hid hown2; have HB4 := Lib.hid ((HBJ.out.alloc _).grown hgrow (fun k hk => (HO.out.lt k hk).1)); clear hown2 hgrow hm3)
                                              go_roundw
                                              case rel =>
                                                refine ⟨k + 1, by omega, by go_num, ?_, HB4.out⟩
                                                rw [HMS.out, if_pos (by rw [hin]; simp)]
                                                simpa [valsOf] using HO2.out
                                              case measure => simp [intOf]; omega
                                            | false =>
                                              gi_wp2_with fail
                                              go_roundw
                                              case rel =>
                                                refine ⟨k + 1, by omega, by go_num, ?_, HBJ.out⟩
                                                rw [HMS.out, if_neg (by rw [hin]; simp [HKC.out]), List.append_nil]
                                                exact HO.out
                                              case measure => simp [intOf]; omega
                                        · obtain rfl : k = s.paints.length := by omega
                                          have hcol : Cols wr u23 (moreTo L c s.paints.length) := own_cols HO.out
                                          obtain ⟨ra, rc, rfl⟩ := own_sln HO.out
                                          have HSUB := Lib.hid (moreTo_asc L c s.paints.length)
                                          have HX := Lib.hid (HB.out.trans HBJ.out)
                                          have HXX := Lib.hid (HBc3.out.trans HX.out)
                                          have HCOL := Lib.hid hcol
                                          have hcm : s.can (moreTo L c s.paints.length) = (s.withOf L).contains c := CSet.with_more HS.out HA.out.1 (HA.out.2.imp Nat.ne_of_lt) hlt (by have := HIN.out; rw [List.contains_eq_mem, decide_eq_false_iff_not] at this; exact this)
                                          have HCM := Lib.hid hcm
                                          clear hcol hcm HO c0 c1 c2 c3 hml HMS
                                          generalize moreTo L c s.paints.length = R at *
                                          have K5 := Lib.hid (own_any s _ wr (HSV.out.bel HXX.out) (by have := HS.out.n5; omega) (by have := HS.out.eats; omega))
                                          obtain ⟨c0, c1, c2, c3⟩ := HC.out.bel HXX.out

                                          gi_wp2_with fail
                                          refine ⟨trivial, rfl, (callsW K5.out).mono ?_⟩
                                          rintro e wa5 ⟨va5, rfl, hset, hb⟩
                                          have HBa5 := Lib.hid (HX.out.trans hb)
                                          have HCa5 := Lib.hid (HCOL.out.bel hb)
                                          have HV5 := Lib.hid hset
                                          clear hset hb K5 c0 c1 c2 c3
                                          gi_wp2_with fail
                                          refine ⟨trivial, rfl, (callsW (plan_any s HS.out va5 _ R wa5 HV5.out HCa5.out HSUB.out)).mono ?_⟩
                                          rintro e wb5 ⟨r5, er5, rfl, hpl, hb⟩
                                          have her5 := plan_er hpl
                                          have HBb5 := Lib.hid (HBa5.out.trans hb)
                                          clear hpl hb HBa5 HCa5 HV5
                                          rw [HCM.out] at her5
                                          have HE5 := Lib.hid her5
                                          clear her5
                                          gi_wp2_with fail
                                          refine ⟨trivial, rfl, (callsW (has_any _ (s.withOf L) c wb5 (HWV.out.bel HBb5.out))).mono ?_⟩
                                          rintro e w6 ⟨he, hw6⟩
                                          obtain rfl : wb5 = w6 := hw6
                                          subst he
                                          have her5 := HE5.out
                                          cases hwc : (s.withOf L).contains c with
                                          | true =>
                                            rw [hwc, if_pos rfl] at her5
                                            subst her5
                                            gi_wp2_with fail
                                            go_roundw
                                            case rel => exact ⟨c + 1, by omega, by go_num, HBb5.out⟩
                                            case measure => simp [intOf]; omega
                                          | false =>
                                            rw [hwc, if_neg (by simp)] at her5
                                            subst her5
                                            gi_wp2_with fail
                                            go_roundw
                                            case rel => exact ⟨c + 1, by omega, by go_num, HBb5.out⟩
                                            case measure => simp [intOf]; omega
                                · obtain rfl : c = s.paints.length := by omega
                                  clear hlt hc
                                  gi_wp2_with fail
                                  clear c0 c1 c2 c3
                                  obtain ⟨w5, rfl⟩ : ∃ w5, w5 = wr := ⟨_, rfl⟩
                                  have HWA := Lib.hid (with_asc (s := s) (l := L))
                                  have hwl : (s.withOf L).length ≤ 5 := Nat.le_trans HWA.out.len hn5
                                  have HWL := Lib.hid hwl
                                  clear hwl
                                  generalize s.withOf L = WL at *
                                  gi_loopw [27] (fun i wr => ∃ k : Nat, k ≤ WL.length ∧ i = .int .i64 k ∧ Bel wc wr) (fun i _ => WL.length - (intOf i).toNat)
                                  case atStart => exact ⟨0, Nat.zero_le _, rfl, HB.out⟩
                                  case round =>
                                    as_aux_lemma =>
                                      obtain ⟨k, hk, rfl, hb⟩ := hrel
                                      have HBJ := Lib.hid hb
                                      obtain ⟨c0, c1, c2, c3⟩ := HC.out.bel (HBc3.out.trans hb)
                                      clear hb
                                      by_cases hkl : k < WL.length
                                      · have m0 : decide (k < WL.length) = true := decide_eq_true hkl
                                        obtain ⟨bb, boff, rfl, bcell⟩ := (HWV.out.bel HBJ.out).cellAt hkl
                                        have hz5 : WL.getD k 0 < s.paints.length := by rw [getD_lt _ _ _ hkl]; exact HWA.out.1 _ (List.getElem_mem hkl)
                                        by_cases hk0 : k = 0
                                        · subst hk0
                                          generalize WL.getD 0 0 = z at *
                                          have bcell0 : wr.cell? ⟨bb, boff, none⟩ = some (.int .i64 z) := bcell
                                          have q0 : decide ((z : Int) < 0) = false := decide_eq_false (by omega)
                                          have q1 : decide ((z : Int) ≥ (s.paints.length : Int)) = false := decide_eq_false (by omega)
                                          have q2 : decide (s.paints.length ≤ z) = false := decide_eq_false (by omega)
                                          simp only [Int.natCast_zero]
                                          gi_wp2_with fail
                                          gi_big_quiet (fail)
                                          gi_wp2_with fail
                                          go_roundw
                                          case rel => exact ⟨1, by omega, by go_num, HBJ.out.trans (bel_drewN _ _)⟩
                                          case measure => simp [intOf]; omega
                                        · obtain ⟨b2, boff2, e2, bcell2⟩ := (HWV.out.bel HBJ.out).cellAt (j := k - 1) (by omega)
                                          injection e2 with e2
                                          injection e2 with e2 e3
                                          subst e2 e3
                                          have hzz : WL.getD (k - 1) 0 < WL.getD k 0 := by
                                            rw [getD_lt _ _ _ hkl, getD_lt _ _ _ (show k - 1 < WL.length by omega)]
                                            exact List.pairwise_iff_getElem.1 HWA.out.2 (k - 1) k (by omega) hkl (by omega)
                                          generalize WL.getD k 0 = z at *
                                          generalize WL.getD (k - 1) 0 = z2 at *
                                          obtain ⟨k, rfl⟩ : ∃ j, k = j + 1 := ⟨k - 1, by omega⟩
                                          simp only [Nat.add_sub_cancel] at bcell2
                                          have hlt2 : k < WL.length := by omega
                                          have hb5 : WL.length ≤ 5 := HWL.out
                                          have g0 : decide (((k + 1 : Nat) : Int) > 0) = true := decide_eq_true (by omega)
                                          have g1 : decide ((0 : Int) < ((k + 1 : Nat) : Int)) = true := decide_eq_true (by omega)
                                          have g2 : ((k + 1 : Nat) : Int) - 1 = (k : Int) := by omega
                                          have g3 : decide ((z : Int) ≤ (z2 : Int)) = false := decide_eq_false (by omega)
                                          have g4 : decide (z ≤ z2) = false := decide_eq_false (by omega)
                                          have q0 : decide ((z : Int) < 0) = false := decide_eq_false (by omega)
                                          have q1 : decide ((z : Int) ≥ (s.paints.length : Int)) = false := decide_eq_false (by omega)
                                          have q2 : decide (s.paints.length ≤ z) = false := decide_eq_false (by omega)
                                          gi_wp2_with fail
                                          gi_big_quiet (fail)
                                          gi_wp2_with fail
                                          go_roundw
                                          case rel => exact ⟨k + 1 + 1, by omega, by go_num, HBJ.out.trans (bel_drewN _ _)⟩
                                          case measure => simp [intOf]; omega
                                      · obtain rfl : k = WL.length := by omega
                                        clear c0 c1 c2 c3
                                        gi_wp2_with fail
                                        refine ⟨trivial, rfl, (callsW (known_any _)).mono ?_⟩
                                        rintro e w6 ⟨rfl, hb⟩
                                        have hfin := HSB.out.trans ((HBc3.out.trans HBJ.out).trans hb)
                                        gi_wp2_with fail
                                        exact bodyPost_ret (v := .bool true) (by simp [results, Try.results5, go_sem]) rfl ⟨rfl, hfin⟩

end Go.Proofs.Ytpkadofgmhninaa
