/- The ties of heats are yielded one after another. -/
import Derived.Test.YtpkadofgmhninaaLasts
namespace Go.Proofs.Ytpkadofgmhninaa
open Go.RowKit
attribute [local go_sem] Oper.semAt_some

def ETie (_ : World) (vs : Array Value) (t : CSet.Tie) : Prop := vs = #[.agg #[.int .i64 (t.a : Int), .int .i64 (t.b : Int), .int .i64 t.by_]]

theorem prefix_flatMap {α β : Type} (l : List α) (f : α → List β) (j : Nat) : (l.take j).flatMap f <+: l.flatMap f := by
  conv => rhs; rw [← List.take_append_drop j l, List.flatMap_append]
  exact List.prefix_append _ _
theorem flatMap_snoc {α β : Type} (l : List α) (d : α) (f : α → List β) (j : Nat) (hj : j < l.length) : (l.take (j + 1)).flatMap f = (l.take j).flatMap f ++ f (l.getD j d) := by
  rw [List.take_succ_eq_append_getElem hj, List.flatMap_append, getD_lt _ _ _ hj]; simp

theorem ownsRow_keep {A B : World} {n : Nat} {e : TypeId} {size k : Nat} {v : Value} {xs : List Value} (h : A.ownsRow n e size v k xs) (hb : KeepFrom n A B) : B.ownsRow n e size v k xs := by
  obtain ⟨h1, h2 | ⟨g, cap, cur, r1, r2, r3, r⟩⟩ := h
  · exact ⟨h1, .inl h2⟩
  · exact ⟨h1, .inr ⟨g, cap, cur, r1, r2, (hb.2 g r2 (Array.getElem?_eq_some_iff.1 r3).1).trans r3, r⟩⟩
theorem ownsRow_base {A : World} {n m : Nat} {e : TypeId} {size k : Nat} {v : Value} {xs : List Value} (h : A.ownsRow n e size v k xs) (hm : m ≤ n) : A.ownsRow m e size v k xs := by
  obtain ⟨h1, h2 | ⟨g, cap, cur, r1, r2, r⟩⟩ := h
  · exact ⟨h1, .inl h2⟩
  · exact ⟨h1, .inr ⟨g, cap, cur, r1, by omega, r⟩⟩

theorem Rnds.take {w : World} {a : Option Addr} {c : Nat} {p : Rounds} (h : Rnds w (.slice a p.length c) p) (k : Nat) (hk : k ≤ p.length) : Rnds w (.slice a k c) (p.take k) := by
  obtain ⟨a', c', e, h1, h2, hz, h3⟩ := h
  injection e with e1 e2 e3
  subst e1 e3
  have hl : (p.take k).length = k := by simp; omega
  refine ⟨a, c, by rw [hl], by rw [hl]; omega, h2, hz, fun i hi => ?_⟩
  rw [hl] at hi
  obtain ⟨b, off, rv, e', q0, q1⟩ := h3 i (by omega)
  refine ⟨b, off, rv, e', q0, ?_⟩
  rw [getD_lt _ _ _ (by rw [hl]; exact hi), List.getElem_take]
  rw [getD_lt _ _ _ (by omega)] at q1
  exact q1

/-- All cells of A are cells of B, as they were. -/
def CellsOf (A B : World) : Prop := ∀ a v, A.cell? a = some v → B.cell? a = some v
theorem CellsOf.refl (A : World) : CellsOf A A := fun _ _ h => h
theorem CellsOf.trans {A B C : World} (h : CellsOf A B) (k : CellsOf B C) : CellsOf A C := fun a v hc => k a v (h a v hc)
theorem Bel.cells {A B : World} (h : Bel A B) : CellsOf A B := fun _ _ hc => h.cell hc
theorem Quiet.cells {n : Nat} {A B : World} (h : Quiet n A B) : CellsOf A B := fun _ _ hc => h.cell hc
theorem Ints.of {A B : World} (h : CellsOf A B) {v : Value} {xs : List Int} (hx : Ints A v xs) : Ints B v xs := by
  obtain ⟨a, c, e, h1, h2, hz, h3⟩ := hx
  refine ⟨a, c, e, h1, h2, hz, fun i hi => ?_⟩
  obtain ⟨b, off, e', h'⟩ := h3 i hi
  exact ⟨b, off, e', h _ _ h'⟩
theorem Cols.of {A B : World} (h : CellsOf A B) {v : Value} {l : List Nat} (hx : Cols A v l) : Cols B v l := Ints.of h hx
theorem Rnds.of {A B : World} (h : CellsOf A B) {v : Value} {p : Rounds} (hx : Rnds A v p) : Rnds B v p := by
  obtain ⟨a, c, e, h1, h2, hz, h3⟩ := hx
  refine ⟨a, c, e, h1, h2, hz, fun i hi => ?_⟩
  obtain ⟨b, off, rv, e', k0, k1⟩ := h3 i hi
  exact ⟨b, off, rv, e', h _ _ k0, k1.of h⟩
theorem Paints.of {A B : World} (h : CellsOf A B) {v : Value} {ps : List Paint} (hx : Paints A v ps) : Paints B v ps := by
  obtain ⟨a, c, e, h1, h2, hz, h3⟩ := hx
  refine ⟨a, c, e, h1, h2, hz, fun i hi => ?_⟩
  obtain ⟨b, off, e', k0, k1, k2, k3, k4, k5⟩ := h3 i hi
  exact ⟨b, off, e', h _ _ k0, h _ _ k1, h _ _ k2, h _ _ k3, h _ _ k4, h _ _ k5⟩
theorem Pairs.of {A B : World} (h : CellsOf A B) {v : Value} {es : List (Nat × Nat)} (hx : Pairs A v es) : Pairs B v es := by
  obtain ⟨a, c, e, h1, h2, hz, h3⟩ := hx
  refine ⟨a, c, e, h1, h2, hz, fun i hi => ?_⟩
  obtain ⟨b, off, e', k0, k1⟩ := h3 i hi
  exact ⟨b, off, e', h _ _ k0, h _ _ k1⟩
theorem Fd.of {A B : World} (h : CellsOf A B) {pv ev rv : Value} {s : CSet} {p : Rounds} (hx : Fd A pv ev rv s p) : Fd B pv ev rv s p :=
  ⟨hx.paints.of h, hx.pairs.of h, hx.rounds.of h⟩

theorem Cols.cellAt {W : World} {a : Option Addr} {n c : Nat} {l : List Nat} (h : Cols W (.slice a n c) l) {j : Nat} (hj : j < l.length) :
    ∃ b off, a = some ⟨b, off, none⟩ ∧ W.cell? ⟨b, off + j, none⟩ = some (.int .i64 (l.getD j 0 : Int)) := by
  obtain ⟨a', c', e, _, _, _, h3⟩ := h
  injection e with e1 e2 e3
  subst e1
  obtain ⟨b, off, e, q⟩ := h3 j (by simpa using hj)
  rw [getD_map _ _ hj] at q
  exact ⟨b, off, e, q⟩
theorem Cols.cellIn {W : World} {b off n c : Nat} {l : List Nat} (h : Cols W (.slice (some ⟨b, off, none⟩) n c) l) {j : Nat} (hj : j < l.length) : W.cell? ⟨b, off + j, none⟩ = some (.int .i64 (l.getD j 0 : Int)) := by
  obtain ⟨b', off', e, q⟩ := h.cellAt hj
  injection e with e
  injection e with e1 e2
  subst e1 e2
  exact q

theorem KeepFrom.cell {n : Nat} {A B : World} (h : KeepFrom n A B) {p : Addr} {v : Value} (hp : n ≤ p.block) (hc : A.cell? p = some v) : B.cell? p = some v :=
  (World.cell?_of_block (w := A) (h.2 p.block hp (lt_of_cell hc))).trans hc
theorem C5.keep {n : Nat} {A B : World} {k : Nat} {a b c d e : Value} (hc : C5 A k a b c d e) (h : KeepFrom n A B) (hk : n ≤ k) : C5 B k a b c d e :=
  ⟨h.cell hk hc.1, h.cell hk hc.2.1, h.cell hk hc.2.2.1, h.cell hk hc.2.2.2.1, h.cell hk hc.2.2.2.2⟩

/-- What has been yielded of the ties of heats. -/
def hP1 (s : CSet) (p : Rounds) (i : Nat) : List CSet.Tie := (List.range i).flatMap fun i => s.heatTiesOf (p.take i).flatten (p.getD i [])
theorem hP1_succ (s : CSet) (p : Rounds) (i : Nat) : hP1 s p (i + 1) = hP1 s p i ++ s.heatTiesOf (p.take i).flatten (p.getD i []) := by
  unfold hP1; rw [List.range_succ, List.flatMap_append]; simp
theorem hP1_pre (s : CSet) (p : Rounds) (i : Nat) (hi : i ≤ p.length) : hP1 s p i <+: s.heatTies p := by
  unfold hP1 CSet.heatTies
  have := prefix_flatMap (List.range p.length) (fun i => s.heatTiesOf (p.take i).flatten (p.getD i [])) i
  rwa [List.take_range, Nat.min_eq_left hi] at this
theorem h_pre2 (s : CSet) (p : Rounds) (i j : Nat) (hi : i < p.length) : hP1 s p i ++ ((p.getD i []).take j).flatMap (s.heatTiesAt (p.take i).flatten (p.getD i [])) <+: s.heatTies p := by
  refine List.IsPrefix.trans ?_ (hP1_pre s p (i + 1) hi)
  rw [hP1_succ]
  exact (List.prefix_append_right_inj _).2 (prefix_flatMap _ _ _)

theorem prefix_filter_map (l : List Nat) (f : Nat → Bool) (g : Nat → CSet.Tie) (k : Nat) : ((l.take k).filter f).map g <+: (l.filter f).map g := by
  conv => rhs; rw [← List.take_append_drop k l, List.filter_append, List.map_append]
  exact List.prefix_append _ _
theorem prefix_map {α β : Type} (l : List α) (g : α → β) (k : Nat) : (l.take k).map g <+: l.map g := by
  conv => rhs; rw [← List.take_append_drop k l, List.map_append]
  exact List.prefix_append _ _
theorem prefix_two {α : Type} {a b c d x : List α} (h1 : a ++ (b ++ c) <+: x) (h2 : d <+: c) : a ++ (b ++ d) <+: x := by
  refine List.IsPrefix.trans ?_ h1
  exact (List.prefix_append_right_inj _).2 ((List.prefix_append_right_inj _).2 h2)

set_option maxRecDepth 100000 in
set_option maxHeartbeats 4000000 in
theorem heatTies_seq (s : CSet) (hs : s.Ok) (pv ev rv : Value) (p : Rounds) (hp : PlanOk s.paints.length p) (w0 : World) (hf : Fd w0 pv ev rv s p) :
    SeqQ 60 #[.agg #[pv, .int .i64 s.near, .int .i64 s.give, ev, rv]] #[] ETie (s.heatTies p) (CellsOf w0) := by
  intro l J Jx W hD hJ hJx hY h0
  obtain ⟨pa, pc, rfl, hp1, hp2, -, -⟩ := hf.paints
  have hr := hf.rounds
  obtain ⟨ra, rc, rfl, hr1, hr2, -, -⟩ := hf.rounds
  unfold maxLen at hr2 hp2
  have hn5 := hs.n5
  have hpl := hp.len
  have c5 := C5.new W (.slice pa s.paints.length pc) (.int .i64 s.near) (.int .i64 s.give) ev (.slice ra (List.length p) rc) 95
  have b0 := (Bel.refl W).alloc (.cells #[.slice pa s.paints.length pc, .int .i64 s.near, .int .i64 s.give, ev, .slice ra (List.length p) rc] 95)
  have j0 := hJ _ _ _ h0 (b0.quiet _)
  have d0 := hD.trans b0.cells
  have K0 := Lib.hid (b0.keep W.heap.size)
  have J0 := Lib.hid j0
  have D0 := Lib.hid d0
  have C50 := Lib.hid c5
  have HJ := Lib.hid hJ
  have HY := Lib.hid hY
  have HF := Lib.hid hf
  clear b0 j0 d0 hJ hJx hY h0 hD hr hf
  refine (callsIn_wide (n := 0)).1 (callsIn_of_wp Try.func60 rfl trivial ?_ rfl)
  simp only [Try.ntmps60, List.size_toArray, List.length_cons, List.length_nil, Nat.reduceAdd, Nat.reduceSub, Array.replicate_succ, Array.replicate_zero, List.push_toArray, List.append_toArray, List.nil_append, List.cons_append, Array.append_empty]
  obtain ⟨c0, c1, c2, c3, c4⟩ := c5
  gi_wp2_with fail
  generalize W.alloc (.cells #[.slice pa s.paints.length pc, .int .i64 s.near, .int .i64 s.give, ev, .slice ra (List.length p) rc] 95) = W1 at *
  gi_loopw [15] (fun i wr => ∃ k : Nat, k ≤ p.length ∧ i = .int .i64 k ∧ J (hP1 s p k) wr ∧ CellsOf w0 wr ∧ KeepFrom W.heap.size W wr ∧ C5 wr W.heap.size (.slice pa s.paints.length pc) (.int .i64 s.near) (.int .i64 s.give) ev (.slice ra (List.length p) rc)) (fun i _ => p.length - (intOf i).toNat)
  case atStart => exact ⟨0, Nat.zero_le _, rfl, J0.out, D0.out, K0.out, C50.out⟩
  case round =>
    obtain ⟨i, hi, rfl, hj, hd, hk, hc5⟩ := hrel
    have HJ1 := Lib.hid hj
    have HD1 := Lib.hid hd
    have HK1 := Lib.hid hk
    have HC1 := Lib.hid hc5
    by_cases hlt : i < p.length
    · obtain ⟨_, _, e0, _, _, _, h3⟩ := HF.out.rounds
      injection e0 with e1 e2 e3
      clear e2 e3
      subst e1
      obtain ⟨b, off, xv, rfl, hcell0, hcols⟩ := h3 i hlt
      have hcell := hd _ _ hcell0
      have hpr := hp.round hlt
      have hcols0 := hcols
      obtain ⟨xa, xc, rfl, q1, q2, -, -⟩ := hcols
      simp only [List.length_map] at q1 hcell hcols0
      have HX0 := Lib.hid hcols0
      unfold maxLen at q2
      have hxl := hpr.2.len
      clear hj hd hk hc5 h3 c0 c1 c2 c3 c4 hcell0 hcols0
      have HPRE := Lib.hid (fun j => h_pre2 s p i j hlt)
      have HSUC := Lib.hid (hP1_succ s p i)
      have HPR := Lib.hid hpr
      clear hpr
      generalize hround : p.getD i [] = round at *
      have HRD := Lib.hid hround
      clear hround
      generalize hpre0 : hP1 s p i = pre0 at *
      clear hpre0
      gi_wp2_with fail
      gi_loopw [22] (fun v wr => ∃ j : Nat, j ≤ round.length ∧ v = .int .i64 j ∧ J (pre0 ++ (round.take j).flatMap (s.heatTiesAt (p.take i).flatten round)) wr ∧ CellsOf w0 wr ∧ KeepFrom W.heap.size W wr ∧ C5 wr W.heap.size (.slice pa s.paints.length pc) (.int .i64 s.near) (.int .i64 s.give) ev (.slice (some ⟨b, off, none⟩) (List.length p) rc)) (fun v _ => round.length - (intOf v).toNat)
      case atStart => exact ⟨0, Nat.zero_le _, rfl, by simpa using HJ1.out, HD1.out, HK1.out, HC1.out⟩
      case round =>
        obtain ⟨j, hj2, rfl, hj, hd, hk, hc5⟩ := hrel
        have HJ2 := Lib.hid hj
        have HD2 := Lib.hid hd
        have HK2 := Lib.hid hk
        have HC2 := Lib.hid hc5
        by_cases hjl : j < round.length
        · obtain ⟨xb, xoff, rfl, xcell⟩ := (HX0.out.of hd).cellAt hjl
          have hsn := flatMap_snoc round 0 (s.heatTiesAt (p.take i).flatten round) j hjl
          have hp2 := HPRE.out (j + 1)
          rw [hsn] at hp2
          have HSN := Lib.hid hsn
          have HP2 := Lib.hid hp2
          clear hj hd hk hc5 hsn hp2
          generalize hc0 : round.getD j 0 = c at *
          clear hc0
          generalize hpj : (round.take j).flatMap (s.heatTiesAt (p.take i).flatten round) = pre1 at *
          clear hpj
          gi_wp2_with fail
          gi_loopw [28] (fun v wr => ∃ k : Nat, k ≤ round.length ∧ v = .int .i64 k ∧ J (pre0 ++ (pre1 ++ ((round.take k).filter (fun o => c != o)).map (fun o => ⟨c, o, s.near⟩))) wr ∧ CellsOf w0 wr ∧ KeepFrom W.heap.size W wr ∧ C5 wr W.heap.size (.slice pa s.paints.length pc) (.int .i64 s.near) (.int .i64 s.give) ev (.slice (some ⟨b, off, none⟩) (List.length p) rc)) (fun v _ => round.length - (intOf v).toNat)
          case atStart => exact ⟨0, Nat.zero_le _, rfl, by simpa using HJ2.out, HD2.out, HK2.out, HC2.out⟩
          case round =>
            obtain ⟨k, hk3, rfl, hj, hd, hk, hc5⟩ := hrel
            have HJ3 := Lib.hid hj
            have HD3 := Lib.hid hd
            have HK3 := Lib.hid hk
            have HC3 := Lib.hid hc5
            by_cases hkl : k < round.length
            · have ocell := (HX0.out.of hd).cellIn hkl
              obtain ⟨c0, c1, c2, c3, c4⟩ := hc5
              have hts := take_snocN round k hkl
              have HTS := Lib.hid hts
              have hpf := prefix_filter_map round (fun o => c != o) (fun o => ⟨c, o, s.near⟩) (k + 1)
              rw [hts, List.filter_append, List.map_append] at hpf
              have HPF := Lib.hid hpf
              clear hd hk hts hpf
              generalize hog : round.getD k 0 = o at *
              clear hog
              by_cases hco : c = o
              · have hne : ((c : Int) != (o : Int)) = false := by rw [hco]; exact bne_self_eq_false _
                have HE := Lib.hid (show (c != o) = false by rw [hco]; exact bne_self_eq_false _)
                clear hco hj
                gi_wp2_with fail
                refine ⟨fun _ h => (by cases h), ?_⟩
                gi_wp2_with fail
                go_roundw
                case rel =>
                  refine ⟨k + 1, by omega, by go_num, ?_, HD3.out, HK3.out, HC3.out⟩
                  rw [HTS.out, List.filter_append, List.filter_cons, HE.out]
                  simpa using HJ3.out
                case measure => simp [intOf]; omega
              · have hne : ((c : Int) != (o : Int)) = true := by rw [bne_iff_ne]; omega
                have HE := Lib.hid (show (c != o) = true by rw [bne_iff_ne]; exact hco)
                have hpf2 := HPF.out
                rw [List.filter_cons, HE.out] at hpf2
                simp only [List.filter_nil, if_true, List.map_cons, List.map_nil] at hpf2
                have hpf3 := prefix_two HP2.out (hpf2.trans (List.prefix_append _ _))
                rw [← List.append_assoc, ← List.append_assoc] at hpf3
                rw [← List.append_assoc] at hj
                have hy := HY.out _ (⟨c, o, s.near⟩ : CSet.Tie) #[.agg #[.int .i64 (c : Int), .int .i64 (o : Int), .int .i64 s.near]] wr hj HD3.out (by rw [List.append_assoc]; rw [List.append_assoc] at hpf3; exact hpf3) rfl
                obtain ⟨fn, tmps, assign, body, hyr, hR⟩ := hy
                have HPX := Lib.hid hpf3
                clear hj hco hpf2 hpf3
                gi_wp2_with fail
                refine ⟨rfl, hR.mono ?_⟩
                rintro e W3 ⟨hd3, hk3, (⟨rfl, hJ3⟩ | ⟨rfl, hJx3⟩)⟩
                · have D3 := Lib.hid hd3
                  have K3 := Lib.hid (HK3.out.trans hk3)
                  have J3 := Lib.hid hJ3
                  have C3 := Lib.hid (show C5 W3 W.heap.size (.slice pa s.paints.length pc) (.int .i64 s.near) (.int .i64 s.give) ev (.slice (some ⟨b, off, none⟩) (List.length p) rc) from HC3.out.keep hk3 (Nat.le_refl _))
                  clear hd3 hk3 hJ3 hR hyr c0 c1 c2 c3 c4
                  gi_wp2_with fail
                  go_roundw
                  case rel =>
                    refine ⟨k + 1, by omega, by go_num, ?_, D3.out, K3.out, C3.out⟩
                    rw [HTS.out, List.filter_append, List.filter_cons, HE.out]
                    have h := J3.out
                    simp only [List.filter_nil, if_true, List.map_append, List.map_cons, List.map_nil]
                    simpa [List.append_assoc] using h
                  case measure => simp [intOf]; omega
                · have D3 := Lib.hid hd3
                  have J3 := Lib.hid hJx3
                  clear hd3 hk3 hJx3 hR hyr c0 c1 c2 c3 c4
                  gi_wp2_with fail
                  refine bodyPost_ret (results_none rfl _ _ _) rfl ?_
                  exact ⟨⟨_, rfl⟩, D3.out, .inr ⟨_, HPX.out, J3.out⟩⟩
            · have hkr := List.take_of_length_le (l := round) (i := k) (by omega)
              have HKR := Lib.hid hkr
              obtain ⟨c0, c1, c2, c3, c4⟩ := hc5
              clear hj hd hk hkr
              gi_wp2_with fail
              have hrt := ((HF.out.rounds.of HD3.out).take i (by omega)).rows2
              have hfl : ((p.take i).map fun r => r.map fun (c : Nat) => Value.int .i64 (c : Int)).flatten = (p.take i).flatten.map fun (c : Nat) => Value.int .i64 (c : Int) := by rw [List.map_flatten]
              have hfle : (p.take i).flatten.length ≤ 5 := by
                have h1 := hp.flat
                have h2 : (p.take i).flatten.length ≤ p.flatten.length := by
                  conv => rhs; rw [← List.take_append_drop i p, List.flatten_append, List.length_append]
                  omega
                omega
              have hcc := concat_int _ _ wr hrt (fun xs hxs u hu => by
                obtain ⟨r, _, rfl⟩ := List.mem_map.1 hxs
                obtain ⟨c, _, rfl⟩ := List.mem_map.1 hu
                rfl) (by rw [hfl, List.length_map]; omega)
              rw [hfl, List.length_map] at hcc
              refine ⟨trivial, rfl, (callsW hcc).mono ?_⟩
              rintro e W4 ⟨r4, rfl, ho4, hb4⟩
              have hk4 := HK3.out.trans (hb4.keep W.heap.size)
              have ho4' := ownsRow_base ho4 (m := W.heap.size) HK3.out.1
              have hj4 := HJ.out _ _ _ HJ3.out (hb4.quiet _)
              have J4 := Lib.hid hj4
              have K4 := Lib.hid hk4
              have D4 := Lib.hid (HD3.out.trans hb4.cells)
              have C4 := Lib.hid (HC3.out.bel hb4)
              obtain ⟨ya, yc, rfl, y1, y2, -, -⟩ := own_cols ho4'
              rw [List.length_map] at y1
              have O4 := Lib.hid ho4'
              unfold maxLen at y2
              clear c0 c1 c2 c3 c4 ho4 hb4 hk4 ho4' hj4 hcc hrt hfl
              have HPF4 := Lib.hid (fun m => prefix_map (p.take i).flatten (fun e => (⟨c, e, -1⟩ : CSet.Tie)) m)
              have HTS4 := Lib.hid (fun m => take_snocN (p.take i).flatten m)
              have HP22 := HP2.out
              unfold CSet.heatTiesAt at HP22
              have HP3 := Lib.hid HP22
              have HSN2 := HSN.out
              rw [show s.heatTiesAt (p.take i).flatten round c = (round.filter (fun o => c != o)).map (fun o => (⟨c, o, s.near⟩ : CSet.Tie)) ++ (p.take i).flatten.map (fun e => (⟨c, e, -1⟩ : CSet.Tie)) from rfl] at HSN2
              have HSN3 := Lib.hid HSN2
              have J4' := J4.out
              rw [HKR.out] at J4'
              have J5 := Lib.hid J4'
              clear HP22 HSN2 J4' HP2 HSN J4 HPRE
              generalize hA : (round.filter (fun o => c != o)).map (fun o => (⟨c, o, s.near⟩ : CSet.Tie)) = A at *
              clear hA
              generalize hflat : (p.take i).flatten = flat at *
              have HFLAT := Lib.hid hflat
              clear hflat
              simp only [List.length_map]
              gi_wp2_with fail
              gi_loopw [53] (fun v wr => ∃ m : Nat, m ≤ flat.length ∧ v = .int .i64 m ∧ J (pre0 ++ (pre1 ++ (A ++ (flat.take m).map (fun e => (⟨c, e, -1⟩ : CSet.Tie))))) wr ∧ CellsOf w0 wr ∧ KeepFrom W.heap.size W wr ∧ C5 wr W.heap.size (.slice pa s.paints.length pc) (.int .i64 s.near) (.int .i64 s.give) ev (.slice (some ⟨b, off, none⟩) (List.length p) rc) ∧
                wr.ownsRow W.heap.size 3 1 (.slice ya flat.length yc) flat.length (flat.map fun (c : Nat) => Value.int .i64 (c : Int))) (fun v _ => flat.length - (intOf v).toNat)
              case atStart => exact ⟨0, Nat.zero_le _, rfl, by simpa using J5.out, D4.out, K4.out, C4.out, by have h := O4.out; rw [List.length_map] at h; exact h⟩
              case round =>
                obtain ⟨m, hm3, rfl, hj, hd, hk, hc5, ho⟩ := hrel
                have HJ6 := Lib.hid hj
                have HD6 := Lib.hid hd
                have HK6 := Lib.hid hk
                have HC6 := Lib.hid hc5
                have HO6 := Lib.hid ho
                by_cases hml : m < flat.length
                · have ecell := (own_cols ho).cellAt hml
                  obtain ⟨yb, yoff, rfl, ecell⟩ := ecell
                  have hpf4 := HPF4.out (m + 1)
                  rw [HTS4.out m hml, List.map_append] at hpf4
                  have hts4 := Lib.hid (HTS4.out m hml)
                  clear hd hk ho
                  generalize hog : flat.getD m 0 = o at *
                  clear hog
                  have hpf5 := prefix_two HP3.out ((List.prefix_append_right_inj A).2 hpf4)
                  rw [← List.append_assoc, ← List.append_assoc, ← List.append_assoc] at hpf5
                  have hy := HY.out _ (⟨c, o, -1⟩ : CSet.Tie) #[.agg #[.int .i64 (c : Int), .int .i64 (o : Int), .int .i64 (-1)]] wr hj HD6.out (by rw [← List.append_assoc, ← List.append_assoc]; exact hpf5) rfl
                  obtain ⟨fn, tmps, assign, body, hyr, hR⟩ := hy
                  have HPX := Lib.hid hpf5
                  obtain ⟨c0, c1, c2, c3, c4⟩ := hc5
                  clear hj hpf4 hpf5 c0 c1 c2 c3 c4
                  gi_wp2_with fail
                  refine ⟨rfl, hR.mono ?_⟩
                  rintro e W3 ⟨hd3, hk3, (⟨rfl, hJ3⟩ | ⟨rfl, hJx3⟩)⟩
                  · have D3 := Lib.hid hd3
                    have K3 := Lib.hid (HK6.out.trans hk3)
                    have J3 := Lib.hid hJ3
                    have O3 := Lib.hid (ownsRow_keep HO6.out hk3)
                    have C3 := Lib.hid (show C5 W3 W.heap.size (.slice pa s.paints.length pc) (.int .i64 s.near) (.int .i64 s.give) ev (.slice (some ⟨b, off, none⟩) (List.length p) rc) from HC6.out.keep hk3 (Nat.le_refl _))
                    clear hd3 hk3 hJ3 hR hyr
                    gi_wp2_with fail
                    go_roundw
                    case rel =>
                      refine ⟨m + 1, by omega, by go_num, ?_, D3.out, K3.out, C3.out, O3.out⟩
                      rw [hts4.out, List.map_append]
                      have h := J3.out
                      simpa [List.append_assoc] using h
                    case measure => simp [intOf]; omega
                  · have D3 := Lib.hid hd3
                    have J3 := Lib.hid hJx3
                    clear hd3 hk3 hJx3 hR hyr
                    gi_wp2_with fail
                    refine bodyPost_ret (results_none rfl _ _ _) rfl ?_
                    exact ⟨⟨_, rfl⟩, D3.out, .inr ⟨_, HPX.out, by simpa [List.append_assoc] using J3.out⟩⟩
                · have hmr := List.take_of_length_le (l := flat) (i := m) (by omega)
                  have HMR := Lib.hid hmr
                  clear hj hd hk hc5 ho hmr
                  gi_wp2_with fail
                  go_roundw
                  case rel =>
                    refine ⟨j + 1, by omega, by go_num, ?_, HD6.out, HK6.out, HC6.out⟩
                    have h := HJ6.out
                    rw [HMR.out] at h
                    rw [HFLAT.out, HSN3.out]
                    exact h
                  case measure => simp [intOf]; omega
        · have hjr := List.take_of_length_le (l := round) (i := j) (by omega)
          have HJR := Lib.hid hjr
          clear hj hd hk hc5 hjr
          gi_wp2_with fail
          go_roundw
          case rel =>
            refine ⟨i + 1, by omega, by go_num, ?_, HD2.out, HK2.out, HC2.out⟩
            have h := HJ2.out
            rw [HJR.out] at h
            rw [HSUC.out]
            exact h
          case measure => simp [intOf]; omega
    · have hfin := Lib.hid (show hP1 s p i = s.heatTies p by
        have : i = p.length := by omega
        subst this; rfl)
      clear hj hd hk hc5
      gi_wp2_with fail
      go_end0
      exact ⟨⟨_, rfl⟩, HD1.out, .inl (by rw [← hfin.out]; exact HJ1.out)⟩

end Go.Proofs.Ytpkadofgmhninaa
