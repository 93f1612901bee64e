/- Whether a plan is right for some heats and stretches, as the statements reckon it: the call. -/
import Derived.Test.YtpkadofgmhninaaAll
import Derived.Test.YtpkadofgmhninaaFar
import Derived.Sort.BigQuietIn
import Derived.Sort.CutIn
namespace Go.Proofs.Ytpkadofgmhninaa
open Go.RowKit
attribute [local go_sem] Oper.semAt_some

/-- No colour of a row is fired too often; of the first rounds. -/
def lastRow (s : CSet) (p : Rounds) (x : List Nat) : Bool := x.all fun c => decide ((s.fire p).1 c ≤ (s.paint c).most)
def lastTo (s : CSet) (p : Rounds) (k : Nat) : Bool := (p.take k).all (lastRow s p)
theorem lastTo_succ (s : CSet) (p : Rounds) (k : Nat) (hk : k < p.length) : lastTo s p (k + 1) = (lastTo s p k && lastRow s p (p.getD k [])) := by
  unfold lastTo
  rw [List.take_add_one, List.getElem?_eq_getElem hk, List.all_append, getD_lt _ _ _ hk]
  simp
theorem lastRow_succ (s : CSet) (p : Rounds) (x : List Nat) (c : Nat) : lastRow s p (x ++ [c]) = (lastRow s p x && decide ((s.fire p).1 c ≤ (s.paint c).most)) := by
  unfold lastRow
  rw [List.all_append]
  simp

theorem far_quiet (x y : Nat) (hx : x ≤ 1000000) (hy : y ≤ 1000000) (w : World) (m n : Nat) :
    CallsIn Fence.wide m Try.prog 35 #[.int .i64 (x : Int), .int .i64 (y : Int)] (w.drewN n) fun e w' => e = .returned (.int .i64 (CSet.far (x : Int) (y : Int))) ∧ ∃ k, w' = w.drewN k :=
  CallsIn.quiet_of_same ((callsW (far_any x y hx hy (w.drewN n))).mono fun e w' q => ⟨by rw [q.1]; unfold CSet.far; congr 2; omega, q.2⟩)
theorem far_quiet2 (x y : Nat) (hx : x ≤ 1000000) (hy : y ≤ 1000000) (w : World) (m M n : Nat) :
    CallsIn Fence.wide m Try.prog 35 #[.int .i64 (x : Int), .int .i64 (y : Int)] (w.drewN (M + n)) fun e w' => e = .returned (.int .i64 (CSet.far (x : Int) (y : Int))) ∧ ∃ k, w' = w.drewN (M + k) :=
  (callsW (far_any x y hx hy (w.drewN (M + n)))).mono fun e w' q => ⟨by rw [q.1]; unfold CSet.far; congr 2; omega, n, q.2⟩
theorem Pairs.cells {W : World} {a : Option Addr} {n c : Nat} {es : List (Nat × Nat)} (h : Pairs W (.slice a n c) es) {i : Nat} (hi : i < es.length) : ∃ b off, a = some ⟨b, off, none⟩ ∧ W.cell? ⟨b, off + i * 2, none⟩ = some (.int .i64 ((es.getD i (0, 0)).1 : Int)) ∧ W.cell? ⟨b, off + i * 2 + 1, none⟩ = some (.int .i64 ((es.getD i (0, 0)).2 : Int)) := by
  obtain ⟨a', c', e, _, _, _, h3⟩ := h
  injection e with e1 e2 e3
  subst e1
  exact h3 i hi
theorem no_last {s : CSet} {p : Rounds} {h t : Nat → Int} {x : List Nat} {c : Nat} (hx : x ∈ p) (hc : c ∈ x) (hn : ¬ (s.fire p).1 c ≤ (s.paint c).most) : CSet.rightB s p h t = false := by
  rw [Bool.eq_false_iff]
  intro e
  unfold CSet.rightB at e
  rw [Bool.and_eq_true] at e
  exact hn (of_decide_eq_true (List.all_eq_true.1 (List.all_eq_true.1 e.1 x hx) c hc))
theorem no_eat {s : CSet} {p : Rounds} {h t : Nat → Int} {e : Nat × Nat} (he : e ∈ s.eats) (hn : CSet.okEat p e = false) : CSet.rightB s p h t = false := by
  rw [Bool.eq_false_iff]
  intro q
  unfold CSet.rightB at q
  rw [Bool.and_eq_true, Bool.and_eq_true] at q
  have := List.all_eq_true.1 q.2.1 e he
  rw [hn] at this; cases this
theorem no_pair {s : CSet} {p : Rounds} {h t : Nat → Int} {a b : Nat} (ha : a < s.paints.length) (hb : b < s.paints.length) (hn : CSet.okPair s p h t a b = false) : CSet.rightB s p h t = false := by
  rw [Bool.eq_false_iff]
  intro q
  unfold CSet.rightB at q
  rw [Bool.and_eq_true, Bool.and_eq_true] at q
  have := List.all_eq_true.1 (List.all_eq_true.1 q.2.2 a (List.mem_range.2 ha)) b (List.mem_range.2 hb)
  rw [hn] at this; cases this
theorem seat_bound (p : Rounds) (c : Nat) : -9 ≤ CSet.seat p c ∧ CSet.seat p c ≤ p.length := by
  rcases CSet.seat_cases p c with e | ⟨i, h1, _, h3⟩ <;> omega
/-- The rows of pairs that are right. -/
def rowTo (s : CSet) (p : Rounds) (h t : Nat → Int) (a b : Nat) : Bool := (List.range b).all fun b => CSet.okPair s p h t a b
def rowsTo (s : CSet) (p : Rounds) (h t : Nat → Int) (a : Nat) : Bool := (List.range a).all fun a => rowTo s p h t a s.paints.length
theorem rowTo_succ (s : CSet) (p : Rounds) (h t : Nat → Int) (a b : Nat) : rowTo s p h t a (b + 1) = (rowTo s p h t a b && CSet.okPair s p h t a b) := by
  unfold rowTo; rw [List.range_succ, List.all_append]; simp
theorem rowsTo_succ (s : CSet) (p : Rounds) (h t : Nat → Int) (a : Nat) : rowsTo s p h t (a + 1) = (rowsTo s p h t a && rowTo s p h t a s.paints.length) := by
  unfold rowsTo; rw [List.range_succ, List.all_append]; simp

set_option maxRecDepth 100000 in
set_option maxHeartbeats 16000000 in
theorem right_any (s : CSet) (hs : s.Ok) (v rv hv tv : Value) (p : Rounds) (H T : List Nat) (w : World) (hsv : SetV w v s) (hr : Rnds w rv p) (hh : Cols w hv H) (ht : Cols w tv T) (hH : H.length = s.paints.length) (hT : T.length = s.paints.length)
    (hHb : ∀ c, H.getD c 0 ≤ 1000000) (hTb : ∀ c, T.getD c 0 ≤ 1000000) (hp : ∀ r, r ∈ p → ∀ c, c ∈ r → c < s.paints.length) (hlen : p.length ≤ 1000) (hrl : ∀ r, r ∈ p → r.length ≤ 1000) :
    Calls Try.prog 15 #[v, rv, hv, tv] w fun e w' => e = .returned (.bool (CSet.rightB s p (fun c => ((H.getD c 0 : Nat) : Int)) (fun c => ((T.getD c 0 : Nat) : Int)))) ∧ Bel w w' := by
  have KA := Lib.hid (fun W (hW : Bel w W) => all_any s hs v rv p W (hsv.bel hW) (hr.bel hW) hp hlen hrl)
  obtain ⟨pv, ev, rfl, h1, h2⟩ := hsv
  have HP := Lib.hid h1
  have HE := Lib.hid h2
  have HR := Lib.hid hr
  have HX := Lib.hid hp
  have HL := Lib.hid hrl
  have HS := Lib.hid hs
  have HHV := Lib.hid hh
  have HTV := Lib.hid ht
  have HHB := Lib.hid hHb
  have HTB := Lib.hid hTb
  obtain ⟨pa, pc, rfl, -, -, -, -⟩ := h1
  obtain ⟨ea, ec, rfl, -, -, -, -⟩ := h2
  obtain ⟨ra, rc, rfl, hr1, hr2, -, -⟩ := hr
  obtain ⟨ha, hc, rfl⟩ := cols_some' hh
  obtain ⟨ta, tc, rfl⟩ := cols_some' ht
  unfold maxLen at hr2
  have HHL := Lib.hid hH
  have HTL := Lib.hid hT
  rw [hH, hT]
  clear hp hrl hs hh ht hHb hTb hH hT
  have hn5 := HS.out.n5
  obtain ⟨c0, c1, c2, c3⟩ := C4.new w (.slice pa s.paints.length pc) (.int .i64 s.near) (.int .i64 s.give) (.slice ea s.eats.length ec) 31
  have HC0 := Lib.hid (C4.new w (.slice pa s.paints.length pc) (.int .i64 s.near) (.int .i64 s.give) (.slice ea s.eats.length ec) 31)
  refine (callsIn_wide (n := 0)).1 (callsIn_of_wp Try.func15 rfl trivial ?_ rfl)
  simp only [Try.ntmps15, List.size_toArray, List.length_cons, List.length_nil, Nat.reduceAdd, Nat.reduceSub, Array.replicate_succ, Array.replicate_zero, List.push_toArray, List.append_toArray, List.nil_append, List.cons_append]
  gi_wp2_with fail
  refine ⟨trivial, rfl, (callsW (KA.out _ ((Bel.refl w).alloc _))).mono ?_⟩
  rintro e w1 ⟨rfl, hb⟩
  have HC1 := Lib.hid (HC0.out.bel hb)
  have HB1 := Lib.hid (((Bel.refl w).alloc _).trans hb)
  have hn1 : w.heap.size < w1.heap.size := by have := hb.size; simp at this; omega
  clear hb c0 c1 c2 c3 KA HC0
  simp only [eachV]
  gi_wp2_with fail
  obtain ⟨W0, hW0⟩ : ∃ W0, (w1.alloc (.cells #[.int .i64 ((s.fire p).1 0), .int .i64 ((s.fire p).1 1), .int .i64 ((s.fire p).1 2), .int .i64 ((s.fire p).1 3), .int .i64 ((s.fire p).1 4)] 50)).alloc (.cells #[.int .i64 (-9), .int .i64 (-9), .int .i64 (-9), .int .i64 (-9), .int .i64 (-9)] 50) = W0 := ⟨_, rfl⟩
  rw [hW0]
  have hf1 : Five W0 w1.heap.size (s.fire p).1 50 := by
    rw [← hW0]; exact Five.bel (World.alloc_heap_new w1 _) ((Bel.refl _).alloc _)
  have hf2 : Five W0 (w1.heap.size + 1) (fun _ => -9) 50 := by
    rw [← hW0]
    have := World.alloc_heap_new (w1.alloc (.cells #[.int .i64 ((s.fire p).1 0), .int .i64 ((s.fire p).1 1), .int .i64 ((s.fire p).1 2), .int .i64 ((s.fire p).1 3), .int .i64 ((s.fire p).1 4)] 50)) (.cells #[.int .i64 (-9), .int .i64 (-9), .int .i64 (-9), .int .i64 (-9), .int .i64 (-9)] 50)
    rw [World.size_alloc] at this
    exact this
  have hb0 : Bel w1 W0 := by rw [← hW0]; exact ((Bel.refl _).alloc _).alloc _
  have HZ := Lib.hid (show W0.heap.size = w1.heap.size + 2 by rw [← hW0]; simp)
  have HF1 := Lib.hid hf1
  have HF2 := Lib.hid hf2
  have HB0 := Lib.hid (HB1.out.trans hb0)
  have HCW := Lib.hid (HC1.out.bel hb0)
  clear hW0 hf1 hf2 hb0 HC1 HB1
  generalize hB : w1.heap.size = B at *
  clear hB w1
  gi_loopw [12] (fun iv wr => ∃ k : Nat, k ≤ p.length ∧ iv = .int .i64 k ∧ lastTo s p k = true ∧ Five wr (B + 1) (CSet.seatTo p k) 50 ∧ But (B + 1) W0 wr) (fun iv _ => p.length - (intOf iv).toNat)
  case atStart => exact ⟨0, Nat.zero_le _, rfl, rfl, HF2.out, But.refl _ _⟩
  case round =>
    obtain ⟨k, hk, rfl, hok, hf, hb⟩ := hrel
    have HOK := Lib.hid hok
    have HF := Lib.hid hf
    have HB := Lib.hid hb
    clear hok hf hb
    by_cases hkp : k < p.length
    · have z0 : decide (k < p.length) = true := decide_eq_true hkp
      obtain ⟨b, off, xv, rfl, xcell, hxc⟩ := HR.out.elem hkp
      have hxm : p.getD k [] ∈ p := by rw [getD_lt _ _ _ hkp]; exact List.getElem_mem hkp
      have HXC := Lib.hid hxc
      have XCELL := Lib.hid xcell
      have HXX := Lib.hid (HX.out _ hxm)
      have HXL := Lib.hid (HL.out _ hxm)
      have HXM := Lib.hid hxm
      have HSS := Lib.hid (show ∀ c, CSet.seatTo p (k + 1) c = if (p.getD k []).contains c then (k : Int) else CSet.seatTo p k c from fun _ => rfl)
      have HLS := Lib.hid (lastTo_succ s p k hkp)
      clear hxc xcell hxm
      generalize CSet.seatTo p k = g at *
      generalize p.getD k [] = x at *
      obtain ⟨xa, xc, rfl⟩ := cols_some' HXC.out
      gi_wp2_with fail
      gi_loopw [13] (fun iv wr => ∃ q : Nat, q ≤ x.length ∧ iv = .int .i64 q ∧ lastRow s p (x.take q) = true ∧ Five wr (B + 1) (fun c => if (x.take q).contains c then (k : Int) else g c) 50 ∧ But (B + 1) W0 wr) (fun iv _ => x.length - (intOf iv).toNat)
      case atStart => exact ⟨0, Nat.zero_le _, rfl, rfl, HF.out.ext (fun c _ => rfl), HB.out⟩
      case round =>
        obtain ⟨q, hq, rfl, hok2, hf, hb⟩ := hrel
        have HOK2 := Lib.hid hok2
        have HFQ := Lib.hid hf
        have HBQ := Lib.hid hb
        have HBV := Lib.hid (hb.bel HB0.out (by omega))
        clear hok2 hf hb
        have xcell := HBV.out.cell XCELL.out
        by_cases hql : q < x.length
        · have z1 : decide (q < x.length) = true := decide_eq_true hql
          obtain ⟨xb, xoff, rfl, qcell⟩ := (HXC.out.bel HBV.out).cellAt hql
          have hxq : x.getD q 0 ∈ x := by rw [getD_lt _ _ _ hql]; exact List.getElem_mem hql
          have hcm : x.getD q 0 < s.paints.length := HXX.out _ hxq
          have HTQ := Lib.hid (take_snocN x q hql)
          have HXQ := Lib.hid hxq
          obtain ⟨pb, poff, rfl, pc0, -, -, -, -, pcell⟩ := HP.out.cells hcm
          have hpd : s.paints.getD (x.getD q 0) ⟨0, 0, 0, 0, 0, 0⟩ = s.paint (x.getD q 0) := rfl
          rw [hpd] at pcell
          clear pc0 hpd hxq
          generalize x.getD q 0 = c at *
          have hc5 : c < 5 := by omega
          obtain ⟨y0, y1⟩ := HFQ.out.cell hc5
          have hbs := But.set (B + 1) c wr (.int .i64 (k : Int))
          have hbv2 : Bel w (wr.setCell ⟨B + 1, c, none⟩ (.int .i64 (k : Int))) := (HBQ.out.trans hbs).bel HB0.out (by omega)
          have pcell2 := hbv2.cell pcell
          have ecell := ((HF1.out.but (HBQ.out.trans hbs) (by omega)).cell hc5).1
          obtain ⟨s0, -⟩ := (HBQ.out.trans hbs).c4 (by omega) HCW.out
          have HBV2 := Lib.hid hbv2
          clear hbs hbv2
          have hxl := HXL.out
          by_cases hle : (s.fire p).1 c ≤ (s.paint c).most
          · have l0 : decide ((s.fire p).1 c > (s.paint c).most) = false := decide_eq_false (by omega)
            have l1 : decide ((s.paint c).most < (s.fire p).1 c) = false := decide_eq_false (by omega)
            have HLE := Lib.hid hle
            have HLR := Lib.hid (lastRow_succ s p (x.take q) c)
            clear hle
            generalize (s.paint c).most = mo at *
            generalize (s.fire p).1 c = fc at *
            gi_wp2_with fail
            gi_big_quiet (fail)
            gi_wp2_with fail
            go_roundw
            case rel =>
              refine ⟨q + 1, by omega, by go_num, ?_, ((HFQ.out.set hc5 (k : Int)).ext (fun d _ => ?_)).bel (bel_drewN _ _), (HBQ.out.trans (But.set _ _ _ _)).trans ((bel_drewN _ _).but _)⟩
              · rw [HTQ.out, HLR.out, HOK2.out]; simpa using HLE.out
              · rw [HTQ.out]
                by_cases e : d = c
                · subst e; simp
                · rw [if_neg e]; simp [e]
            case measure => simp [intOf]; omega
          · have l0 : decide ((s.fire p).1 c > (s.paint c).most) = true := decide_eq_true (by omega)
            have l1 : decide ((s.paint c).most < (s.fire p).1 c) = true := decide_eq_true (by omega)
            have hno := no_last (h := fun c => ((H.getD c 0 : Nat) : Int)) (t := fun c => ((T.getD c 0 : Nat) : Int)) HXM.out HXQ.out hle
            have HNO := Lib.hid hno
            clear hno hle
            generalize (s.paint c).most = mo at *
            generalize (s.fire p).1 c = fc at *
            gi_wp2_with fail
            gi_big_quiet (fail)
            gi_wp2_with fail
            go_ret
            exact ⟨ret_bool HNO.out.symm, HBV2.out.trans (bel_drewN _ _)⟩
        · obtain rfl : q = x.length := by omega
          have hf := HFQ.out
          have hok2 := HOK2.out
          rw [List.take_length] at hf hok2
          have HFW := Lib.hid hf
          have HOW := Lib.hid hok2
          clear hf hok2
          gi_wp2_with fail
          go_roundw
          case rel =>
            refine ⟨k + 1, by omega, by go_num, by rw [HLS.out, HOK.out, HOW.out]; rfl, HFW.out.ext (fun c _ => (HSS.out c).symm), HBQ.out⟩
          case measure => simp [intOf]; omega
    · obtain rfl : k = p.length := by omega
      have hall : p.all (lastRow s p) = true := by have := HOK.out; unfold lastTo at this; rwa [List.take_length] at this
      have HALL := Lib.hid hall
      have HSE := Lib.hid (show Five wr (B + 1) (CSet.seat p) 50 from HF.out)
      have HBW := Lib.hid (HB.out.bel HB0.out (by omega))
      have HCV := Lib.hid (HB.out.c4 (by omega) HCW.out)
      clear hall HOK HF
      gi_wp2_with fail
      obtain ⟨w3, rfl⟩ : ∃ w3, w3 = wr := ⟨_, rfl⟩
      gi_loopw [15] (fun iv wr => ∃ k : Nat, k ≤ s.eats.length ∧ iv = .int .i64 k ∧ (s.eats.take k).all (CSet.okEat p) = true ∧ Bel w3 wr) (fun iv _ => s.eats.length - (intOf iv).toNat)
      case atStart => exact ⟨0, Nat.zero_le _, rfl, rfl, Bel.refl _⟩
      case round =>
        obtain ⟨k, hk, rfl, hok, hb⟩ := hrel
        have HOK := Lib.hid hok
        have HBV := Lib.hid hb
        obtain ⟨c0, c1, c2, c3⟩ := HCV.out.bel hb
        clear hok hb
        by_cases hkl : k < s.eats.length
        · have z0 : decide (k < s.eats.length) = true := decide_eq_true hkl
          obtain ⟨eb, eoff, rfl, k0, k1⟩ := (HE.out.bel (HBW.out.trans HBV.out)).cells hkl
          obtain ⟨p1, p2, p3⟩ := HS.out.pairs k hkl
          have HTE := Lib.hid (show s.eats.take (k + 1) = s.eats.take k ++ [s.eats.getD k (0, 0)] by rw [List.take_add_one, List.getElem?_eq_getElem hkl, List.getD, List.getElem?_eq_getElem hkl]; rfl)
          have HEM := Lib.hid (show s.eats.getD k (0, 0) ∈ s.eats by rw [List.getD, List.getElem?_eq_getElem hkl]; exact List.getElem_mem hkl)
          have he8 := HS.out.eats
          generalize hxe : s.eats.getD k (0, 0) = e at *
          obtain ⟨a, b⟩ := e
          simp only at k0 k1 p1 p2 p3
          have ha5 : a < 5 := by omega
          have hb5 : b < 5 := by omega
          have sca := (((HSE.out.bel HBV.out).bel ((Bel.refl _).alloc (.cells #[.int .i64 (a : Int), .int .i64 (b : Int)] 85))).cell ha5).1
          have scb := (((HSE.out.bel HBV.out).bel ((Bel.refl _).alloc (.cells #[.int .i64 (a : Int), .int .i64 (b : Int)] 85))).cell hb5).1
          obtain ⟨n0, n1⟩ := C2.new wr (.int .i64 (a : Int)) (.int .i64 (b : Int)) 85
          have HOE := Lib.hid (show CSet.okEat p (a, b) = !(decide (0 ≤ CSet.seat p b) && decide (CSet.seat p b < CSet.seat p a)) from rfl)
          have hBA := Lib.hid ((HBW.out.trans HBV.out).alloc (.cells #[.int .i64 (a : Int), .int .i64 (b : Int)] 85))
          have hBL := Lib.hid (HBV.out.alloc (.cells #[.int .i64 (a : Int), .int .i64 (b : Int)] 85))
          generalize CSet.seat p a = sa at sca HOE
          generalize CSet.seat p b = sb at scb HOE
          by_cases h1 : 0 ≤ sb
          · have d1 : decide (sb ≥ 0) = true := decide_eq_true h1
            by_cases h2 : sb < sa
            · have d2 : decide (sa > sb) = true := decide_eq_true h2
              have HNO := Lib.hid (no_eat (h := fun c => ((H.getD c 0 : Nat) : Int)) (t := fun c => ((T.getD c 0 : Nat) : Int)) HEM.out (by rw [HOE.out]; simp [h1, h2]))
              gi_wp2_with fail
              gi_big_quiet (fail)
              gi_wp2_with fail
              go_ret
              exact ⟨ret_bool HNO.out.symm, hBA.out.trans (bel_drewN _ _)⟩
            · have d2 : decide (sa > sb) = false := decide_eq_false h2
              have HOE2 := Lib.hid (show CSet.okEat p (a, b) = true by rw [HOE.out]; simp [h2])
              gi_wp2_with fail
              gi_big_quiet (fail)
              gi_wp2_with fail
              go_roundw
              case rel =>
                refine ⟨k + 1, by omega, by go_num, ?_, hBL.out.trans (bel_drewN _ _)⟩
                rw [HTE.out, List.all_append, HOK.out]; simpa using HOE2.out
              case measure => simp [intOf]; omega
          · have d1 : decide (sb ≥ 0) = false := decide_eq_false h1
            have HOE2 := Lib.hid (show CSet.okEat p (a, b) = true by rw [HOE.out]; simp [h1])
            gi_wp2_with fail
            gi_big_quiet (fail)
            gi_wp2_with fail
            go_roundw
            case rel =>
              refine ⟨k + 1, by omega, by go_num, ?_, hBL.out.trans (bel_drewN _ _)⟩
              rw [HTE.out, List.all_append, HOK.out]; simpa using HOE2.out
            case measure => simp [intOf]; omega
        · obtain rfl : k = s.eats.length := by omega
          have hall2 := HOK.out
          rw [List.take_length] at hall2
          have HALL2 := Lib.hid hall2
          have HBT := Lib.hid (HBW.out.trans HBV.out)
          replace HSE := Lib.hid (HSE.out.bel HBV.out)
          replace HCV := Lib.hid (HCV.out.bel HBV.out)
          clear hall2 HOK
          gi_wp2_with fail
          clear c0 c1 c2 c3 HBV
          obtain ⟨w4, rfl⟩ : ∃ w4, w4 = wr := ⟨_, rfl⟩
          gi_loopw [17] (fun iv wr => ∃ a : Nat, a ≤ s.paints.length ∧ iv = .int .i64 a ∧ rowsTo s p (fun c => ((H.getD c 0 : Nat) : Int)) (fun c => ((T.getD c 0 : Nat) : Int)) a = true ∧ Bel w4 wr) (fun iv _ => s.paints.length - (intOf iv).toNat)
          case atStart => exact ⟨0, Nat.zero_le _, rfl, rfl, Bel.refl _⟩
          case round =>
            obtain ⟨a, ha1, rfl, hra, hb⟩ := hrel
            have HRA := Lib.hid hra
            have HBA := Lib.hid hb
            obtain ⟨c0, c1, c2, c3⟩ := HCV.out.bel hb
            clear hra hb
            by_cases hal : a < s.paints.length
            · have z0 : decide (a < s.paints.length) = true := decide_eq_true hal
              gi_wp2_with fail
              obtain ⟨w5, rfl⟩ : ∃ w5, w5 = wr := ⟨_, rfl⟩
              gi_loopw [18] (fun iv wr => ∃ b : Nat, b ≤ s.paints.length ∧ iv = .int .i64 b ∧ rowTo s p (fun c => ((H.getD c 0 : Nat) : Int)) (fun c => ((T.getD c 0 : Nat) : Int)) a b = true ∧ Bel w4 wr) (fun iv _ => s.paints.length - (intOf iv).toNat)
              case atStart => exact ⟨0, Nat.zero_le _, rfl, rfl, HBA.out⟩
              case round =>
                obtain ⟨b, hb1, rfl, hrb, hb⟩ := hrel
                have HROW := Lib.hid hrb
                have HBB := Lib.hid hb
                obtain ⟨c0, c1, c2, c3⟩ := HCV.out.bel hb
                clear hrb
                by_cases hbl : b < s.paints.length
                · have z1 : decide (b < s.paints.length) = true := decide_eq_true hbl
                  have hBT2 := HBT.out.trans hb
                  have HBT := Lib.hid hBT2
                  have sca := ((HSE.out.bel hb).cell (c := a) (by omega)).1
                  have scb := ((HSE.out.bel hb).cell (c := b) (by omega)).1
                  obtain ⟨hbk, hoff, rfl, hca⟩ := (HHV.out.bel hBT2).cellAt (j := a) (by rw [HHL.out]; exact hal)
                  obtain ⟨hbk2, hoff2, e1, hcb⟩ := (HHV.out.bel hBT2).cellAt (j := b) (by rw [HHL.out]; exact hbl)
                  injection e1 with e1
                  injection e1 with e1 e2
                  subst e1 e2
                  obtain ⟨tbk, toff, rfl, tca⟩ := (HTV.out.bel hBT2).cellAt (j := a) (by rw [HTL.out]; exact hal)
                  obtain ⟨tbk2, toff2, e1, tcb⟩ := (HTV.out.bel hBT2).cellAt (j := b) (by rw [HTL.out]; exact hbl)
                  injection e1 with e1
                  injection e1 with e1 e2
                  subst e1 e2
                  have HRS := Lib.hid (rowTo_succ s p (fun c => ((H.getD c 0 : Nat) : Int)) (fun c => ((T.getD c 0 : Nat) : Int)) a b)
                  have HPI := Lib.hid (CSet.okPair_iff (s := s) (p := p) (h := fun c => ((H.getD c 0 : Nat) : Int)) (t := fun c => ((T.getD c 0 : Nat) : Int)) (a := a) (b := b))
                  have KHF := Lib.hid (far_quiet _ _ (HHB.out a) (HHB.out b) wr)
                  have KTF := Lib.hid (far_quiet2 _ _ (HTB.out a) (HTB.out b) wr)
                  have HNP := Lib.hid (fun (hn : CSet.okPair s p (fun c => ((H.getD c 0 : Nat) : Int)) (fun c => ((T.getD c 0 : Nat) : Int)) a b = false) => no_pair hal hbl hn)
                  have hsa := seat_bound p a
                  have hsb := seat_bound p b
                  clear hb hBT2
                  by_cases hab : a = b
                  · subst hab
                    generalize CSet.seat p a = sa at *
                    generalize H.getD a 0 = xa at *
                    generalize T.getD a 0 = ya at *
                    generalize CSet.okPair s p (fun c => ((H.getD c 0 : Nat) : Int)) (fun c => ((T.getD c 0 : Nat) : Int)) a a = op at *
                    by_cases a0 : sa < 0
                    · have d0 : decide (sa < 0) = true := decide_eq_true a0
                      have HOP := Lib.hid (show op = true from HPI.out.2 (fun _ _ => by omega))
                      gi_wp2_with fail
                      go_roundw
                      case rel => exact ⟨a + 1, by omega, by go_num, by rw [HRS.out, HROW.out, HOP.out]; rfl, HBB.out⟩
                      case measure => simp [intOf]; omega
                    · have d0 : decide (sa < 0) = false := decide_eq_false a0
                      have d2 : decide (sa > sa) = false := decide_eq_false (by omega)
                      have d3 : (sa == sa + 1) = false := beq_eq_false_iff_ne.2 (by omega)
                      have HOP := Lib.hid (show op = true from HPI.out.2 (fun _ _ => ⟨fun q1 _ => absurd rfl q1, fun q => by omega, fun q => by omega⟩))
                      gi_wp2_with fail
                      refine wpIn_region_quiet_lit rfl (by kernel_rfl) (by kernel_rfl) ?_
                      repeat (gi_big_quiet_step (fail))
                      refine BigFrame.wpQuietIn_skip (fun _ _ _ _ => trivial) rfl ?_
                      simp only [Act.put, List.setIfInBounds_toArray, List.set_cons_succ, List.set_cons_zero]
                      repeat (gi_big_quiet_step (fail))
                      refine wpQuietIn_nil ?_
                      intro _ hw'
                      obtain ⟨nq, rfl⟩ := hw'
                      gi_wp2_with fail
                      gi_big_quiet (fail)
                      gi_wp2_with fail
                      refine wpIn_region_quiet_lit rfl (by kernel_rfl) (by kernel_rfl) ?_
                      repeat (gi_big_quiet_step (fail))
                      refine BigFrame.wpQuietIn_skip (fun _ _ _ _ => trivial) rfl ?_
                      simp only [Act.put, List.setIfInBounds_toArray, List.set_cons_succ, List.set_cons_zero]
                      repeat (gi_big_quiet_step (fail))
                      refine wpQuietIn_nil ?_
                      intro _ hw'
                      obtain ⟨nq, rfl⟩ := hw'
                      gi_wp2_with fail
                      go_roundw
                      case rel => exact ⟨a + 1, by omega, by go_num, by rw [HRS.out, HROW.out, HOP.out]; rfl, HBB.out.trans (bel_drewN _ _)⟩
                      case measure => simp [intOf]; omega
                  · have n0 : ((a : Int) != (b : Int)) = true := by rw [bne_iff_ne]; omega
                    have HAB := Lib.hid hab
                    clear hab
                    generalize CSet.seat p a = sa at *
                    generalize CSet.seat p b = sb at *
                    generalize H.getD a 0 = xa at *
                    generalize H.getD b 0 = xb at *
                    generalize T.getD a 0 = ya at *
                    generalize T.getD b 0 = yb at *
                    generalize CSet.okPair s p (fun c => ((H.getD c 0 : Nat) : Int)) (fun c => ((T.getD c 0 : Nat) : Int)) a b = op at *
                    by_cases a0 : sa < 0
                    · have d0 : decide (sa < 0) = true := decide_eq_true a0
                      have HOP := Lib.hid (show op = true from HPI.out.2 (fun _ _ => by omega))
                      gi_wp2_with fail
                      go_roundw
                      case rel => exact ⟨b + 1, by omega, by go_num, by rw [HRS.out, HROW.out, HOP.out]; rfl, HBB.out⟩
                      case measure => simp [intOf]; omega
                    · have d0 : decide (sa < 0) = false := decide_eq_false a0
                      by_cases b0 : sb < 0
                      · have d1 : decide (sb < 0) = true := decide_eq_true b0
                        have HOP := Lib.hid (show op = true from HPI.out.2 (fun _ _ => by omega))
                        gi_wp2_with fail
                        go_roundw
                        case rel => exact ⟨b + 1, by omega, by go_num, by rw [HRS.out, HROW.out, HOP.out]; rfl, HBB.out⟩
                        case measure => simp [intOf]; omega
                      · have d1 : decide (sb < 0) = false := decide_eq_false b0
                        by_cases hs : sa = sb
                        · subst hs
                          have d2 : decide (sa > sa) = false := decide_eq_false (by omega)
                          have d3 : (sa == sa + 1) = false := beq_eq_false_iff_ne.2 (by omega)
                          have kh := KHF.out
                          by_cases hf : CSet.far (xa : Int) (xb : Int) ≤ s.near
                          · have d4 : decide (CSet.far (xa : Int) (xb : Int) > s.near) = false := decide_eq_false (by omega)
                            have d5 : decide (s.near < CSet.far (xa : Int) (xb : Int)) = false := decide_eq_false (by omega)
                            have HOP := Lib.hid (show op = true from HPI.out.2 (fun _ _ => ⟨fun _ _ => hf, fun q => by omega, fun q => by omega⟩))
                            clear hf
                            gi_wp2_with fail
                            refine wpIn_region_quiet_lit rfl (by kernel_rfl) (by kernel_rfl) ?_
                            repeat (gi_big_quiet_step (fail))
                            refine BigFrame.wpQuietIn_want (fun _ _ _ _ => trivial) rfl (fun K hK => ?_)
                            gi_big_quiet_op
                            refine ⟨_, fun _ => ⟨rfl, kh _ _⟩, ?_⟩
                            refine hK _ ?_
                            clear hK K
                            repeat (gi_big_quiet_step (fail))
                            refine wpQuietIn_nil ?_
                            intro _ hw'
                            obtain ⟨nq, rfl⟩ := hw'
                            gi_wp2_with fail
                            gi_big_quiet (fail)
                            gi_wp2_with fail
                            refine wpIn_region_quiet_lit rfl (by kernel_rfl) (by kernel_rfl) ?_
                            repeat (gi_big_quiet_step (fail))
                            refine BigFrame.wpQuietIn_skip (fun _ _ _ _ => trivial) rfl ?_
                            simp only [Act.put, List.setIfInBounds_toArray, List.set_cons_succ, List.set_cons_zero]
                            repeat (gi_big_quiet_step (fail))
                            refine wpQuietIn_nil ?_
                            intro _ hw'
                            obtain ⟨nq, rfl⟩ := hw'
                            gi_wp2_with fail
                            go_roundw
                            case rel => exact ⟨b + 1, by omega, by go_num, by rw [HRS.out, HROW.out, HOP.out]; rfl, HBB.out.trans (bel_drewN _ _)⟩
                            case measure => simp [intOf]; omega
                          · have d4 : decide (CSet.far (xa : Int) (xb : Int) > s.near) = true := decide_eq_true (by omega)
                            have d5 : decide (s.near < CSet.far (xa : Int) (xb : Int)) = true := decide_eq_true (by omega)
                            have HNO := Lib.hid (HNP.out (by
                              cases hop : op with
                              | false => rfl
                              | true => exact absurd ((HPI.out.1 hop (by omega) (by omega)).1 HAB.out rfl) hf))
                            clear hf
                            gi_wp2_with fail
                            refine wpIn_region_quiet_lit rfl (by kernel_rfl) (by kernel_rfl) ?_
                            repeat (gi_big_quiet_step (fail))
                            refine BigFrame.wpQuietIn_want (fun _ _ _ _ => trivial) rfl (fun K hK => ?_)
                            gi_big_quiet_op
                            refine ⟨_, fun _ => ⟨rfl, kh _ _⟩, ?_⟩
                            refine hK _ ?_
                            clear hK K
                            repeat (gi_big_quiet_step (fail))
                            refine wpQuietIn_nil ?_
                            intro _ hw'
                            obtain ⟨nq, rfl⟩ := hw'
                            gi_wp2_with fail
                            go_ret
                            exact ⟨ret_bool HNO.out.symm, HBT.out.trans (bel_drewN _ _)⟩
                        · have d6 : (sa == sb) = false := beq_eq_false_iff_ne.2 hs
                          by_cases hg : sb < sa
                          · have d7 : decide (sa > sb) = true := decide_eq_true hg
                            have d8 : decide (sb < sa) = true := decide_eq_true hg
                            by_cases hx : xb ≤ xa
                            · have d9 : decide ((xa : Int) ≥ (xb : Int)) = true := decide_eq_true (by omega)
                              have d10 : decide (xb ≤ xa) = true := decide_eq_true hx
                              have HNO := Lib.hid (HNP.out (by
                                cases hop : op with
                                | false => rfl
                                | true => exact absurd ((HPI.out.1 hop (by omega) (by omega)).2.1 hg) (by omega)))
                              gi_wp2_with fail
                              refine wpIn_region_quiet_lit rfl (by kernel_rfl) (by kernel_rfl) ?_
                              repeat (gi_big_quiet_step (fail))
                              refine BigFrame.wpQuietIn_skip (fun _ _ _ _ => trivial) rfl ?_
                              simp only [Act.put, List.setIfInBounds_toArray, List.set_cons_succ, List.set_cons_zero]
                              repeat (gi_big_quiet_step (fail))
                              refine wpQuietIn_nil ?_
                              intro _ hw'
                              obtain ⟨nq, rfl⟩ := hw'
                              gi_wp2_with fail
                              gi_big_quiet (fail)
                              gi_wp2_with fail
                              go_ret
                              exact ⟨ret_bool HNO.out.symm, (HBT.out.trans (bel_drewN _ _)).trans (bel_drewN _ _)⟩
                            · have d9 : decide ((xa : Int) ≥ (xb : Int)) = false := decide_eq_false (by omega)
                              have d10 : decide (xb ≤ xa) = false := decide_eq_false hx
                              by_cases hn : sa = sb + 1
                              · subst hn
                                have kt := KTF.out
                                have hsb2 := hsb.2
                                by_cases hf : CSet.far (ya : Int) (yb : Int) ≤ s.give
                                · have d4 : decide (CSet.far (ya : Int) (yb : Int) > s.give) = false := decide_eq_false (by omega)
                                  have d5 : decide (s.give < CSet.far (ya : Int) (yb : Int)) = false := decide_eq_false (by omega)
                                  have HOP := Lib.hid (show op = true from HPI.out.2 (fun _ _ => ⟨fun _ q => by omega, fun _ => by omega, fun _ => hf⟩))
                                  clear hf
                                  gi_wp2_with fail
                                  refine wpIn_region_quiet_lit rfl (by kernel_rfl) (by kernel_rfl) ?_
                                  repeat (gi_big_quiet_step (fail))
                                  refine BigFrame.wpQuietIn_skip (fun _ _ _ _ => trivial) rfl ?_
                                  simp only [Act.put, List.setIfInBounds_toArray, List.set_cons_succ, List.set_cons_zero]
                                  repeat (gi_big_quiet_step (fail))
                                  refine wpQuietIn_nil ?_
                                  intro _ hw'
                                  obtain ⟨nq, rfl⟩ := hw'
                                  gi_wp2_with fail
                                  gi_big_quiet (fail)
                                  gi_wp2_with fail
                                  refine wpIn_region_quiet_lit rfl (by kernel_rfl) (by kernel_rfl) ?_
                                  repeat (gi_big_quiet_step (fail))
                                  refine BigFrame.wpQuietIn_want (fun _ _ _ _ => trivial) rfl (fun K hK => ?_)
                                  gi_big_quiet_op
                                  refine ⟨_, fun _ => ⟨rfl, kt _ _ _⟩, ?_⟩
                                  refine hK _ ?_
                                  clear hK K
                                  repeat (gi_big_quiet_step (fail))
                                  refine wpQuietIn_nil ?_
                                  intro _ hw'
                                  obtain ⟨nq, rfl⟩ := hw'
                                  gi_wp2_with fail
                                  go_roundw
                                  case rel => exact ⟨b + 1, by omega, by go_num, by rw [HRS.out, HROW.out, HOP.out]; rfl, HBB.out.trans (bel_drewN _ _)⟩
                                  case measure => simp [intOf]; omega
                                · have d4 : decide (CSet.far (ya : Int) (yb : Int) > s.give) = true := decide_eq_true (by omega)
                                  have d5 : decide (s.give < CSet.far (ya : Int) (yb : Int)) = true := decide_eq_true (by omega)
                                  have HNO := Lib.hid (HNP.out (by
                                    cases hop : op with
                                    | false => rfl
                                    | true => exact absurd ((HPI.out.1 hop (by omega) (by omega)).2.2 rfl) hf))
                                  clear hf
                                  gi_wp2_with fail
                                  refine wpIn_region_quiet_lit rfl (by kernel_rfl) (by kernel_rfl) ?_
                                  repeat (gi_big_quiet_step (fail))
                                  refine BigFrame.wpQuietIn_skip (fun _ _ _ _ => trivial) rfl ?_
                                  simp only [Act.put, List.setIfInBounds_toArray, List.set_cons_succ, List.set_cons_zero]
                                  repeat (gi_big_quiet_step (fail))
                                  refine wpQuietIn_nil ?_
                                  intro _ hw'
                                  obtain ⟨nq, rfl⟩ := hw'
                                  gi_wp2_with fail
                                  gi_big_quiet (fail)
                                  gi_wp2_with fail
                                  refine wpIn_region_quiet_lit rfl (by kernel_rfl) (by kernel_rfl) ?_
                                  repeat (gi_big_quiet_step (fail))
                                  refine BigFrame.wpQuietIn_want (fun _ _ _ _ => trivial) rfl (fun K hK => ?_)
                                  gi_big_quiet_op
                                  refine ⟨_, fun _ => ⟨rfl, kt _ _ _⟩, ?_⟩
                                  refine hK _ ?_
                                  clear hK K
                                  repeat (gi_big_quiet_step (fail))
                                  refine wpQuietIn_nil ?_
                                  intro _ hw'
                                  obtain ⟨nq, rfl⟩ := hw'
                                  gi_wp2_with fail
                                  go_ret
                                  exact ⟨ret_bool HNO.out.symm, ((HBT.out.trans (bel_drewN _ _)).trans (bel_drewN _ _)).trans (bel_drewN _ _)⟩
                              · have d3 : (sa == sb + 1) = false := beq_eq_false_iff_ne.2 hn
                                have HOP := Lib.hid (show op = true from HPI.out.2 (fun _ _ => ⟨fun _ q => by omega, fun _ => by omega, fun q => absurd q hn⟩))
                                gi_wp2_with fail
                                refine wpIn_region_quiet_lit rfl (by kernel_rfl) (by kernel_rfl) ?_
                                repeat (gi_big_quiet_step (fail))
                                refine BigFrame.wpQuietIn_skip (fun _ _ _ _ => trivial) rfl ?_
                                simp only [Act.put, List.setIfInBounds_toArray, List.set_cons_succ, List.set_cons_zero]
                                repeat (gi_big_quiet_step (fail))
                                refine wpQuietIn_nil ?_
                                intro _ hw'
                                obtain ⟨nq, rfl⟩ := hw'
                                gi_wp2_with fail
                                gi_big_quiet (fail)
                                gi_wp2_with fail
                                refine wpIn_region_quiet_lit rfl (by kernel_rfl) (by kernel_rfl) ?_
                                repeat (gi_big_quiet_step (fail))
                                refine BigFrame.wpQuietIn_skip (fun _ _ _ _ => trivial) rfl ?_
                                simp only [Act.put, List.setIfInBounds_toArray, List.set_cons_succ, List.set_cons_zero]
                                repeat (gi_big_quiet_step (fail))
                                refine wpQuietIn_nil ?_
                                intro _ hw'
                                obtain ⟨nq, rfl⟩ := hw'
                                gi_wp2_with fail
                                go_roundw
                                case rel => exact ⟨b + 1, by omega, by go_num, by rw [HRS.out, HROW.out, HOP.out]; rfl, HBB.out.trans (bel_drewN _ _)⟩
                                case measure => simp [intOf]; omega
                          · have d7 : decide (sa > sb) = false := decide_eq_false hg
                            have d8 : decide (sb < sa) = false := decide_eq_false hg
                            have d3 : (sa == sb + 1) = false := beq_eq_false_iff_ne.2 (by omega)
                            have HOP := Lib.hid (show op = true from HPI.out.2 (fun _ _ => ⟨fun _ q => absurd q hs, fun q => absurd q hg, fun q => by omega⟩))
                            gi_wp2_with fail
                            refine wpIn_region_quiet_lit rfl (by kernel_rfl) (by kernel_rfl) ?_
                            repeat (gi_big_quiet_step (fail))
                            refine BigFrame.wpQuietIn_skip (fun _ _ _ _ => trivial) rfl ?_
                            simp only [Act.put, List.setIfInBounds_toArray, List.set_cons_succ, List.set_cons_zero]
                            repeat (gi_big_quiet_step (fail))
                            refine wpQuietIn_nil ?_
                            intro _ hw'
                            obtain ⟨nq, rfl⟩ := hw'
                            gi_wp2_with fail
                            gi_big_quiet (fail)
                            gi_wp2_with fail
                            refine wpIn_region_quiet_lit rfl (by kernel_rfl) (by kernel_rfl) ?_
                            repeat (gi_big_quiet_step (fail))
                            refine BigFrame.wpQuietIn_skip (fun _ _ _ _ => trivial) rfl ?_
                            simp only [Act.put, List.setIfInBounds_toArray, List.set_cons_succ, List.set_cons_zero]
                            repeat (gi_big_quiet_step (fail))
                            refine wpQuietIn_nil ?_
                            intro _ hw'
                            obtain ⟨nq, rfl⟩ := hw'
                            gi_wp2_with fail
                            go_roundw
                            case rel => exact ⟨b + 1, by omega, by go_num, by rw [HRS.out, HROW.out, HOP.out]; rfl, HBB.out.trans (bel_drewN _ _)⟩
                            case measure => simp [intOf]; omega
                · obtain rfl : b = s.paints.length := by omega
                  gi_wp2_with fail
                  go_roundw
                  case rel => exact ⟨a + 1, by omega, by go_num, by rw [rowsTo_succ, HRA.out, HROW.out]; rfl, HBB.out⟩
                  case measure => simp [intOf]; omega
            · obtain rfl : a = s.paints.length := by omega
              have hres : CSet.rightB s p (fun c => ((H.getD c 0 : Nat) : Int)) (fun c => ((T.getD c 0 : Nat) : Int)) = true := by
                unfold CSet.rightB
                rw [Bool.and_eq_true, Bool.and_eq_true]
                exact ⟨HALL.out, HALL2.out, HRA.out⟩
              have HRES := Lib.hid hres
              have hfin := HBT.out.trans HBA.out
              clear hres
              gi_wp2_with fail
              go_ret
              exact ⟨ret_bool HRES.out.symm, hfin⟩

end Go.Proofs.Ytpkadofgmhninaa
