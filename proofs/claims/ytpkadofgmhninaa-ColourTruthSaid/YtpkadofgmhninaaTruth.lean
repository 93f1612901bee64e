/- ColourTruth returns true. -/
import Derived.Test.YtpkadofgmhninaaTruthKit
namespace Go.Proofs.Ytpkadofgmhninaa
open Go.RowKit
attribute [local go_sem] Oper.semAt_some

set_option maxRecDepth 100000 in
set_option maxHeartbeats 16000000 in
theorem truth_any (x : Shelf) (hx : x.Ok) (bs : List Nat) (v bv : Value) (w : World) (hv : ShelfV w v x) (hbs : Byts w bv bs) :
    Calls Try.prog 3 #[v, bv] w fun e w' => e = .returned (.bool true) ∧ Bel w w' := by
  have HY := Lib.hid hbs
  obtain ⟨ba, bc, rfl, -, -, -, -⟩ := hbs
  obtain ⟨pv, ev, rfl, ⟨pa, pc, rfl, hpc⟩, ⟨ea, ec, rfl, hec⟩⟩ := hv
  have KM := Lib.hid (fun W (hW : Bel w W) => made_truth x hx _ W ⟨_, _, rfl, B5s.bel hW ⟨pa, pc, rfl, hpc⟩, B2s.bel hW ⟨ea, ec, rfl, hec⟩⟩)
  have HS := Lib.hid (Shelf.set_ok hx)
  have HTR := Lib.hid (shelf_truth hx)
  clear hpc hec hx
  generalize x.set = s at *
  generalize x.heats = H at *
  generalize x.stretches = T at *
  obtain ⟨c0, c1, c2, c3⟩ := C4.new w (.int .u8 x.r0) (.int .u8 x.r1) (.slice pa x.paints.length pc) (.slice ea x.eats.length ec) 26
  refine (callsIn_wide (n := 0)).1 (callsIn_of_wp Try.func3 rfl trivial ?_ rfl)
  simp only [Try.ntmps3, List.size_toArray, List.length_cons, List.length_nil, Nat.reduceAdd, Nat.reduceSub, Array.replicate_succ, Array.replicate_zero, List.push_toArray, List.append_toArray, List.nil_append, List.cons_append]
  gi_wp2_with fail
  refine ⟨trivial, rfl, (callsW (KM.out _ ((Bel.refl w).alloc _))).mono ?_⟩
  rintro e w1 ⟨sv, hv, tv, rfl, hset, hhv, htv, hb⟩
  obtain ⟨pv, ev, rfl, h1, h2⟩ := hset
  have HP := Lib.hid h1
  have HE := Lib.hid h2
  obtain ⟨qa, qc, rfl, -, -, -, -⟩ := h1
  obtain ⟨da, dc, rfl, -, -, -, -⟩ := h2
  have HB1 := Lib.hid (((Bel.refl w).alloc _).trans hb)
  have HHV := Lib.hid hhv
  have HTV := Lib.hid htv
  clear hb c0 c1 c2 c3 KM hhv htv
  have hw1 : C4 (w1.alloc (.cells #[.slice qa s.paints.length qc, .int .i64 s.near, .int .i64 s.give, .slice da s.eats.length dc] 31)) w1.heap.size (.slice qa s.paints.length qc) (.int .i64 s.near) (.int .i64 s.give) (.slice da s.eats.length dc) := C4.new _ _ _ _ _ _
  have HWC := Lib.hid hw1
  obtain ⟨c0, c1, c2, c3⟩ := hw1
  have HN5 := Lib.hid HS.out.n5
  have HY1 := Lib.hid (HY.out.bel (HB1.out.trans ((Bel.refl _).alloc (.cells #[.slice qa s.paints.length qc, .int .i64 s.near, .int .i64 s.give, .slice da s.eats.length dc] 31))))
  gi_wp2_with fail
  refine ⟨trivial, rfl, (callsW (laid_any s.paints.length _ bs _ HY1.out (by have := HN5.out; omega))).mono ?_⟩
  rintro e W1 ⟨rv, rfl, hrn, hb⟩
  have HPO := Lib.hid (planBy_ok s.paints.length bs)
  have HPL := Lib.hid (planBy_len s.paints.length bs)
  rw [show laysUp bs (min s.paints.length bs.length) 5 = planBy s.paints.length bs from rfl] at hrn
  generalize planBy s.paints.length bs = p at *
  obtain ⟨ra, rc, rfl⟩ := rndN_sl' hrn
  have HRV := Lib.hid hrn.rnds
  have HBW := Lib.hid (((Bel.refl w1).alloc _).trans hb)
  have HC := Lib.hid (HWC.out.bel hb)
  have HSV := Lib.hid (show SetV W1 (.agg #[.slice qa s.paints.length qc, .int .i64 s.near, .int .i64 s.give, .slice da s.eats.length dc]) s from ⟨_, _, rfl, HP.out.bel HBW.out, HE.out.bel HBW.out⟩)
  have HHW := Lib.hid (HHV.out.bel HBW.out)
  have HTW := Lib.hid (HTV.out.bel HBW.out)
  have HPW := Lib.hid (HP.out.bel HBW.out)
  have HSB := Lib.hid (HB1.out.trans HBW.out)
  have HRL := Lib.hid (show ∀ r, r ∈ p → r.length ≤ 1000 from fun r hr => by
    have h1 := (HPO.out.2 r hr).len
    have := HN5.out
    omega)
  have HLT := Lib.hid (show ∀ r, r ∈ p → ∀ c, c ∈ r → c < s.paints.length from fun r hr c hc => (HPO.out.1.asc r hr).1 c hc)
  clear hb hrn HWC c0 c1 c2 c3 HB1 HBW HHV HTV HP HE HY1 HY
  generalize w1.heap.size = B at *
  clear w1
  have K1 := Lib.hid (own_any s _ W1 HSV.out (by have := HS.out.n5; omega) (by have := HS.out.eats; omega))
  obtain ⟨c0, c1, c2, c3⟩ := HC.out
  gi_wp2_with fail
  refine ⟨trivial, rfl, (callsW K1.out).mono ?_⟩
  rintro e wa1 ⟨va1, rfl, hset, hb⟩
  have HBa1 := Lib.hid (hb)
  have HVa1 := Lib.hid hset
  clear hset hb K1 c0 c1 c2 c3
  gi_wp2_with fail
  refine ⟨trivial, rfl, (callsW (copied_any _ p wa1 (HRV.out.bel HBa1.out) HPL.out HRL.out)).mono ?_⟩
  rintro e wb1 ⟨cv1, rfl, hrn, hb⟩
  have HCV1 := Lib.hid hrn.rnds
  have HVb1 := Lib.hid (HVa1.out.bel hb)
  have HBb1 := Lib.hid (HBa1.out.trans hb)
  clear hrn hb HVa1 HBa1
  gi_wp2_with fail
  refine ⟨trivial, rfl, (callsW (is_any s HS.out va1 cv1 p wb1 HVb1.out HCV1.out HPO.out.1 HPO.out.2)).mono ?_⟩
  rintro e wc1 ⟨rfl, hb⟩
  have HB1 := Lib.hid (HBb1.out.trans hb)

  clear hb HBb1 HVb1 HCV1
  have K2 := Lib.hid (own_any s _ wc1 (HSV.out.bel HB1.out) (by have := HS.out.n5; omega) (by have := HS.out.eats; omega))
  obtain ⟨c0, c1, c2, c3⟩ := HC.out.bel HB1.out
  gi_wp2_with fail
  refine ⟨trivial, rfl, (callsW K2.out).mono ?_⟩
  rintro e wa2 ⟨va2, rfl, hset, hb⟩
  have HBa2 := Lib.hid (HB1.out.trans hb)
  have HVa2 := Lib.hid hset
  clear hset hb K2 c0 c1 c2 c3
  gi_wp2_with fail
  refine ⟨trivial, rfl, (callsW (copied_any _ p wa2 (HRV.out.bel HBa2.out) HPL.out HRL.out)).mono ?_⟩
  rintro e wb2 ⟨cv2, rfl, hrn, hb⟩
  have HCV2 := Lib.hid hrn.rnds
  have HVb2 := Lib.hid (HVa2.out.bel hb)
  have HBb2 := Lib.hid (HBa2.out.trans hb)
  clear hrn hb HVa2 HBa2
  gi_wp2_with fail
  refine ⟨trivial, rfl, (callsW (heatsC_any s HS.out va2 cv2 p wb2 HVb2.out HCV2.out HPO.out.1 HPO.out.2)).mono ?_⟩
  rintro e wc2 ⟨sfv, ef, rfl, hsf, hb⟩
  have HB2 := Lib.hid (HBb2.out.trans hb)
  have HSF0 := Lib.hid (show SafeO s p sfv ef wc2 from hsf)
  clear hsf
  clear hb HBb2 HVb2 HCV2
  have K3 := Lib.hid (own_any s _ wc2 (HSV.out.bel HB2.out) (by have := HS.out.n5; omega) (by have := HS.out.eats; omega))
  obtain ⟨c0, c1, c2, c3⟩ := HC.out.bel HB2.out
  gi_wp2_with fail
  refine ⟨trivial, rfl, (callsW K3.out).mono ?_⟩
  rintro e wa3 ⟨va3, rfl, hset, hb⟩
  have HBa3 := Lib.hid (HB2.out.trans hb)
  have HBn3 := Lib.hid hb
  have HVa3 := Lib.hid hset
  clear hset hb K3 c0 c1 c2 c3
  gi_wp2_with fail
  refine ⟨trivial, rfl, (callsW (copied_any _ p wa3 (HRV.out.bel HBa3.out) HPL.out HRL.out)).mono ?_⟩
  rintro e wb3 ⟨cv3, rfl, hrn, hb⟩
  have HCV3 := Lib.hid hrn.rnds
  have HVb3 := Lib.hid (HVa3.out.bel hb)
  have HBb3 := Lib.hid (HBa3.out.trans hb)
  have HBm3 := Lib.hid (HBn3.out.trans hb)
  clear hrn hb HVa3 HBa3
  gi_wp2_with fail
  refine ⟨trivial, rfl, (callsW (firingsC_any s HS.out va3 cv3 p wb3 HVb3.out HCV3.out HPO.out.1 HPO.out.2)).mono ?_⟩
  rintro e wc3 ⟨fa, fb, rfl, hf1, hf2, hfr, hb⟩
  have HB3 := Lib.hid (HBb3.out.trans hb)
  have hb2 := HB3.out
  have HFR := Lib.hid hfr
  have HF12 := Lib.hid (And.intro hf1 hf2)
  have HSF := Lib.hid (HSF0.out.bel (HBm3.out.trans hb))
  clear hf1 hf2 hfr hb2
  clear hb HBb3 HVb3 HCV3
  have hcall := right_any s HS.out _ (.slice ra p.length rc) hv tv p H T wc3 (HSV.out.bel HB3.out) (HRV.out.bel HB3.out) (HHW.out.bel HB3.out) (HTW.out.bel HB3.out) HTR.out.hlen HTR.out.tlen HTR.out.hb HTR.out.tb HLT.out HPL.out HRL.out
  have HCALL := Lib.hid hcall
  obtain ⟨c0, c1, c2, c3⟩ := HC.out.bel HB3.out
  clear hcall
  gi_wp2_with fail
  refine ⟨trivial, rfl, (callsW HCALL.out).mono ?_⟩
  rintro e wr6 ⟨rfl, hb⟩
  have HB6 := Lib.hid (HB3.out.trans hb)
  have HSF6 := Lib.hid (HSF.out.bel hb)
  have HFR6 := Lib.hid (show ∀ c, c < s.paints.length → wr6.cell? ⟨fa, c, none⟩ = some (.int .i64 ((s.fire p).1 c)) from fun c hc => hb.cell (HFR.out c hc))
  have HRP := Lib.hid (show CSet.rightB s p (fun c => ((H.getD c 0 : Nat) : Int)) (fun c => ((T.getD c 0 : Nat) : Int)) = true → s.truly [p] = true from fun h => CSet.truly_right HS.out [p] (fun q hq => by simp at hq; subst hq; exact HPO.out.1) _ _ HTR.out.hin HTR.out.tin (fun q hq => by simp at hq; subst hq; exact h))
  have HSR := Lib.hid (show s.surely p = true → CSet.rightB s p (fun c => ((H.getD c 0 : Nat) : Int)) (fun c => ((T.getD c 0 : Nat) : Int)) = true from fun h => CSet.surely_in HS.out HPO.out.1 h _ _ HTR.out.hin HTR.out.tin)
  have HIFF := Lib.hid (surely_iff HS.out HPO.out.1)
  clear hb HCALL c0 c1 c2 c3 HSF HFR
  generalize CSet.rightB s p (fun c => ((H.getD c 0 : Nat) : Int)) (fun c => ((T.getD c 0 : Nat) : Int)) = R at *
  obtain ⟨sa, sn, sc, rfl⟩ : ∃ sa sn sc, sfv = .slice sa sn sc := by
    have h := HSF6.out
    unfold SafeO at h
    split at h
    · obtain ⟨-, a, c, e, -⟩ := h; exact ⟨_, _, _, e⟩
    · exact ⟨_, _, _, h.2⟩
  gi_upto_region 7 with fail
  gi_cut [124] from 29 (fun z wx => z = .bool false ∧ wx = wr6)
  case first =>
    as_aux_lemma =>
      have hun : ∀ b, (undef = Value.bool b) = False := fun b => by unfold undef; simp
      have hsf := HSF6.out
      have hrp := HRP.out
      have hsr := HSR.out
      unfold SafeO at hsf
      obtain ⟨c0, c1, c2, c3⟩ := HC.out.bel HB6.out
      generalize s.truly [p] = P at *
      clear HIFF HSR HRP HSF6
      generalize s.surely p = S at *
      cases S with
      | true =>
        rw [if_pos rfl] at hsf
        obtain ⟨rfl, a', c', e1, -⟩ := hsf
        injection e1 with e1 e2 e3
        subst e1 e2 e3
        obtain rfl := hsr rfl
        obtain rfl := hrp rfl
        clear hsr hrp
        gi_wp2_with fail
        gi_meet
        case rel => exact ⟨rfl, rfl⟩
      | false =>
        rw [if_neg (by simp)] at hsf
        obtain ⟨rfl, e1⟩ := hsf
        injection e1 with e1 e2 e3
        subst e1 e2 e3
        clear hsr
        cases R with
        | true =>
          obtain rfl := hrp rfl
          clear hrp
          gi_wp2_with fail
          gi_meet
          case rel => exact ⟨rfl, rfl⟩
        | false =>
          clear hrp
          cases P with
          | true =>
            gi_wp2_with fail
            gi_meet
            case rel => exact ⟨rfl, rfl⟩
          | false =>
            gi_wp2_with fail
            gi_meet
            case rel => exact ⟨rfl, rfl⟩
  case rest =>
    as_aux_lemma =>
      obtain ⟨rfl, rfl⟩ := hcut
      gi_wp2_with fail
      gi_loopw [18, 19] (fun av iv wr => ∃ y : Nat, y ≤ 1024 ∧ iv = .int .i64 y ∧ av = .bool (endsR s p y) ∧ Bel wc wr) (fun _ iv _ => 1024 - (intOf iv).toNat)
      case atStart => exact ⟨0, Nat.zero_le _, rfl, rfl, Bel.refl _⟩
      case round =>
        as_aux_lemma =>
          obtain ⟨y, hy, rfl, rfl, hb⟩ := hrel
          have HBY := Lib.hid hb
          have hbw := HB6.out.trans hb
          have HBW := Lib.hid hbw
          obtain ⟨c0, c1, c2, c3⟩ := HC.out.bel hbw
          clear hb hbw
          by_cases hlt : y < 1024
          · have h0 : decide ((y : Int) < 1024) = true := decide_eq_true (by omega)
            have KE := Lib.hid (ends_any s HS.out _ y hlt wr (HSV.out.bel HBW.out))
            gi_wp2_with fail
            refine ⟨trivial, rfl, (callsW KE.out).mono ?_⟩
            rintro e w5 ⟨hv5, tv5, rfl, hh5, ht5, hb5⟩
            have HB5 := Lib.hid (HBW.out.trans hb5)
            have HBY5 := Lib.hid (HBY.out.trans hb5)
            have KR := Lib.hid (right_any s HS.out _ (.slice ra p.length rc) hv5 tv5 p (endsH s y s.paints.length) (endsT s y s.paints.length) w5 (HSV.out.bel HB5.out) (HRV.out.bel HB5.out) hh5 ht5 (endsH_len _ _ _) (endsT_len _ _ _) (fun c => (ends_bound HS.out y c).1) (fun c => (ends_bound HS.out y c).2) HLT.out HPL.out HRL.out)
            have HES := Lib.hid (endsR_succ s p y)
            obtain ⟨d0, d1, d2, d3⟩ := HC.out.bel HB5.out
            clear hh5 ht5 hb5 KE c0 c1 c2 c3
            cases hE : endsR s p y with
            | true =>
              rw [hE] at HES
              gi_wp2_with fail
              refine ⟨trivial, rfl, (callsW KR.out).mono ?_⟩
              rintro e w6 ⟨rfl, hb6⟩
              have HBF := Lib.hid (HBY5.out.trans hb6)
              clear hb6
              gi_wp2_with fail
              go_roundw
              case rel => exact ⟨y + 1, by omega, by go_num, by rw [HES.out]; rfl, HBF.out⟩
              case measure => simp [intOf]; omega
            | false =>
              rw [hE] at HES
              gi_wp2_with fail
              refine ⟨trivial, ?_⟩
              gi_wp2_with fail
              go_roundw
              case rel => exact ⟨y + 1, by omega, by go_num, by rw [HES.out]; rfl, HBY5.out⟩
              case measure => simp [intOf]; omega
          · obtain rfl : y = 1024 := by omega
            rw [← HIFF.out]
            have KA := Lib.hid (all_any s HS.out _ (.slice ra p.length rc) p wr (HSV.out.bel HBW.out) (HRV.out.bel HBW.out) HLT.out HPL.out HRL.out)
            gi_wp2_with fail
            refine ⟨trivial, rfl, (callsW KA.out).mono ?_⟩
            rintro e w7 ⟨rfl, hb7⟩
            have HB7 := Lib.hid (HBY.out.trans hb7)
            clear hb7 KA c0 c1 c2 c3
            simp only [eachV]
            gi_wp2_with fail
            obtain ⟨W8, hW8⟩ : ∃ W8, w7.alloc (.cells #[.int .i64 ((s.fire p).1 0), .int .i64 ((s.fire p).1 1), .int .i64 ((s.fire p).1 2), .int .i64 ((s.fire p).1 3), .int .i64 ((s.fire p).1 4)] 50) = W8 := ⟨_, rfl⟩
            rw [hW8]
            have HF8 := Lib.hid (show Five W8 w7.heap.size (s.fire p).1 50 by rw [← hW8]; exact World.alloc_heap_new w7 _)
            have HB8 := Lib.hid (show Bel wc W8 by rw [← hW8]; exact HB7.out.alloc _)
            have HBW8 := Lib.hid (HB6.out.trans HB8.out)
            clear hW8 hy hlt
            generalize w7.heap.size = D at *
            gi_loopw [24] (fun iv wr => ∃ c : Nat, c ≤ s.paints.length ∧ iv = .int .i64 c ∧ Bel W8 wr) (fun iv _ => s.paints.length - (intOf iv).toNat)
            case atStart => exact ⟨0, Nat.zero_le _, rfl, Bel.refl _⟩
            case round =>
              as_aux_lemma =>
                obtain ⟨c, hc, rfl, hb⟩ := hrel
                have HBC := Lib.hid hb
                have hn5 := HN5.out
                clear hb
                by_cases hlt : c < s.paints.length
                · have h0 : decide (c < s.paints.length) = true := decide_eq_true hlt
                  have e1 := (HB8.out.trans HBC.out).cell (HFR6.out c hlt)
                  have e2 := ((HF8.out.bel HBC.out).cell (c := c) (by omega)).1
                  generalize (s.fire p).1 c = fc at *
                  gi_wp2_with fail
                  gi_big_quiet (fail)
                  gi_wp2_with fail
                  go_roundw
                  case rel => exact ⟨c + 1, by omega, by go_num, HBC.out.trans (bel_drewN _ _)⟩
                  case measure => simp [intOf]; omega
                · obtain rfl : c = s.paints.length := by omega
                  have hsf := HSF6.out
                  unfold SafeO at hsf
                  cases hS : s.surely p with
                  | false =>
                    rw [hS, if_neg (by simp)] at hsf
                    obtain ⟨rfl, e1⟩ := hsf
                    injection e1 with e1 e2 e3
                    subst e1 e2 e3
                    clear hS hlt hc
                    gi_wp2_with fail
                    obtain ⟨w9, rfl⟩ : ∃ w9, w9 = wr := ⟨_, rfl⟩
                    gi_loopw [25] (fun iv wr => iv = .int .i64 0 ∧ Bel w9 wr) (fun _ _ => 0)
                    case atStart => exact ⟨rfl, Bel.refl _⟩
                    case round =>
                      as_aux_lemma =>
                        obtain ⟨rfl, hb⟩ := hrel
                        have HBE := Lib.hid (HSB.out.trans (HBW8.out.trans (HBC.out.trans hb)))
                        clear hb
                        gi_wp2_with fail
                        refine ⟨trivial, rfl, (callsW (known_any _)).mono ?_⟩
                        rintro e wz ⟨rfl, hb⟩
                        have hfin := HBE.out.trans hb
                        gi_wp2_with fail
                        exact bodyPost_ret (v := .bool true) (by simp [results, Try.results3, go_sem]) rfl ⟨rfl, hfin⟩
                  | true =>
                    rw [hS, if_pos rfl] at hsf
                    obtain ⟨rfl, hsp⟩ := hsf
                    have HSO := Lib.hid (fun r (hr : r < p.length) => CSet.safe_ok HS.out HPO.out.1 hS hr)
                    have HSP := Lib.hid hsp
                    obtain ⟨a', c', e1, -⟩ := hsp
                    injection e1 with e1 e2 e3
                    subst e1 e2 e3
                    clear hS hlt hc
                    gi_wp2_with fail
                    obtain ⟨w9, rfl⟩ : ∃ w9, w9 = wr := ⟨_, rfl⟩
                    have HB9 := Lib.hid (HB8.out.trans HBC.out)
                    clear HB8 HBC HF8
                    gi_loopw [25] (fun iv wr => ∃ r : Nat, r ≤ p.length ∧ iv = .int .i64 r ∧ Bel w9 wr) (fun iv _ => p.length - (intOf iv).toNat)
                    case atStart => exact ⟨0, Nat.zero_le _, rfl, Bel.refl _⟩
                    case round =>
                      as_aux_lemma =>
                        obtain ⟨r, hr, rfl, hb⟩ := hrel
                        have HBR := Lib.hid hb
                        have HBR6 := Lib.hid (HB9.out.trans hb)
                        clear hb
                        by_cases hlt : r < p.length
                        · have h0 : decide (r < p.length) = true := decide_eq_true hlt
                          have hsp := HSP.out
                          obtain ⟨a', c', e1, -, -, -, g4⟩ := hsp
                          injection e1 with e1 e2 e3
                          subst e1 e3
                          obtain ⟨sb, so, rfl, k0, k1⟩ := g4 r hlt
                          have HK0 := Lib.hid k0
                          have HK1 := Lib.hid k1
                          clear g4 e2 k0 k1
                          have HSR := Lib.hid (HSO.out r hlt)
                          generalize s.lowAt p r = lo at *
                          generalize s.highAt p r = hi at *
                          have hpl := HPL.out
                          have d1 : decide (lo > hi) = false := decide_eq_false (by have := HSR.out; omega)
                          have d2 : decide (lo < 0) = false := decide_eq_false (by have := HSR.out; omega)
                          have d3 : decide (hi > 1000) = false := decide_eq_false (by have := HSR.out; omega)
                          have k0 := HBR6.out.cell HK0.out
                          have k1 := HBR6.out.cell HK1.out
                          gi_wp2_with fail
                          gi_big_quiet (fail)
                          have HBX := Lib.hid (HBR.out.trans (bel_drewN wr nq))
                          have HBX6 := Lib.hid (HBR6.out.trans (bel_drewN wr nq))
                          generalize wr.drewN nq = wx at *
                          clear k0 k1 d1 d2 d3 HBR HBR6
                          gi_wp2_with fail
                          gi_loopw [26] (fun qv wr => ∃ q : Nat, q ≤ r + 1 ∧ qv = .int .i64 q ∧ Bel wx wr) (fun qv _ => r + 1 - (intOf qv).toNat)
                          case atStart => exact ⟨0, Nat.zero_le _, rfl, Bel.refl _⟩
                          case round =>
                            as_aux_lemma =>
                              obtain ⟨q, hq, rfl, hb⟩ := hrel
                              have HBQ := Lib.hid hb
                              have HBQ6 := Lib.hid (HBX6.out.trans hb)
                              clear hb
                              by_cases hqr : q ≤ r
                              · have h1 : decide (q ≤ r) = true := decide_eq_true hqr
                                have hqp : q < p.length := by omega
                                obtain ⟨gb, goff, xv, rfl, xcell, hxc⟩ := HRV.out.elem hqp
                                have hxm : p.getD q [] ∈ p := by rw [getD_lt _ _ _ hqp]; exact List.getElem_mem hqp
                                have HXC := Lib.hid hxc
                                have XCELL := Lib.hid xcell
                                have HXX := Lib.hid (HLT.out _ hxm)
                                have HXL := Lib.hid (HRL.out _ hxm)
                                have HEQ := Lib.hid (show q = r → ∀ c, c ∈ p.getD q [] → (s.paint c).hh ≤ lo from fun e => by subst e; exact HSR.out.2.2.2.1)
                                have HLQ := Lib.hid (show q < r → ∀ c, c ∈ p.getD q [] → hi < (s.paint c).hl from fun e => HSR.out.2.2.2.2 q e)
                                clear hxc xcell hxm
                                generalize p.getD q [] = x at *
                                obtain ⟨xa, xc, rfl⟩ := cols_some' HXC.out
                                gi_wp2_with fail
                                gi_loopw [27] (fun jv wr => ∃ j : Nat, j ≤ x.length ∧ jv = .int .i64 j ∧ Bel wx wr) (fun jv _ => x.length - (intOf jv).toNat)
                                case atStart => exact ⟨0, Nat.zero_le _, rfl, HBQ.out⟩
                                case round =>
                                  as_aux_lemma =>
                                    obtain ⟨j, hj, rfl, hb⟩ := hrel
                                    have HBJ := Lib.hid hb
                                    have HBJ6 := Lib.hid (HBX6.out.trans hb)
                                    have HBJW := Lib.hid (HB6.out.trans HBJ6.out)
                                    clear hb
                                    have xcell := HBJW.out.cell XCELL.out
                                    have hxl := HXL.out
                                    by_cases hjl : j < x.length
                                    · have z1 : decide (j < x.length) = true := decide_eq_true hjl
                                      obtain ⟨xb, xoff, rfl, qcell⟩ := (HXC.out.bel HBJW.out).cellAt hjl
                                      have hxq : x.getD j 0 ∈ x := by rw [getD_lt _ _ _ hjl]; exact List.getElem_mem hjl
                                      have hcm : x.getD j 0 < s.paints.length := HXX.out _ hxq
                                      obtain ⟨pb, poff, rfl, p0, p1, -⟩ := (HPW.out.bel HBJW.out).cells' hcm
                                      have hpd : s.paints.getD (x.getD j 0) ⟨0, 0, 0, 0, 0, 0⟩ = s.paint (x.getD j 0) := rfl
                                      rw [hpd] at p0 p1
                                      have HEC := Lib.hid (fun e => HEQ.out e _ hxq)
                                      have HLC := Lib.hid (fun e => HLQ.out e _ hxq)
                                      clear hpd hxq
                                      generalize x.getD j 0 = c at *
                                      generalize (s.paint c).hh = hh at *
                                      generalize (s.paint c).hl = hl at *
                                      obtain ⟨c0, -⟩ := HC.out.bel HBJW.out
                                      have k0 := HBJ6.out.cell HK0.out
                                      have k1 := HBJ6.out.cell HK1.out
                                      gi_wp2_with fail
                                      refine region_tailF 13 (fun i v W => match i with
                                        | 0 => v = .pointer (some ⟨B, 0, none⟩)
                                        | 1 => v = .slice (some ⟨pb, poff, none⟩) s.paints.length qc
                                        | 2 => v = .slice (some ⟨gb, goff, none⟩) p.length rc
                                        | 3 => v = .int .i64 ((q : Nat) : Int)
                                        | 4 => v = .pointer (some ⟨gb, goff + q, none⟩)
                                        | 5 => v = .slice (some ⟨xb, xoff, none⟩) x.length xc
                                        | 6 => v = .int .i64 ((j : Nat) : Int)
                                        | 7 => v = .pointer (some ⟨xb, xoff + j, none⟩)
                                        | 8 => v = .int .i64 ((c : Nat) : Int)
                                        | 9 => v = .pointer (some ⟨pb, poff + c * 6, none⟩)
                                        | 10 => v = .pointer (some ⟨pb, poff + c * 6, none⟩)
                                        | 11 => v = .agg #[.int .i64 hl, .int .i64 hh]
                                        | 12 => ∃ g, v = .pointer (some ⟨g, 0, none⟩) ∧ wr.heap.size ≤ g ∧ W.heap[g]? = some (.cells #[.int .i64 0, .int .i64 0] 54 (0, 0))
                                        | _ => True) ?gfa1 ?gfb1 ?gframe1 ?gxframe1 (by kernel_rfl) (by kernel_rfl) (by kernel_rfl) (by kernel_rfl) ?gstays1 ?gops1 ?gfin1
                                      case gframe1 =>
                                        intro vs
                                        simp only [putAll, Act.put, List.setIfInBounds_toArray, List.set_cons_succ, List.set_cons_zero, Nat.reduceAdd, Nat.zero_add]
                                        exact rfl
                                      case gxframe1 =>
                                        intro vs
                                        simp only [putAll, Act.put, List.setIfInBounds_toArray, List.set_cons_succ, List.set_cons_zero, Nat.reduceAdd, Nat.zero_add, List.take_succ_cons, List.take_zero]
                                        exact rfl
                                      case gstays1 =>
                                        intro i v W W' h hb
                                        split at h <;> first | exact h | exact h.bel hb | exact fun e => (h e).bel hb | exact ⟨h.1.bel hb, h.2⟩ | (obtain ⟨g, h1, h2, h3⟩ := h; exact ⟨g, h1, h2, (hb.block g (Array.getElem?_eq_some_iff.1 h3).1).trans h3⟩)
                                      case gops1 =>
                                        refine ⟨?_, ?_, ?_, ?_, ?_, ?_, ?_, ?_, ?_, ?_, ?_, ?_, ?_, trivial⟩
                                        · refine growOpF_k ?_; intro vs W hW hd K HK
                                          clear hd
                                          gi_wp2_with fail
                                          refine HK.out _ _ ?_ ?_ ?_
                                          · kernel_rfl
                                          · rfl
                                          · exact Bel.refl _
                                        · refine growOpF_k ?_; intro vs W hW hd K HK
                                          have h0 : (vs 0) = .pointer (some ⟨B, 0, none⟩) := hd 0 (by decide)
                                          clear hd
                                          have q0 := hW.cell c0
                                          simp only [h0]
                                          gi_wp2_with fail
                                          refine HK.out _ _ ?_ ?_ ?_
                                          · (try simp only [h0]) <;> kernel_rfl
                                          · rfl
                                          · exact Bel.refl _
                                        · refine growOpF_k ?_; intro vs W hW hd K HK
                                          clear hd
                                          gi_wp2_with fail
                                          refine HK.out _ _ ?_ ?_ ?_
                                          · kernel_rfl
                                          · rfl
                                          · exact Bel.refl _
                                        · refine growOpF_k ?_; intro vs W hW hd K HK
                                          clear hd
                                          gi_wp2_with fail
                                          refine HK.out _ _ ?_ ?_ ?_
                                          · kernel_rfl
                                          · rfl
                                          · exact Bel.refl _
                                        · refine growOpF_k ?_; intro vs W hW hd K HK
                                          have h2 : (vs 2) = .slice (some ⟨gb, goff, none⟩) p.length rc := hd 2 (by decide)
                                          have h3 : (vs 3) = .int .i64 ((q : Nat) : Int) := hd 3 (by decide)
                                          clear hd
                                          simp only [h2, h3]
                                          gi_wp2_with fail
                                          refine HK.out _ _ ?_ ?_ ?_
                                          · (try simp only [h2, h3]) <;> kernel_rfl
                                          · rfl
                                          · exact Bel.refl _
                                        · refine growOpF_k ?_; intro vs W hW hd K HK
                                          have h4 : (vs 4) = .pointer (some ⟨gb, goff + q, none⟩) := hd 4 (by decide)
                                          clear hd
                                          have q0 := hW.cell xcell
                                          simp only [h4]
                                          gi_wp2_with fail
                                          refine HK.out _ _ ?_ ?_ ?_
                                          · (try simp only [h4]) <;> kernel_rfl
                                          · rfl
                                          · exact Bel.refl _
                                        · refine growOpF_k ?_; intro vs W hW hd K HK
                                          clear hd
                                          gi_wp2_with fail
                                          refine HK.out _ _ ?_ ?_ ?_
                                          · kernel_rfl
                                          · rfl
                                          · exact Bel.refl _
                                        · refine growOpF_k ?_; intro vs W hW hd K HK
                                          have h5 : (vs 5) = .slice (some ⟨xb, xoff, none⟩) x.length xc := hd 5 (by decide)
                                          have h6 : (vs 6) = .int .i64 ((j : Nat) : Int) := hd 6 (by decide)
                                          clear hd
                                          simp only [h5, h6]
                                          gi_wp2_with fail
                                          refine HK.out _ _ ?_ ?_ ?_
                                          · (try simp only [h5, h6]) <;> kernel_rfl
                                          · rfl
                                          · exact Bel.refl _
                                        · refine growOpF_k ?_; intro vs W hW hd K HK
                                          have h7 : (vs 7) = .pointer (some ⟨xb, xoff + j, none⟩) := hd 7 (by decide)
                                          clear hd
                                          have q0 := hW.cell qcell
                                          simp only [h7]
                                          gi_wp2_with fail
                                          refine HK.out _ _ ?_ ?_ ?_
                                          · (try simp only [h7]) <;> kernel_rfl
                                          · rfl
                                          · exact Bel.refl _
                                        · refine growOpF_k ?_; intro vs W hW hd K HK
                                          have h1 : (vs 1) = .slice (some ⟨pb, poff, none⟩) s.paints.length qc := hd 1 (by decide)
                                          have h8 : (vs 8) = .int .i64 ((c : Nat) : Int) := hd 8 (by decide)
                                          clear hd
                                          simp only [h1, h8]
                                          gi_wp2_with fail
                                          refine HK.out _ _ ?_ ?_ ?_
                                          · (try simp only [h1, h8]) <;> kernel_rfl
                                          · rfl
                                          · exact Bel.refl _
                                        · refine growOpF_k ?_; intro vs W hW hd K HK
                                          have h9 : (vs 9) = .pointer (some ⟨pb, poff + c * 6, none⟩) := hd 9 (by decide)
                                          clear hd
                                          simp only [h9]
                                          gi_wp2_with fail
                                          refine HK.out _ _ ?_ ?_ ?_
                                          · (try simp only [h9]) <;> kernel_rfl
                                          · rfl
                                          · exact Bel.refl _
                                        · refine growOpF_k ?_; intro vs W hW hd K HK
                                          have h10 : (vs 10) = .pointer (some ⟨pb, poff + c * 6, none⟩) := hd 10 (by decide)
                                          clear hd
                                          have q0 := hW.cell p0
                                          have q1 := hW.cell p1
                                          simp only [h10]
                                          gi_wp2_with fail
                                          refine HK.out _ _ ?_ ?_ ?_
                                          · (try simp only [h10]) <;> kernel_rfl
                                          · rfl
                                          · exact Bel.refl _
                                        · refine growOpF_k ?_; intro vs W hW hd K HK
                                          clear hd
                                          gi_wp2_with fail
                                          refine HK.out _ _ ?_ ?_ ?_
                                          · kernel_rfl
                                          · exact ⟨_, rfl, hW.size, World.alloc_heap_new _ _⟩
                                          · exact (Bel.refl _).alloc _
                                      case gfin1 =>
                                        intro vs W hW hall
                                        have g11 : vs 11 = .agg #[.int .i64 hl, .int .i64 hh] := hall 11 (by decide)
                                        have g12 : ∃ g, vs 12 = .pointer (some ⟨g, 0, none⟩) ∧ wr.heap.size ≤ g ∧ W.heap[g]? = some (.cells #[.int .i64 0, .int .i64 0] 54 (0, 0)) := hall 12 (by decide)
                                        clear hall
                                        obtain ⟨g, g12, hgs, hgh⟩ := g12
                                        simp only [List.drop_succ_cons, List.drop_zero, g11, g12]
                                        have HGH := Lib.hid hgh
                                        have t0 : W.cell? ⟨g, 0, none⟩ = some (.int .i64 0) := by simp [World.cell?, hgh]
                                        have t0' : W.frozen? ⟨g, 0, none⟩ = false := by simp [World.frozen?, hgh]
                                        have t1 : W.cell? ⟨g, 1, none⟩ = some (.int .i64 0) := by simp [World.cell?, hgh]
                                        have t1' : W.frozen? ⟨g, 1, none⟩ = false := by simp [World.frozen?, hgh]
                                        clear hgh g11 g12
                                        gi_wp2_with fail
                                        obtain ⟨V, hV⟩ : ∃ V, (W.setCell ⟨g, 0, none⟩ (.int .i64 hl)).setCell ⟨g, 1, none⟩ (.int .i64 hh) = V := ⟨_, rfl⟩
                                        have hv2 : V.heap[g]? = some (.cells #[.int .i64 hl, .int .i64 hh] 54 (0, 0)) := by rw [← hV]; exact heap_set (heap_set HGH.out 0 _) 1 _
                                        have hbv : But g W V := by rw [← hV]; exact (But.set _ _ _ _).trans (But.set _ _ _ _)
                                        have hbw : Bel wr V := hbv.bel hW hgs
                                        have HVX := Lib.hid (HBJ.out.trans hbw)
                                        rw [hV]
                                        have v0 : V.cell? ⟨g, 0, none⟩ = some (.int .i64 hl) := by simp [World.cell?, hv2]
                                        have v1 : V.cell? ⟨g, 1, none⟩ = some (.int .i64 hh) := by simp [World.cell?, hv2]
                                        replace k0 := hbw.cell k0
                                        replace k1 := hbw.cell k1
                                        have hun : ∀ b, (undef = Value.bool b) = False := fun b => by unfold undef; simp
                                        clear hV hv2 hbv hbw t0 t0' t1 t1' HGH hgs c0 xcell qcell p0 p1 hW h1 z1
                                        rcases Nat.lt_or_ge q r with hqr' | hqr'
                                        · have f1 : ((q : Int) == (r : Int)) = false := by rw [beq_eq_false_iff_ne]; omega
                                          have f1' : (q == r) = false := by rw [beq_eq_false_iff_ne]; omega
                                          have f3 : decide (q < r) = true := decide_eq_true hqr'
                                          have f4 : decide (hi ≥ hl) = false := decide_eq_false (by have := HLC.out hqr'; omega)
                                          have f5 : decide (hl ≤ hi) = false := decide_eq_false (by have := HLC.out hqr'; omega)
                                          gi_wp2_with fail
                                          refine wpIn_region_quiet_lit rfl (by kernel_rfl) (by kernel_rfl) ?_
                                          repeat (gi_big_quiet_step (fail))
                                          refine wpQuietIn_nil ?_
                                          intro _ hw'
                                          obtain ⟨nq, hw''⟩ := hw'
                                          subst hw''
                                          gi_wp2_with fail
                                          go_roundw
                                          case rel => exact ⟨j + 1, by omega, by go_num, HVX.out.trans (bel_drewN _ _)⟩
                                          case measure => simp [intOf]; omega
                                        · have HQR := Lib.hid (show q = r by omega)
                                          have f1 : ((q : Int) == (r : Int)) = true := by rw [HQR.out]; simp
                                          have f2 : (q == r) = true := by rw [HQR.out]; simp
                                          have f4 : decide (lo < hh) = false := decide_eq_false (by have := HEC.out HQR.out; omega)
                                          have f5 : decide (q < r) = false := decide_eq_false (by omega)
                                          gi_wp2_with fail
                                          gi_big_quiet (fail)
                                          gi_wp2_with fail
                                          go_roundw
                                          case rel => exact ⟨j + 1, by omega, by go_num, HVX.out.trans (bel_drewN _ _)⟩
                                          case measure => simp [intOf]; omega
                                    · obtain rfl : j = x.length := by omega
                                      gi_wp2_with fail
                                      go_roundw
                                      case rel => exact ⟨q + 1, by omega, by go_num, HBJ.out⟩
                                      case measure => simp [intOf]; omega
                              · obtain rfl : q = r + 1 := by omega
                                have h1 : decide (r + 1 ≤ r) = false := decide_eq_false (by omega)
                                have h2 : decide (((r + 1 : Nat) : Int) ≤ (r : Int)) = false := decide_eq_false (by omega)
                                gi_wp2_with fail
                                go_roundw
                                case rel => exact ⟨r + 1, by omega, by go_num, HBX.out.trans HBQ.out⟩
                                case measure => simp [intOf]; omega
                        · obtain rfl : r = p.length := by omega
                          gi_wp2_with fail
                          refine ⟨trivial, rfl, (callsW (known_any _)).mono ?_⟩
                          rintro e wz ⟨rfl, hb⟩
                          have hfin := HSB.out.trans ((HB6.out.trans HBR6.out).trans hb)
                          gi_wp2_with fail
                          exact bodyPost_ret (v := .bool true) (by simp [results, Try.results3, go_sem]) rfl ⟨rfl, hfin⟩

end Go.Proofs.Ytpkadofgmhninaa
