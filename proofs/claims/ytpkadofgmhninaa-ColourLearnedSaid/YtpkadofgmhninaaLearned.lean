/- ColourLearned returns true. -/
import Derived.Test.YtpkadofgmhninaaTruthKit
import Derived.Test.YtpkadofgmhninaaLearnMath
import Derived.Test.YtpkadofgmhninaaLearnKit
import Derived.Test.YtpkadofgmhninaaTold
namespace Go.Proofs.Ytpkadofgmhninaa
open Go.RowKit
attribute [local go_sem] Oper.semAt_some

/-- Three lists of bytes, one behind another. -/
def three {α : Type} (a b c : α) (k : Nat) : α := match k with | 0 => a | 1 => b | _ => c
theorem plns_row {W : World} {base : Nat} {v : Value} {ps : List Rounds} {vs : List Value} (h : W.ownsRow base 35 1 v ps.length vs) (hl : vs.length = ps.length) (hx : ∀ i, i < ps.length → Rnds W (vs.getD i undef) (ps.getD i [])) : Plns W v ps := by
  have h' : W.ownsRow base 35 1 v vs.length vs := by rw [hl]; exact h
  obtain ⟨a, c, e, h1, h2, h3, h4⟩ := own_vals h'
  rw [hl] at e h1 h4
  exact ⟨a, c, fun i => vs.getD i undef, e, h1, h2, h3, fun i hi => by
    obtain ⟨b, off, e', q⟩ := h4 i hi
    exact ⟨b, off, e', q, hx i hi⟩⟩
/-- Plans that truly were right, as they lie in memory. -/
structure Well (s : CSet) (f t : Nat → Int) (base : Nat) (W : World) (v : Value) (us : List Value) (ps : List Rounds) : Prop where
  len : us.length = ps.length
  row : W.ownsRow base 35 1 v ps.length us
  each : ∀ j, j < ps.length → RndN base W (us.getD j undef) (ps.getD j [])
  ok : ∀ p, p ∈ ps → (PlanOk s.paints.length p ∧ ∀ r, r ∈ p → Asc s.paints.length r) ∧ p.length ≤ 1000 ∧ CSet.rightB s p f t = true

set_option maxRecDepth 100000 in
set_option maxHeartbeats 16000000 in
theorem learned_any (x : Shelf) (hx : x.Ok) (b0 b1 b2 : List Nat) (y : Nat) (hy : y < 256) (v s0 s1 s2 : Value) (w : World) (hv : ShelfV w v x) (h0 : Byts w s0 b0) (h1 : Byts w s1 b1) (h2 : Byts w s2 b2) :
    Calls Try.prog 6 #[v, .agg #[s0, s1, s2], .int .u8 (y : Int)] w fun e w' => e = .returned (.bool true) ∧ Bel w w' := by
  obtain ⟨i0, hi, hz0, hz1, hz2⟩ := info_parts Try.info35
  have HY := Lib.hid (show ∀ k, k < 3 → Byts w (three s0 s1 s2 k) (three b0 b1 b2 k) from fun k hk => by
    have : k = 0 ∨ k = 1 ∨ k = 2 := by omega
    rcases this with rfl | rfl | rfl
    · exact h0
    · exact h1
    · exact h2)
  clear h0 h1 h2
  obtain ⟨pv, ev, rfl, ⟨pa, pc, rfl, hpc⟩, ⟨ea, ec, rfl, hec⟩⟩ := hv
  have KM := Lib.hid (fun W (hW : Bel w W) => made_truth x hx _ W ⟨_, _, rfl, B5s.bel hW ⟨pa, pc, rfl, hpc⟩, B2s.bel hW ⟨ea, ec, rfl, hec⟩⟩)
  have HS := Lib.hid (Shelf.set_ok hx)
  have HTR := Lib.hid (shelf_truth hx)
  clear hpc hec hx
  generalize x.set = s at *
  generalize x.heats = H at *
  generalize x.stretches = T at *
  obtain ⟨c0, c1, c2, c3⟩ := (C4.new w (.int .u8 x.r0) (.int .u8 x.r1) (.slice pa x.paints.length pc) (.slice ea x.eats.length ec) 26).bel ((Bel.refl _).alloc (.cells #[s0, s1, s2] 72))
  have HQ := Lib.hid (show ∀ k, k < 3 → ((w.alloc (.cells #[.int .u8 x.r0, .int .u8 x.r1, .slice pa x.paints.length pc, .slice ea x.eats.length ec] 26)).alloc (.cells #[s0, s1, s2] 72)).cell? ⟨w.heap.size + 1, k, none⟩ = some (three s0 s1 s2 k) from fun k hk => by
    have h := World.alloc_heap_new (w.alloc (.cells #[.int .u8 x.r0, .int .u8 x.r1, .slice pa x.paints.length pc, .slice ea x.eats.length ec] 26)) (.cells #[s0, s1, s2] 72)
    rw [World.size_alloc] at h
    have : k = 0 ∨ k = 1 ∨ k = 2 := by omega
    rcases this with rfl | rfl | rfl <;> (simp only [World.cell?, h]; rfl))
  refine (callsIn_wide (n := 0)).1 (callsIn_of_wp Try.func6 rfl trivial ?_ rfl)
  simp only [Try.ntmps6, List.size_toArray, List.length_cons, List.length_nil, Nat.reduceAdd, Nat.reduceSub, Array.replicate_succ, Array.replicate_zero, List.push_toArray, List.append_toArray, List.nil_append, List.cons_append]
  gi_wp2_with fail
  refine ⟨trivial, rfl, (callsW (KM.out _ (((Bel.refl w).alloc _).alloc _))).mono ?_⟩
  rintro e w1 ⟨sv, hv, tv, rfl, hset, hhv, htv, hb⟩
  obtain ⟨pv, ev, rfl, h1, h2⟩ := hset
  have HP := Lib.hid h1
  have HE := Lib.hid h2
  obtain ⟨qa, qc, rfl, -, -, -, -⟩ := h1
  obtain ⟨da, dc, rfl, -, -, -, -⟩ := h2
  have HB1 := Lib.hid ((((Bel.refl w).alloc _).alloc _).trans hb)
  have HQ1 := Lib.hid (show ∀ k, k < 3 → w1.cell? ⟨w.heap.size + 1, k, none⟩ = some (three s0 s1 s2 k) from fun k hk => hb.cell (HQ.out k hk))
  have HHV := Lib.hid hhv
  have HTV := Lib.hid htv
  clear hb c0 c1 c2 c3 KM HQ hhv htv
  gi_wp2_with fail
  have hw1 : C4 (w1.alloc (.cells #[.slice qa s.paints.length qc, .int .i64 s.near, .int .i64 s.give, .slice da s.eats.length dc] 31)) w1.heap.size (.slice qa s.paints.length qc) (.int .i64 s.near) (.int .i64 s.give) (.slice da s.eats.length dc) := C4.new _ _ _ _ _ _
  obtain ⟨W1, hW1⟩ : ∃ W1, w1.alloc (.cells #[.slice qa s.paints.length qc, .int .i64 s.near, .int .i64 s.give, .slice da s.eats.length dc] 31) = W1 := ⟨_, rfl⟩
  have hsz : W1.heap.size = w1.heap.size + 1 := by rw [← hW1]; simp
  have HB2 := Lib.hid (show Bel w1 W1 by rw [← hW1]; exact (Bel.refl _).alloc _)
  rw [hW1] at hw1 ⊢
  rw [← hsz]
  have HC := Lib.hid hw1
  have HSB := Lib.hid (show Bel w W1 from HB1.out.trans HB2.out)
  have HSV := Lib.hid (show SetV W1 (.agg #[.slice qa s.paints.length qc, .int .i64 s.near, .int .i64 s.give, .slice da s.eats.length dc]) s from ⟨_, _, rfl, HP.out.bel HB2.out, HE.out.bel HB2.out⟩)
  have HHW := Lib.hid (HHV.out.bel HB2.out)
  have HTW := Lib.hid (HTV.out.bel HB2.out)
  have HQW := Lib.hid (show ∀ k, k < 3 → W1.cell? ⟨w.heap.size + 1, k, none⟩ = some (three s0 s1 s2 k) from fun k hk => HB2.out.cell (HQ1.out k hk))
  clear hW1 hsz hw1 HP HE HB2 HB1 HHV HTV HQ1
  generalize w1.heap.size = B at *
  clear w1
  generalize hfd : (fun c => ((H.getD c 0 : Nat) : Int)) = f at *
  generalize htd : (fun c => ((T.getD c 0 : Nat) : Int)) = t at *
  have HFD := Lib.hid hfd
  have HTD := Lib.hid htd
  clear hfd htd
  have HPO := Lib.hid (show ∀ k, PlanOk s.paints.length (planBy s.paints.length (three b0 b1 b2 k)) ∧ ∀ r, r ∈ planBy s.paints.length (three b0 b1 b2 k) → Asc s.paints.length r from fun k => planBy_ok _ _)
  have HPL := Lib.hid (show ∀ k, (planBy s.paints.length (three b0 b1 b2 k)).length ≤ 1000 from fun k => planBy_len _ _)
  have HN5 := Lib.hid HS.out.n5
  have HYW := Lib.hid (show ∀ k, k < 3 → Byts W1 (three s0 s1 s2 k) (three b0 b1 b2 k) from fun k hk => (HY.out k hk).bel HSB.out)
  clear HY
  gi_loopw [10, 11] (fun lv iv wr => ∃ (k : Nat) (us : List Value) (ps : List Rounds), k ≤ 3 ∧ ps.length ≤ k ∧ iv = .int .i64 k ∧ Well s f t W1.heap.size wr lv us ps ∧ Bel W1 wr) (fun _ iv _ => 3 - (intOf iv).toNat)
  case atStart =>
    exact ⟨0, [], [], Nat.zero_le _, Nat.zero_le _, rfl, ⟨rfl, World.ownsRow_made (base := W1.heap.size) (e := 35) (size := 1) W1 #[] 0 (Nat.le_refl _) (Nat.zero_le _) rfl, fun j hj => absurd hj (Nat.not_lt_zero _), nofun⟩, (Bel.refl _).alloc _⟩
  case round =>
    as_aux_lemma =>
      obtain ⟨k, us, ps, hk, hpk, rfl, hwl, hb⟩ := hrel
      have HWL := Lib.hid hwl
      have HB := Lib.hid hb
      obtain ⟨c0, c1, c2, c3⟩ := HC.out.bel hb
      clear hb hwl
      by_cases hlt : k < 3
      · have h0 : decide ((k : Int) < 3) = true := decide_eq_true (by omega)
        have KL := Lib.hid (laid_any s.paints.length (three s0 s1 s2 k) (three b0 b1 b2 k))
        have HYK := Lib.hid (HYW.out k hlt)
        have HQK := Lib.hid (HB.out.cell (HQW.out k hlt))
        have HPK := Lib.hid (HPO.out k)
        have HLK := Lib.hid (HPL.out k)
        have HDEF := Lib.hid (show laysUp (three b0 b1 b2 k) (min s.paints.length (three b0 b1 b2 k).length) 5 = planBy s.paints.length (three b0 b1 b2 k) from rfl)
        generalize planBy s.paints.length (three b0 b1 b2 k) = pk at *
        generalize three s0 s1 s2 k = sk at *
        generalize three b0 b1 b2 k = bk at *
        gi_wp2_with fail
        clear c0 c1 c2 c3
        refine region_growF (fun i v W => match i with
          | 0 => v = .pointer (some ⟨B, 0, none⟩)
          | 1 => v = .slice qa s.paints.length qc
          | 2 => v = .int .i64 ((s.paints.length : Nat) : Int)
          | 3 => v = .int .i64 ((k : Nat) : Int)
          | 4 => v = .pointer (some ⟨w.heap.size + 1, k, none⟩)
          | 5 => v = sk
          | 6 => RndN W1.heap.size W v pk
          | 7 => RndN W1.heap.size W v pk
          | _ => True) ?gfa6 ?gframe6 (by kernel_rfl) (by kernel_rfl) (by kernel_rfl) ?gstays6 ?gops6 ?gfin6
        case gframe6 =>
          intro vs
          simp only [putAll, Act.put, List.setIfInBounds_toArray, List.set_cons_succ, List.set_cons_zero, Nat.reduceAdd, Nat.zero_add]
          exact rfl
        case gstays6 =>
          intro i v W W' h hb
          split at h <;> first | exact h | exact h.bel hb | exact fun e => (h e).bel hb | exact ⟨h.1.bel hb, h.2⟩
        case gops6 =>
          refine ⟨?_, ?_, ?_, ?_, ?_, ?_, ?_, ?_, trivial⟩
          · refine growOpF_k ?_; intro vs W hW hd K HK
            clear hd
            gi_wp2_with fail
            refine HK.out _ _ ?_ ?_ ?_
            · kernel_rfl
            · rfl
            · exact Bel.refl _
          · refine growOpF_k ?_; intro vs W hW hd K HK
            have h0 : (vs 0) = .pointer (some ⟨B, 0, none⟩) := hd 0 (by decide)
            clear hd
            obtain ⟨c0, c1, c2, c3⟩ := HC.out.bel (HB.out.trans hW)
            simp only [h0]
            gi_wp2_with fail
            refine HK.out _ _ ?_ ?_ ?_
            · (try simp only [h0]) <;> kernel_rfl
            · rfl
            · exact Bel.refl _
          · refine growOpF_k ?_; intro vs W hW hd K HK
            have h1 : (vs 1) = .slice qa s.paints.length qc := hd 1 (by decide)
            clear hd
            simp only [h1]
            gi_wp2_with fail
            refine HK.out _ _ ?_ ?_ ?_
            · (try simp only [h1]) <;> kernel_rfl
            · rfl
            · exact Bel.refl _
          · refine growOpF_k ?_; intro vs W hW hd K HK
            clear hd
            gi_wp2_with fail
            refine HK.out _ _ ?_ ?_ ?_
            · kernel_rfl
            · rfl
            · exact Bel.refl _
          · refine growOpF_k ?_; intro vs W hW hd K HK
            have h3 : (vs 3) = .int .i64 ((k : Nat) : Int) := hd 3 (by decide)
            clear hd
            simp only [h3]
            gi_wp2_with fail
            refine HK.out _ _ ?_ ?_ ?_
            · (try simp only [h3]) <;> kernel_rfl
            · rfl
            · exact Bel.refl _
          · refine growOpF_k ?_; intro vs W hW hd K HK
            have h4 : (vs 4) = .pointer (some ⟨w.heap.size + 1, k, none⟩) := hd 4 (by decide)
            clear hd
            have q0 := hW.cell HQK.out
            simp only [h4]
            gi_wp2_with fail
            refine HK.out _ _ ?_ ?_ ?_
            · (try simp only [h4]) <;> kernel_rfl
            · rfl
            · exact Bel.refl _
          · refine growOpF_k ?_; intro vs W hW hd K HK
            have h2 : (vs 2) = .int .i64 ((s.paints.length : Nat) : Int) := hd 2 (by decide)
            have h5 : (vs 5) = sk := hd 5 (by decide)
            clear hd
            have kl := KL.out W (HYK.out.bel (HB.out.trans hW)) (by have := HN5.out; omega)
            simp only [h2, h5]
            gi_wp2_with fail
            refine ⟨trivial, rfl, (callsW kl).mono ?_⟩
            rintro e W' ⟨rv, rfl, hrn, hb⟩
            rw [HDEF.out] at hrn
            have hrn2 := hrn.le (base' := W1.heap.size) (HB.out.trans hW).size
            gi_wp2_with fail
            refine HK.out _ _ ?_ ?_ ?_
            · (try simp only [h2, h5]) <;> kernel_rfl
            · exact hrn2
            · exact hb
          · refine growOpF_k ?_; intro vs W hW hd K HK
            have h6 : RndN W1.heap.size W (vs 6) pk := hd 6 (by decide)
            clear hd
            gi_wp2_with fail
            refine HK.out _ _ ?_ ?_ ?_
            · kernel_rfl
            · exact h6
            · exact Bel.refl _
        case gfin6 =>
          intro vs W hW hall
          have g7 : RndN W1.heap.size W (vs 7) pk := hall 7 (by decide)
          clear hall
          generalize vs 7 = rv at *
          have HB6 := Lib.hid (HB.out.trans hW)
          have HBN := Lib.hid hW
          obtain ⟨ra, rn, rc, rfl⟩ := rndN_sl g7
          have HG7 := Lib.hid g7
          have HRLK := Lib.hid (show ∀ r, r ∈ pk → r.length ≤ 1000 from fun r hr => by
            have h1 := (HPK.out.2 r hr).len
            have := HN5.out
            omega)
          have hcall := right_any s HS.out _ (.slice ra rn rc) hv tv pk H T W (HSV.out.bel HB6.out) g7.rnds (HHW.out.bel HB6.out) (HTW.out.bel HB6.out) HTR.out.hlen HTR.out.tlen HTR.out.hb HTR.out.tb (fun r hr c hc => ((HPK.out.1.asc r hr).1 c hc)) HLK.out HRLK.out
          rw [HFD.out, HTD.out] at hcall
          have HCALL := Lib.hid hcall
          obtain ⟨c0, c1, c2, c3⟩ := HC.out.bel HB6.out
          clear hcall hW g7
          gi_wp2_with fail
          refine ⟨trivial, rfl, (callsW HCALL.out).mono ?_⟩
          rintro e w6 ⟨rfl, hb6⟩
          have HB7 := Lib.hid (HB6.out.trans hb6)
          have HG7' := Lib.hid (HG7.out.bel hb6)
          have HO6 := Lib.hid (ownsRow_bel HWL.out.row (HBN.out.trans hb6))
          have HE6 := Lib.hid (show ∀ j, j < ps.length → RndN W1.heap.size w6 (us.getD j undef) (ps.getD j []) from fun j hj => (HWL.out.each j hj).bel (HBN.out.trans hb6))
          clear hb6 c0 c1 c2 c3 HCALL HG7
          cases hrb : CSet.rightB s pk f t
          · gi_wp2_with fail
            go_roundw
            case rel => exact ⟨k + 1, us, ps, by omega, by omega, by go_num, ⟨HWL.out.len, HO6.out, HE6.out, HWL.out.ok⟩, HB7.out⟩
            case measure => simp [intOf]; omega
          · have hm1 : ps.length + 1 ≤ maxLen := by unfold maxLen; omega
            have hm2 : (ps.length + 1) * 24 ≤ 140737488355328 := by omega
            have hm3 : W1.heap.size ≤ (w6.alloc (.cells #[.slice ra rn rc] 35)).heap.size := by have := HB7.out.size; simp; omega
            have HRB := Lib.hid hrb
            clear hrb
            gi_wp2_with (gi_at_builtin; refine wpListIn_append_own _ rfl _ _ 73 rfl W1.heap.size 35 i0 (.slice none 0 0) 1 24 Try.underlying73 hi hz0 hz1 hz2 rfl (by decide) _ _ _ rfl (ownsRow_bel HO6.out ((Bel.refl _).alloc (.cells #[.slice ra rn rc] 35))) ⟨w6.heap.size, 0, none⟩ 1 1 [.slice ra rn rc] rfl rfl (one_new _ _ _) (by simp [Value.oneCell']) hm1 hm2 hm3 ?_; intro v' w4 ho4 hg4 _; have HO4 := Lib.hid ho4; have HG4 := Lib.hid hg4; have HB4 := Lib.hid ((HB7.out.alloc _).grown hg4 (fun q hq => (HO6.out.lt q hq).1)); clear ho4 hg4 hm3)
            go_roundw
            case rel =>
              have ho' := ownsRow_bel HO6.out ((Bel.refl w6).alloc (.cells #[.slice ra rn rc] 35))
              have hus := HWL.out.len
              refine ⟨k + 1, us ++ [.slice ra rn rc], ps ++ [pk], by omega, by simp; omega, by go_num, ⟨by simp [hus], by rw [List.length_append]; exact HO4.out, fun j hj => ?_, fun p hp => ?_⟩, HB4.out⟩
              · rw [List.length_append] at hj
                by_cases hjk : j < ps.length
                · rw [show (us ++ [Value.slice ra rn rc]).getD j undef = us.getD j undef by simp [List.getD, List.getElem?_append, hus, hjk], show (ps ++ [pk]).getD j [] = ps.getD j [] by simp [List.getD, List.getElem?_append, hjk]]
                  exact ((HE6.out j hjk).bel ((Bel.refl _).alloc _)).grown ho' HG4.out
                · have hje : j = ps.length := by simp at hj; omega
                  subst hje
                  rw [show (us ++ [Value.slice ra rn rc]).getD ps.length undef = Value.slice ra rn rc by simp [List.getD, ← hus], show (ps ++ [pk]).getD ps.length [] = pk by simp [List.getD]]
                  exact (HG7'.out.bel ((Bel.refl _).alloc _)).grown ho' HG4.out
              · rcases List.mem_append.1 hp with hp | hp
                · exact HWL.out.ok p hp
                · simp at hp
                  subst hp
                  exact ⟨HPK.out, HLK.out, HRB.out⟩
            case measure => simp [intOf]; omega
      · obtain rfl : k = 3 := by omega
        obtain ⟨la, lc, rfl⟩ := own_sln HWL.out.row
        have HPS := Lib.hid (show Plns wr (.slice la ps.length lc) ps from plns_row (base := W1.heap.size) HWL.out.row HWL.out.len (fun i hi => (HWL.out.each i hi).rnds))
        have HOK := Lib.hid HWL.out.ok
        have HOF := Lib.hid (show ∀ p, p ∈ ps → CSet.Of s.paints.length p from fun p hp => ⟨(HOK.out p hp).1.1.once, fun r hr c hc => ((HOK.out p hp).1.1.asc r hr).1 c hc⟩)
        have HRL := Lib.hid (show ∀ p, p ∈ ps → ∀ r, r ∈ p → r.length ≤ 1000 from fun p hp r hr => by
          have h1 := ((HOK.out p hp).1.2 r hr).len
          have := HN5.out
          omega)
        have HIN := Lib.hid (show ∀ c, c < s.paints.length → (s.paint c).hl ≤ f c ∧ f c ≤ (s.paint c).hh from by rw [← HFD.out]; exact HTR.out.hin)
        have TIN := Lib.hid (show ∀ c, c < s.paints.length → (s.paint c).sl ≤ t c ∧ t c ≤ (s.paint c).sh from by rw [← HTD.out]; exact HTR.out.tin)
        have HTY := Lib.hid (show s.truly ps = true from CSet.truly_right HS.out ps (fun p hp => (HOK.out p hp).1.1) f t HIN.out TIN.out (fun p hp => (HOK.out p hp).2.2))
        have HKEY := Lib.hid (fun p (hp : p ∈ ps) => (CSet.right_iff (fun c hc => by have := HS.out.paints c hc; omega) (HOF.out p hp).once (HOF.out p hp).lt f t).1 (HOK.out p hp).2.2)
        have HHF := Lib.hid (show CSet.HFit s ps f from ⟨HIN.out, fun p hp => (HKEY.out p hp).2.1⟩)
        have HSF := Lib.hid (show CSet.SFit s ps t from ⟨TIN.out, fun p hp => (HKEY.out p hp).2.2⟩)
        have K1 := Lib.hid (own_any s _ wr (HSV.out.bel HB.out) (by have := HS.out.n5; omega) (by have := HS.out.eats; omega))
        clear hlt hk HWL HKEY
        gi_wp2_with fail
        refine ⟨trivial, rfl, (callsW K1.out).mono ?_⟩
        rintro e wa ⟨va, rfl, hset, hb⟩
        have HBa := Lib.hid hb
        have HVa := Lib.hid hset
        clear hset hb K1 c0 c1 c2 c3
        gi_wp2_with fail
        refine ⟨trivial, rfl, (callsW (plansCopy_any _ ps wa (HPS.out.bel HBa.out) (by omega) (fun p hp => ⟨(HOK.out p hp).2.1, HRL.out p hp⟩))).mono ?_⟩
        rintro e wb ⟨vb, rfl, hplb, -, hb⟩
        have HPb := Lib.hid hplb
        have HVb := Lib.hid (HVa.out.bel hb)
        have HBb := Lib.hid (HBa.out.trans hb)
        clear hplb hb HVa
        gi_wp2_with fail
        refine ⟨trivial, rfl, (callsW (told_any s HS.out va vb ps wb HVb.out HPb.out (fun p hp => (HOK.out p hp).1) (by omega))).mono ?_⟩
        rintro e wc ⟨av, bv, er, rfl, hto, hb⟩
        rw [HTY.out, if_pos rfl] at hto
        obtain ⟨rfl, hsa, hsb⟩ := hto
        have HBc := Lib.hid (HBb.out.trans hb)
        have HSA := Lib.hid hsa
        have HSBB := Lib.hid hsb
        obtain ⟨aa, ac, rfl, -⟩ := hsa
        obtain ⟨ba, bc, rfl, -⟩ := hsb
        clear hb HPb HVb HBb HBa
        have HBW := Lib.hid (HB.out.trans HBc.out)
        obtain ⟨c0, c1, c2, c3⟩ := HC.out.bel HBW.out
        have hun : ∀ b, (undef = Value.bool b) = False := fun b => by unfold undef; simp
        gi_wp2_with fail
        obtain ⟨ha, hc0, rfl⟩ := cols_some' HHW.out
        obtain ⟨ta, tc0, rfl⟩ := cols_some' HTW.out
        have HTF := Lib.hid (fun c (hc : c < s.paints.length) => CSet.told_true HN5.out HOF.out HHF.out HSF.out hc)
        have HTS := Lib.hid (fun c (hc : c < s.paints.length) => CSet.told_span HN5.out HOF.out HTY.out hc)
        have HPW := Lib.hid (show Paints W1 (.slice qa s.paints.length qc) s.paints by obtain ⟨pv, ev, e, h1, h2⟩ := HSV.out; injection e with e; have e3 := congrArg Array.toList e; simp only [List.cons.injEq] at e3; obtain ⟨rfl, -⟩ := e3; exact h1)
        gi_loopw [16] (fun iv wr => ∃ c : Nat, c ≤ s.paints.length ∧ iv = .int .i64 c ∧ Bel wc wr) (fun iv _ => s.paints.length - (intOf iv).toNat)
        case atStart => exact ⟨0, Nat.zero_le _, rfl, Bel.refl _⟩
        case round =>
          as_aux_lemma =>
            obtain ⟨c, hc, rfl, hb⟩ := hrel
            have HBC := Lib.hid hb
            have HBCW := Lib.hid (HBW.out.trans hb)
            obtain ⟨c0, c1, c2, c3⟩ := HC.out.bel HBCW.out
            clear hb
            by_cases hlt : c < s.paints.length
            · have h0 : decide (c < s.paints.length) = true := decide_eq_true hlt
              have hn5 := HN5.out
              have hcH : c < H.length := by rw [HTR.out.hlen]; exact hlt
              have hcT : c < T.length := by rw [HTR.out.tlen]; exact hlt
              obtain ⟨hb1, ho1, rfl, hk1⟩ := (HHW.out.bel HBCW.out).cellAt hcH
              obtain ⟨tb1, to1, rfl, tk1⟩ := (HTW.out.bel HBCW.out).cellAt hcT
              obtain ⟨a1, c9, e1, -, -, -, g4⟩ := HSA.out.bel HBC.out
              injection e1 with e1 e2 e3
              subst e1 e3
              obtain ⟨sb, so, rfl, u0, u1⟩ := g4 c hlt
              clear g4 e2
              obtain ⟨a1, c9, e1, -, -, -, g4⟩ := HSBB.out.bel HBC.out
              injection e1 with e1 e2 e3
              subst e1 e3
              obtain ⟨sb2, so2, rfl, v0, v1⟩ := g4 c hlt
              clear g4 e2
              obtain ⟨pb, poff, rfl, p0, p1, p2, p3, -⟩ := (HPW.out.bel HBCW.out).cells' hlt
              have hpd : s.paints.getD c ⟨0, 0, 0, 0, 0, 0⟩ = s.paint c := rfl
              rw [hpd] at p0 p1 p2 p3
              dsimp only at u0 u1 v0 v1
              have k1 := HTF.out c hlt
              have k2 := HTS.out c hlt
              have k3 : f c = ((H.getD c 0 : Nat) : Int) := by rw [← HFD.out]
              have k4 : t c = ((T.getD c 0 : Nat) : Int) := by rw [← HTD.out]
              rw [k3, k4] at k1
              clear hpd k3 k4
              generalize -CSet.gat (s.heatG ps) 5 c = l0 at *
              generalize CSet.gat (s.heatG ps) c 5 = h9 at *
              generalize -CSet.gat (s.stretchG ps) 5 c = l1 at *
              generalize CSet.gat (s.stretchG ps) c 5 = h8 at *
              generalize H.getD c 0 = Hc at *
              generalize T.getD c 0 = Tc at *
              generalize (s.paint c).hl = q0 at *
              generalize (s.paint c).hh = q1 at *
              generalize (s.paint c).sl = q2 at *
              generalize (s.paint c).sh = q3 at *
              have d1 : decide ((Hc : Int) < l0) = false := decide_eq_false (by omega)
              have d2 : decide ((Hc : Int) > h9) = false := decide_eq_false (by omega)
              have d2' : decide (h9 < (Hc : Int)) = false := decide_eq_false (by omega)
              have d3 : decide ((Tc : Int) < l1) = false := decide_eq_false (by omega)
              have d4 : decide ((Tc : Int) > h8) = false := decide_eq_false (by omega)
              have d4' : decide (h8 < (Tc : Int)) = false := decide_eq_false (by omega)
              have d5 : decide (l0 < q0) = false := decide_eq_false (by omega)
              have d6 : decide (h9 > q1) = false := decide_eq_false (by omega)
              have d6' : decide (q1 < h9) = false := decide_eq_false (by omega)
              have d7 : decide (l1 < q2) = false := decide_eq_false (by omega)
              have d8 : decide (h8 > q3) = false := decide_eq_false (by omega)
              have d8' : decide (q3 < h8) = false := decide_eq_false (by omega)
              clear k1 k2
              have hun : ∀ b, (undef = Value.bool b) = False := fun b => by unfold undef; simp
              gi_wp2_with fail
              simp only [List.append_eq, List.cons_append, List.nil_append]
              refine wpIn_region_quiet_lit rfl (by kernel_rfl) ?hlex ?_
              case hlex =>
                refine lexB_ten (by kernel_rfl) (by as_aux_lemma => kernel_rfl) (by kernel_rfl) ?_ ?_ ?_ ?_ ?_ ?_ ?_ ?_ ?_ ?_
                all_goals as_aux_lemma => kernel_rfl
              as_aux_lemma =>
                iterate 45 (gi_big_quiet_step (fail))
                as_aux_lemma =>
                  iterate 45 (try gi_big_quiet_step (fail))
                  as_aux_lemma =>
                    repeat (gi_big_quiet_step (fail))
                    refine wpQuietIn_nil ?_
                    intro _ hw'
                    obtain ⟨nq, hw''⟩ := hw'
                    subst hw''
                    gi_wp2_with fail
                    go_roundw
                    case rel => exact ⟨c + 1, by omega, by go_num, HBC.out.trans (bel_drewN _ _)⟩
                    case measure => simp [intOf]; omega
            · obtain rfl : c = s.paints.length := by omega
              have HBR := Lib.hid HBC.out
              clear hlt hc HBC
              gi_upto_if 195 with fail
              generalize hdd : decide (0 < ps.length) = dd
              gi_cut [] from 400 (fun wx => Bel wr wx)
              case first =>
                as_aux_lemma =>
                  by_cases hps : ps.length = 0
                  · have e0 : decide (0 < ps.length) = false := decide_eq_false (by omega)
                    obtain rfl : dd = false := by rw [← hdd]; exact e0
                    clear hdd
                    have e1 : ¬ 0 < ps.length := by omega
                    have HPZ := Lib.hid hps
                    clear hps
                    gi_wp2_with fail
                    gi_meet
                    case rel => exact Bel.refl _
                  · have e0 : decide (0 < ps.length) = true := decide_eq_true (by omega)
                    obtain rfl : dd = true := by rw [← hdd]; exact e0
                    clear hdd
                    have hps0 : 0 < ps.length := by omega
                    obtain ⟨lb, lo, rfl⟩ : ∃ b off, la = some ⟨b, off, none⟩ := by
                      obtain ⟨a', c', x', e', p1, p2, p3, p4⟩ := HPS.out
                      injection e' with e1 e2 e3
                      subst e1
                      obtain ⟨b, off, e, -⟩ := p4 0 hps0
                      exact ⟨b, off, e⟩
                    have hlc : ps.length ≤ lc ∧ lc ≤ maxLen := by
                      obtain ⟨a', c', x', e', p1, p2, -⟩ := HPS.out
                      injection e' with e1 e2 e3
                      subst e3
                      exact ⟨p1, p2⟩
                    have HLC := Lib.hid hlc
                    clear hlc hps
                    gi_wp2_with fail
                    have HBRW := Lib.hid (HBW.out.trans HBR.out)
                    have HPW2 := Lib.hid (HPS.out.bel (HBc.out.trans HBR.out))
                    obtain ⟨qs, hqs⟩ : ∃ qs, ps.tail = qs := ⟨_, rfl⟩
                    have HQL := Lib.hid (show qs.length ≤ 3 by rw [← hqs, List.length_tail]; omega)
                    have HQM := Lib.hid (show ∀ p, p ∈ qs → p ∈ ps by rw [← hqs]; exact fun p hp => List.mem_of_mem_tail hp)
                    have HQOK := Lib.hid (fun p (hp : p ∈ qs) => HOK.out p (HQM.out p hp))
                    have HQRL := Lib.hid (fun p (hp : p ∈ qs) => HRL.out p (HQM.out p hp))
                    have HLS := Lib.hid (CSet.told_less HN5.out HOF.out HQM.out HTY.out)
                    have HTQ := Lib.hid HLS.out.1
                    have HPTL := Lib.hid (show (¬ lc = 1 → Plns wr (.slice (some ⟨lb, lo + 1, none⟩) (ps.length - 1) (lc - 1)) qs) ∧ (lc = 1 → Plns wr (.slice (some ⟨lb, lo, none⟩) (ps.length - 1) 0) qs) by
                      have hql : qs.length = ps.length - 1 := by rw [← hqs, List.length_tail]
                      obtain ⟨a', c', x', e', p1, p2, p3, p4⟩ := HPW2.out
                      injection e' with e1 e2 e3
                      subst e1 e3
                      refine ⟨fun _ => ⟨some ⟨lb, lo + 1, none⟩, lc - 1, fun i => x' (i + 1), by rw [hql], by omega, by omega, nofun, fun i hi => ?_⟩, fun h1 => ⟨some ⟨lb, lo, none⟩, 0, x', by rw [hql], by omega, by omega, nofun, fun i hi => absurd hi (by omega)⟩⟩
                      obtain ⟨b, off, e, k0, k1⟩ := p4 (i + 1) (by omega)
                      injection e with e
                      injection e with e e2
                      subst e e2
                      refine ⟨lb, lo + 1, rfl, by rw [Nat.add_assoc, Nat.add_comm 1 i]; exact k0, ?_⟩
                      rw [← hqs, show ps.tail.getD i [] = ps.getD (i + 1) [] by cases ps with | nil => simp at hps0 | cons p ps => rfl]
                      exact k1)
                    clear hqs hps0 HPW2
                    refine region_growF (fun i v W => match i with
                      | 0 => v = .agg #[.slice qa s.paints.length qc, .int .i64 s.near, .int .i64 s.give, .slice da s.eats.length dc]
                      | 1 => SetV W v s
                      | 2 => v = .slice (some ⟨lb, lo, none⟩) ps.length lc
                      | 3 => Plns W v qs
                      | 4 => Plns W v qs
                      | 5 => ∃ a b, v = .tuple #[a, b, .int .i64 0] ∧ Spans W a s.paints.length (fun c => -CSet.gat (s.heatG qs) 5 c) (fun c => CSet.gat (s.heatG qs) c 5) ∧ Spans W b s.paints.length (fun c => -CSet.gat (s.stretchG qs) 5 c) (fun c => CSet.gat (s.stretchG qs) c 5)
                      | 6 => ∃ a b, v = .tuple #[a, b, .int .i64 0] ∧ Spans W a s.paints.length (fun c => -CSet.gat (s.heatG qs) 5 c) (fun c => CSet.gat (s.heatG qs) c 5) ∧ Spans W b s.paints.length (fun c => -CSet.gat (s.stretchG qs) 5 c) (fun c => CSet.gat (s.stretchG qs) c 5)
                      | 7 => Spans W v s.paints.length (fun c => -CSet.gat (s.heatG qs) 5 c) (fun c => CSet.gat (s.heatG qs) c 5)
                      | 8 => Spans W v s.paints.length (fun c => -CSet.gat (s.stretchG qs) 5 c) (fun c => CSet.gat (s.stretchG qs) c 5)
                      | 9 => v = .int .i64 0
                      | 10 => Spans W v s.paints.length (fun c => -CSet.gat (s.heatG qs) 5 c) (fun c => CSet.gat (s.heatG qs) c 5)
                      | 11 => Spans W v s.paints.length (fun c => -CSet.gat (s.stretchG qs) 5 c) (fun c => CSet.gat (s.stretchG qs) c 5)
                      | 12 => v = .int .i64 0
                      | _ => True) ?gfa18 ?gframe18 (by kernel_rfl) (by kernel_rfl) (by kernel_rfl) ?gstays18 ?gops18 ?gfin18
                    case gframe18 =>
                      intro vs
                      simp only [putAll, Act.put, List.setIfInBounds_toArray, List.set_cons_succ, List.set_cons_zero, Nat.reduceAdd, Nat.zero_add]
                      exact rfl
                    case gstays18 =>
                      intro i v W W' h hb
                      split at h <;> first | exact h | exact h.bel hb | exact fun e => (h e).bel hb | exact ⟨h.1.bel hb, h.2⟩ | (obtain ⟨a, b, h1, h2, h3⟩ := h; exact ⟨a, b, h1, h2.bel hb, h3.bel hb⟩)
                    case gops18 =>
                      refine ⟨?_, ?_, ?_, ?_, ?_, ?_, ?_, ?_, ?_, ?_, ?_, ?_, ?_, trivial⟩
                      · refine growOpF_k ?_; intro vs W hW hd K HK
                        clear hd
                        obtain ⟨c0, c1, c2, c3⟩ := HC.out.bel (HBRW.out.trans hW)
                        gi_wp2_with fail
                        refine HK.out _ _ ?_ ?_ ?_
                        · kernel_rfl
                        · rfl
                        · exact Bel.refl _
                      · refine growOpF_k ?_; intro vs W hW hd K HK
                        have h0 : (vs 0) = .agg #[.slice qa s.paints.length qc, .int .i64 s.near, .int .i64 s.give, .slice da s.eats.length dc] := hd 0 (by decide)
                        clear hd
                        have kl := own_any s (.agg #[.slice qa s.paints.length qc, .int .i64 s.near, .int .i64 s.give, .slice da s.eats.length dc]) W (HSV.out.bel (HBRW.out.trans hW)) (by have := HS.out.n5; omega) (by have := HS.out.eats; omega)
                        simp only [h0]
                        gi_wp2_with fail
                        refine ⟨trivial, rfl, (callsW kl).mono ?_⟩
                        rintro e W' ⟨v', rfl, hset, hb⟩
                        gi_wp2_with fail
                        refine HK.out _ _ ?_ ?_ ?_
                        · (try simp only [h0]) <;> kernel_rfl
                        · exact hset
                        · exact hb
                      · refine growOpF_k ?_; intro vs W hW hd K HK
                        clear hd
                        gi_wp2_with fail
                        refine HK.out _ _ ?_ ?_ ?_
                        · kernel_rfl
                        · rfl
                        · exact Bel.refl _
                      · refine growOpF_k ?_; intro vs W hW hd K HK
                        have h2 : (vs 2) = .slice (some ⟨lb, lo, none⟩) ps.length lc := hd 2 (by decide)
                        clear hd
                        have hlc := HLC.out
                        unfold maxLen at hlc
                        have hp1 : 1 ≤ ps.length := of_decide_eq_true e0
                        have HPT := Lib.hid (HPTL.out.1)
                        have HPT0 := Lib.hid (HPTL.out.2)
                        rcases Decidable.em (lc = 1) with hcc | hcc
                        · simp only [h2]
                          gi_wp2_with fail
                          refine HK.out _ _ ?_ ?_ ?_
                          · (try simp only [h2]) <;> kernel_rfl
                          · exact (HPT0.out hcc).bel hW
                          · exact Bel.refl _
                        · simp only [h2]
                          gi_wp2_with fail
                          refine HK.out _ _ ?_ ?_ ?_
                          · (try simp only [h2]) <;> kernel_rfl
                          · exact (HPT.out hcc).bel hW
                          · exact Bel.refl _
                      · refine growOpF_k ?_; intro vs W hW hd K HK
                        have h3 : Plns W (vs 3) qs := hd 3 (by decide)
                        clear hd
                        have kl := plansCopy_any (vs 3) qs W h3 (by have := HQL.out; omega) (fun p hp => ⟨(HQOK.out p hp).2.1, HQRL.out p hp⟩)
                        have KL := Lib.hid kl
                        clear kl h3
                        gi_wp2_with fail
                        refine ⟨trivial, rfl, (callsW KL.out).mono ?_⟩
                        rintro e W' ⟨r, rfl, hpl, -, hb⟩
                        gi_wp2_with fail
                        refine HK.out _ _ ?_ ?_ ?_
                        · kernel_rfl
                        · exact hpl
                        · exact hb
                      · refine growOpF_k ?_; intro vs W hW hd K HK
                        have h1 : SetV W (vs 1) s := hd 1 (by decide)
                        have h4 : Plns W (vs 4) qs := hd 4 (by decide)
                        clear hd
                        have kl := told_any s HS.out (vs 1) (vs 4) qs W h1 h4 (fun p hp => (HQOK.out p hp).1) (by have := HQL.out; omega)
                        have KL := Lib.hid kl
                        clear kl h1 h4
                        gi_wp2_with fail
                        refine ⟨trivial, rfl, (callsW KL.out).mono ?_⟩
                        rintro e W' ⟨av, bv, er, rfl, hto, hb⟩
                        rw [HTQ.out, if_pos rfl] at hto
                        obtain ⟨rfl, hsa, hsb⟩ := hto
                        gi_wp2_with fail
                        refine HK.out _ _ ?_ ?_ ?_
                        · kernel_rfl
                        · exact ⟨_, _, rfl, hsa, hsb⟩
                        · exact hb
                      · refine growOpF_k ?_; intro vs W hW hd K HK
                        have h5 : ∃ a b, (vs 5) = .tuple #[a, b, .int .i64 0] ∧ Spans W a s.paints.length (fun c => -CSet.gat (s.heatG qs) 5 c) (fun c => CSet.gat (s.heatG qs) c 5) ∧ Spans W b s.paints.length (fun c => -CSet.gat (s.stretchG qs) 5 c) (fun c => CSet.gat (s.stretchG qs) c 5) := hd 5 (by decide)
                        clear hd
                        obtain ⟨a, b, e4, hA, hB⟩ := h5
                        simp only [e4]
                        gi_wp2_with fail
                        refine HK.out _ _ ?_ ?_ ?_
                        · (try simp only [e4]) <;> kernel_rfl
                        · exact ⟨_, _, rfl, hA, hB⟩
                        · exact Bel.refl _
                      · refine growOpF_k ?_; intro vs W hW hd K HK
                        have h6 : ∃ a b, (vs 6) = .tuple #[a, b, .int .i64 0] ∧ Spans W a s.paints.length (fun c => -CSet.gat (s.heatG qs) 5 c) (fun c => CSet.gat (s.heatG qs) c 5) ∧ Spans W b s.paints.length (fun c => -CSet.gat (s.stretchG qs) 5 c) (fun c => CSet.gat (s.stretchG qs) c 5) := hd 6 (by decide)
                        clear hd
                        obtain ⟨a, b, e4, hA, hB⟩ := h6
                        simp only [e4]
                        gi_wp2_with fail
                        refine HK.out _ _ ?_ ?_ ?_
                        · (try simp only [e4]) <;> kernel_rfl
                        · exact hA
                        · exact Bel.refl _
                      · refine growOpF_k ?_; intro vs W hW hd K HK
                        have h6 : ∃ a b, (vs 6) = .tuple #[a, b, .int .i64 0] ∧ Spans W a s.paints.length (fun c => -CSet.gat (s.heatG qs) 5 c) (fun c => CSet.gat (s.heatG qs) c 5) ∧ Spans W b s.paints.length (fun c => -CSet.gat (s.stretchG qs) 5 c) (fun c => CSet.gat (s.stretchG qs) c 5) := hd 6 (by decide)
                        clear hd
                        obtain ⟨a, b, e4, hA, hB⟩ := h6
                        simp only [e4]
                        gi_wp2_with fail
                        refine HK.out _ _ ?_ ?_ ?_
                        · (try simp only [e4]) <;> kernel_rfl
                        · exact hB
                        · exact Bel.refl _
                      · refine growOpF_k ?_; intro vs W hW hd K HK
                        have h6 : ∃ a b, (vs 6) = .tuple #[a, b, .int .i64 0] ∧ Spans W a s.paints.length (fun c => -CSet.gat (s.heatG qs) 5 c) (fun c => CSet.gat (s.heatG qs) c 5) ∧ Spans W b s.paints.length (fun c => -CSet.gat (s.stretchG qs) 5 c) (fun c => CSet.gat (s.stretchG qs) c 5) := hd 6 (by decide)
                        clear hd
                        obtain ⟨a, b, e4, hA, hB⟩ := h6
                        simp only [e4]
                        gi_wp2_with fail
                        refine HK.out _ _ ?_ ?_ ?_
                        · (try simp only [e4]) <;> kernel_rfl
                        · rfl
                        · exact Bel.refl _
                      · refine growOpF_k ?_; intro vs W hW hd K HK
                        have h7 : Spans W (vs 7) s.paints.length (fun c => -CSet.gat (s.heatG qs) 5 c) (fun c => CSet.gat (s.heatG qs) c 5) := hd 7 (by decide)
                        clear hd
                        gi_wp2_with fail
                        refine HK.out _ _ ?_ ?_ ?_
                        · kernel_rfl
                        · exact h7
                        · exact Bel.refl _
                      · refine growOpF_k ?_; intro vs W hW hd K HK
                        have h8 : Spans W (vs 8) s.paints.length (fun c => -CSet.gat (s.stretchG qs) 5 c) (fun c => CSet.gat (s.stretchG qs) c 5) := hd 8 (by decide)
                        clear hd
                        gi_wp2_with fail
                        refine HK.out _ _ ?_ ?_ ?_
                        · kernel_rfl
                        · exact h8
                        · exact Bel.refl _
                      · refine growOpF_k ?_; intro vs W hW hd K HK
                        have h9 : (vs 9) = .int .i64 0 := hd 9 (by decide)
                        clear hd
                        simp only [h9]
                        gi_wp2_with fail
                        refine HK.out _ _ ?_ ?_ ?_
                        · (try simp only [h9]) <;> kernel_rfl
                        · rfl
                        · exact Bel.refl _
                    case gfin18 =>
                      intro vs W hW hall
                      have g10 : Spans W (vs 10) s.paints.length (fun c => -CSet.gat (s.heatG qs) 5 c) (fun c => CSet.gat (s.heatG qs) c 5) := hall 10 (by decide)
                      have g11 : Spans W (vs 11) s.paints.length (fun c => -CSet.gat (s.stretchG qs) 5 c) (fun c => CSet.gat (s.stretchG qs) c 5) := hall 11 (by decide)
                      have g12 : vs 12 = .int .i64 0 := hall 12 (by decide)
                      clear hall
                      simp only [g12]
                      generalize vs 10 = x10 at *
                      generalize vs 11 = x11 at *
                      have HX := Lib.hid g10
                      have HX2 := Lib.hid g11
                      obtain ⟨xa, xc, rfl, -⟩ := g10
                      obtain ⟨ya, yc, rfl, -⟩ := g11
                      have HBT := Lib.hid hW
                      have HBTW := Lib.hid (HBRW.out.trans hW)
                      have HSA2 := Lib.hid (HSA.out.bel (HBR.out.trans hW))
                      have HSB2 := Lib.hid (HSBB.out.bel (HBR.out.trans hW))
                      clear hW g12 HPTL
                      have hun : ∀ b, (undef = Value.bool b) = False := fun b => by unfold undef; simp
                      gi_wp2_with fail
                      gi_loopw [20] (fun iv wr => ∃ c : Nat, c ≤ s.paints.length ∧ iv = .int .i64 c ∧ Bel W wr) (fun iv _ => s.paints.length - (intOf iv).toNat)
                      case atStart => exact ⟨0, Nat.zero_le _, rfl, Bel.refl _⟩
                      case round =>
                        as_aux_lemma =>
                          obtain ⟨c, hc, rfl, hb⟩ := hrel
                          have HBC := Lib.hid hb
                          have hn5 := HN5.out
                          clear hb
                          by_cases hlt : c < s.paints.length
                          · have h0 : decide (c < s.paints.length) = true := decide_eq_true hlt
                            obtain ⟨a1, c9, e1, -, -, -, g4⟩ := HSA2.out.bel HBC.out
                            injection e1 with e1 e2 e3
                            subst e1 e3
                            obtain ⟨sb, so, rfl, u0, u1⟩ := g4 c hlt
                            clear g4 e2
                            obtain ⟨a1, c9, e1, -, -, -, g4⟩ := HSB2.out.bel HBC.out
                            injection e1 with e1 e2 e3
                            subst e1 e3
                            obtain ⟨sb2, so2, rfl, v0, v1⟩ := g4 c hlt
                            clear g4 e2
                            obtain ⟨a1, c9, e1, -, -, -, g4⟩ := HX.out.bel HBC.out
                            injection e1 with e1 e2 e3
                            subst e1 e3
                            obtain ⟨xb, xo, rfl, x0, x1⟩ := g4 c hlt
                            clear g4 e2
                            obtain ⟨a1, c9, e1, -, -, -, g4⟩ := HX2.out.bel HBC.out
                            injection e1 with e1 e2 e3
                            subst e1 e3
                            obtain ⟨xb2, xo2, rfl, y0, y1⟩ := g4 c hlt
                            clear g4 e2
                            dsimp only at u0 u1 v0 v1 x0 x1 y0 y1
                            have k1 := HLS.out.2 c hlt
                            generalize -CSet.gat (s.heatG ps) 5 c = l0 at *
                            generalize CSet.gat (s.heatG ps) c 5 = h9 at *
                            generalize -CSet.gat (s.stretchG ps) 5 c = l1 at *
                            generalize CSet.gat (s.stretchG ps) c 5 = h8 at *
                            generalize -CSet.gat (s.heatG qs) 5 c = m0 at *
                            generalize CSet.gat (s.heatG qs) c 5 = n9 at *
                            generalize -CSet.gat (s.stretchG qs) 5 c = m1 at *
                            generalize CSet.gat (s.stretchG qs) c 5 = n8 at *
                            have d1 : decide (m0 > l0) = false := decide_eq_false (by omega)
                            have d1' : decide (l0 < m0) = false := decide_eq_false (by omega)
                            have d2 : decide (n9 < h9) = false := decide_eq_false (by omega)
                            have d3 : decide (m1 > l1) = false := decide_eq_false (by omega)
                            have d3' : decide (l1 < m1) = false := decide_eq_false (by omega)
                            have d4 : decide (n8 < h8) = false := decide_eq_false (by omega)
                            clear k1
                            gi_wp2_with fail
                            gi_big_quiet (fail)
                            gi_wp2_with fail
                            go_roundw
                            case rel => exact ⟨c + 1, by omega, by go_num, HBC.out.trans (bel_drewN _ _)⟩
                            case measure => simp [intOf]; omega
                          · obtain rfl : c = s.paints.length := by omega
                            gi_wp2_with fail
                            gi_meet
                            case rel => exact HBT.out.trans HBC.out
              case rest =>
                as_aux_lemma =>
                  have HBS := Lib.hid (HBR.out.trans hcut)
                  have HBSW := Lib.hid (HBW.out.trans HBS.out)
                  clear hcut
                  have hn1 : 0 < s.paints.length := by have := HS.out.n1; omega
                  have hn5 := HN5.out
                  obtain ⟨z, hz⟩ : ∃ z, y % s.paints.length = z := ⟨_, rfl⟩
                  have hzl : z < s.paints.length := by rw [← hz]; exact Nat.mod_lt _ hn1
                  have hmod : (y : Int) % (s.paints.length : Int) = (z : Int) := by rw [← hz]; rfl
                  have hmod2 : (y : Int).tmod (s.paints.length : Int) = (z : Int) := by rw [← hz]; rfl
                  have hnp : (0 : Int) < (s.paints.length : Int) := by omega
                  clear hz
                  gi_wp2_with fail
                  obtain ⟨w3, rfl⟩ : ∃ w3, w3 = wc := ⟨_, rfl⟩
                  gi_loopw [22] (fun iv wr => ∃ k : Nat, k ≤ 4 ∧ iv = .int .i64 k ∧ Bel w3 wr) (fun iv _ => 4 - (intOf iv).toNat)
                  case atStart => exact ⟨0, Nat.zero_le _, rfl, Bel.refl _⟩
                  case round =>
                    as_aux_lemma =>
                      obtain ⟨k, hk, rfl, hb⟩ := hrel
                      have HBK := Lib.hid hb
                      have HBKW := Lib.hid (HBSW.out.trans hb)
                      have HBKC := Lib.hid (HBS.out.trans hb)
                      obtain ⟨c0, c1, c2, c3⟩ := HC.out.bel HBKW.out
                      have hun : ∀ b, (undef = Value.bool b) = False := fun b => by unfold undef; simp
                      clear hb
                      by_cases hlt : k < 4
                      · have h0 : decide ((k : Int) < 4) = true := decide_eq_true (by omega)
                        have hsp := HTS.out z hzl
                        have hsb := HS.out.paints z hzl
                        obtain ⟨a1, c9, e1, -, -, -, g4⟩ := HSA.out.bel HBKC.out
                        injection e1 with e1 e2 e3
                        subst e1 e3
                        obtain ⟨sb, so, rfl, u0, u1⟩ := g4 z hzl
                        clear g4 e2
                        dsimp only at u0 u1
                        have H1 := Lib.hid (show ∀ n : Int, (s.paint z).hl ≤ n → n ≤ (s.paint z).hh → (n = -CSet.gat (s.heatG ps) 5 z ∨ n = CSet.gat (s.heatG ps) z 5 → (s.oneHeat z n).truly ps = true) ∧ (n < -CSet.gat (s.heatG ps) 5 z ∨ CSet.gat (s.heatG ps) z 5 < n → (s.oneHeat z n).truly ps = false) from fun n a b => CSet.told_one HS.out HOF.out HTY.out hzl a b)
                        generalize -CSet.gat (s.heatG ps) 5 z = l0 at *
                        generalize CSet.gat (s.heatG ps) z 5 = h9 at *
                        obtain ⟨N, hN⟩ : ∃ N : Int, (if k = 0 then l0 else if k = 1 then h9 else if k = 2 then l0 - 1 else h9 + 1) = N := ⟨_, rfl⟩
                        have HN := Lib.hid hN
                        have b1 : 0 ≤ l0 := by omega
                        have b2 : l0 ≤ 1000 := by omega
                        have b3 : 0 ≤ h9 := by omega
                        have b4 : h9 ≤ 1000 := by omega
                        have w1 : IntKind.i64.wrap (l0 - 1) = l0 - 1 := IntWalk.i64_in _ (by omega)
                        have w2 : IntKind.i64.wrap (h9 + 1) = h9 + 1 := IntWalk.i64_in _ (by omega)
                        clear hN hsp hsb
                        gi_upto_region 30 with fail
                        gi_cut [23] from 400 (fun v wx => v = .int .i64 N ∧ Bel wr wx)
                        case first =>
                          as_aux_lemma =>
                            have hk4 : k = 0 ∨ k = 1 ∨ k = 2 ∨ k = 3 := by omega
                            have hN := HN.out
                            clear HN H1
                            rcases hk4 with rfl | rfl | rfl | rfl
                            · have HE := Lib.hid (show l0 = N from hN)
                              have ix := fun w => ix0 l0 h9 (l0 - 1) (h9 + 1) w
                              clear hN
                              gi_big_quiet (fail)
                              gi_wp2_with fail
                              gi_meet
                              case rel => exact ⟨by rw [← HE.out], bel_drewN _ _⟩
                            · have HE := Lib.hid (show h9 = N from hN)
                              have ix := fun w => ix1 l0 h9 (l0 - 1) (h9 + 1) w
                              clear hN
                              gi_big_quiet (fail)
                              gi_wp2_with fail
                              gi_meet
                              case rel => exact ⟨by rw [← HE.out], bel_drewN _ _⟩
                            · have HE := Lib.hid (show l0 - 1 = N from hN)
                              have ix := fun w => ix2 l0 h9 (l0 - 1) (h9 + 1) w
                              clear hN
                              gi_big_quiet (fail)
                              gi_wp2_with fail
                              gi_meet
                              case rel => exact ⟨by rw [← HE.out], bel_drewN _ _⟩
                            · have HE := Lib.hid (show h9 + 1 = N from hN)
                              have ix := fun w => ix3 l0 h9 (l0 - 1) (h9 + 1) w
                              clear hN
                              gi_big_quiet (fail)
                              gi_wp2_with fail
                              gi_meet
                              case rel => exact ⟨by rw [← HE.out], bel_drewN _ _⟩
                        case rest =>
                          as_aux_lemma =>
                            obtain ⟨rfl, hbx⟩ := hcut
                            have HBX := Lib.hid (HBK.out.trans hbx)
                            have HBXW := Lib.hid (HBKW.out.trans hbx)
                            clear hbx c0 c1 c2 c3 u0 u1 w1 w2
                            obtain ⟨c0, c1, c2, c3⟩ := HC.out.bel HBXW.out
                            obtain ⟨pb, poff, rfl, p0, p1, -⟩ := (HPW.out.bel HBXW.out).cells' hzl
                            have hpd : s.paints.getD z ⟨0, 0, 0, 0, 0, 0⟩ = s.paint z := rfl
                            rw [hpd] at p0 p1
                            have hsb := HS.out.paints z hzl
                            have HB0 := Lib.hid (show 0 ≤ (s.paint z).hl ∧ (s.paint z).hh ≤ 1000 from ⟨hsb.1, hsb.2.2.1⟩)
                            have H2 := Lib.hid (show ∀ n : Int, (s.paint z).hl ≤ n → n ≤ (s.paint z).hh → (k < 2 → n = N → (s.oneHeat z n).truly ps = true) ∧ (¬ k < 2 → n = N → (s.oneHeat z n).truly ps = false) from fun n h1 h2 => by
                              obtain ⟨t1, t2⟩ := H1.out n h1 h2
                              have hN := HN.out
                              refine ⟨fun hk hn => t1 ?_, fun hk hn => t2 ?_⟩
                              · have : k = 0 ∨ k = 1 := by omega
                                rcases this with h | h
                                · rw [if_pos h] at hN; exact .inl (by omega)
                                · rw [if_neg (by omega), if_pos h] at hN; exact .inr (by omega)
                              · have : k = 2 ∨ k = 3 := by omega
                                rcases this with h | h
                                · rw [if_neg (by omega), if_neg (by omega), if_pos h] at hN; exact .inl (by omega)
                                · rw [if_neg (by omega), if_neg (by omega), if_neg (by omega)] at hN; exact .inr (by omega))
                            clear hpd hsb H1
                            by_cases hin : (s.paint z).hl ≤ N ∧ N ≤ (s.paint z).hh
                            · obtain ⟨hin1, hin2⟩ := hin
                              have HTV := Lib.hid (H2.out N hin1 hin2)
                              have d1 : decide (N < (s.paint z).hl) = false := decide_eq_false (by omega)
                              have d2 : decide (N > (s.paint z).hh) = false := decide_eq_false (by omega)
                              have d3 : decide ((s.paint z).hh < N) = false := decide_eq_false (by omega)
                              have KO := Lib.hid (own_zeroed s _ wc (HSV.out.bel HBXW.out) (by have := HS.out.n5; omega) (by have := HS.out.eats; omega))
                              have HON := Lib.hid (show (s.oneHeat z N).Ok from CSet.oneHeat_ok HS.out hzl (by have := HB0.out; omega) (by have := HB0.out; omega))
                              clear H2 HB0
                              gi_wp2_with fail
                              refine ⟨trivial, rfl, (callsW KO.out).mono ?_⟩
                              rintro e wa7 ⟨ga, gc, gb, gd, rfl, hset, hta, htb, hb⟩
                              have HST := Lib.hid hset
                              have HTA := Lib.hid hta
                              have HTB := Lib.hid htb
                              have HBa := Lib.hid (HBX.out.trans hb)
                              clear hset hta htb hb KO c0 c1 c2 c3 p0 p1 d1 d2 d3
                              gi_wp2_with fail
                              obtain ⟨W8, hW8⟩ : ∃ W8, wa7.alloc (.cells #[.slice (some ⟨ga, 0, none⟩) s.paints.length gc, .int .i64 s.near, .int .i64 s.give, .slice (some ⟨gb, 0, none⟩) s.eats.length gd] 31) = W8 := ⟨_, rfl⟩
                              rw [hW8]
                              have HC8 := Lib.hid (show C4 W8 wa7.heap.size (.slice (some ⟨ga, 0, none⟩) s.paints.length gc) (.int .i64 s.near) (.int .i64 s.give) (.slice (some ⟨gb, 0, none⟩) s.eats.length gd) by rw [← hW8]; exact C4.new _ _ _ _ _ _)
                              have hb8 : Bel wa7 W8 := by rw [← hW8]; exact (Bel.refl _).alloc _
                              have HB8 := Lib.hid (HBa.out.trans hb8)
                              have HST8 := Lib.hid (HST.out.bel hb8)
                              have HTA8 := Lib.hid (HTA.out.bel hb8)
                              have HTB8 := Lib.hid (HTB.out.bel hb8)
                              have HE8 := Lib.hid (show OfZ W8 wa7.heap.size 31 from ⟨_, by rw [← hW8]; exact World.alloc_heap_new _ _⟩)
                              have HPS8 := Lib.hid (HPS.out.bel (HBc.out.trans (HBS.out.trans HB8.out)))
                              clear hW8 hb8 HST HTA HTB
                              generalize wa7.heap.size = E at *
                              refine region_tailF 8 (fun i v W => match i with
                                | 0 => v = .pointer (some ⟨E, 0, none⟩)
                                | 1 => v = .slice (some ⟨ga, 0, none⟩) s.paints.length gc
                                | 2 => v = .int .i64 ((z : Nat) : Int)
                                | 3 => v = .int .i64 N
                                | 4 => v = .int .i64 N
                                | 5 => v = .agg #[.int .i64 N, .int .i64 N]
                                | 6 => v = .pointer (some ⟨ga, z * 6, none⟩)
                                | 7 => v = .pointer (some ⟨ga, z * 6, none⟩)
                                | _ => True) ?gfa33 ?gfb33 ?gframe33 ?gxframe33 (by kernel_rfl) (by kernel_rfl) (by kernel_rfl) (by kernel_rfl) ?gstays33 ?gops33 ?gfin33
                              case gframe33 =>
                                intro vs
                                simp only [putAll, Act.put, List.setIfInBounds_toArray, List.set_cons_succ, List.set_cons_zero, Nat.reduceAdd, Nat.zero_add]
                                exact rfl
                              case gxframe33 =>
                                intro vs
                                simp only [putAll, Act.put, List.setIfInBounds_toArray, List.set_cons_succ, List.set_cons_zero, Nat.reduceAdd, Nat.zero_add, List.take_succ_cons, List.take_zero]
                                exact rfl
                              case gstays33 =>
                                intro i v W W' h hb
                                split at h <;> first | exact h | exact h.bel hb | exact fun e => (h e).bel hb | exact ⟨h.1.bel hb, h.2⟩
                              case gops33 =>
                                refine ⟨?_, ?_, ?_, ?_, ?_, ?_, ?_, ?_, trivial⟩
                                · refine growOpF_k ?_; intro vs W hW hd K HK
                                  clear hd
                                  gi_wp2_with fail
                                  refine HK.out _ _ ?_ ?_ ?_
                                  · kernel_rfl
                                  · rfl
                                  · exact Bel.refl _
                                · refine growOpF_k ?_; intro vs W hW hd K HK
                                  have h0 : (vs 0) = .pointer (some ⟨E, 0, none⟩) := hd 0 (by decide)
                                  clear hd
                                  obtain ⟨c0, c1, c2, c3⟩ := HC8.out.bel hW
                                  simp only [h0]
                                  gi_wp2_with fail
                                  refine HK.out _ _ ?_ ?_ ?_
                                  · (try simp only [h0]) <;> kernel_rfl
                                  · rfl
                                  · exact Bel.refl _
                                · refine growOpF_k ?_; intro vs W hW hd K HK
                                  clear hd
                                  gi_wp2_with fail
                                  refine HK.out _ _ ?_ ?_ ?_
                                  · kernel_rfl
                                  · rfl
                                  · exact Bel.refl _
                                · refine growOpF_k ?_; intro vs W hW hd K HK
                                  clear hd
                                  gi_wp2_with fail
                                  refine HK.out _ _ ?_ ?_ ?_
                                  · kernel_rfl
                                  · rfl
                                  · exact Bel.refl _
                                · refine growOpF_k ?_; intro vs W hW hd K HK
                                  clear hd
                                  gi_wp2_with fail
                                  refine HK.out _ _ ?_ ?_ ?_
                                  · kernel_rfl
                                  · rfl
                                  · exact Bel.refl _
                                · refine growOpF_k ?_; intro vs W hW hd K HK
                                  have h3 : (vs 3) = .int .i64 N := hd 3 (by decide)
                                  have h4 : (vs 4) = .int .i64 N := hd 4 (by decide)
                                  clear hd
                                  simp only [h3, h4]
                                  gi_wp2_with fail
                                  refine ⟨trivial, rfl, (callsW (span_any _ _ _)).mono ?_⟩
                                  rintro e W' ⟨rfl, hb⟩
                                  gi_wp2_with fail
                                  refine HK.out _ _ ?_ ?_ ?_
                                  · (try simp only [h3, h4]) <;> kernel_rfl
                                  · rfl
                                  · exact hb
                                · refine growOpF_k ?_; intro vs W hW hd K HK
                                  have h1 : (vs 1) = .slice (some ⟨ga, 0, none⟩) s.paints.length gc := hd 1 (by decide)
                                  have h2 : (vs 2) = .int .i64 ((z : Nat) : Int) := hd 2 (by decide)
                                  clear hd
                                  simp only [h1, h2]
                                  gi_wp2_with fail
                                  refine HK.out _ _ ?_ ?_ ?_
                                  · (try simp only [h1, h2]) <;> kernel_rfl
                                  · rfl
                                  · exact Bel.refl _
                                · refine growOpF_k ?_; intro vs W hW hd K HK
                                  have h6 : (vs 6) = .pointer (some ⟨ga, z * 6, none⟩) := hd 6 (by decide)
                                  clear hd
                                  simp only [h6]
                                  gi_wp2_with fail
                                  refine HK.out _ _ ?_ ?_ ?_
                                  · (try simp only [h6]) <;> kernel_rfl
                                  · rfl
                                  · exact Bel.refl _
                              case gfin33 =>
                                intro vs W hW hall
                                have g5 : vs 5 = .agg #[.int .i64 N, .int .i64 N] := hall 5 (by decide)
                                have g7 : vs 7 = .pointer (some ⟨ga, z * 6, none⟩) := hall 7 (by decide)
                                clear hall
                                simp only [List.drop_succ_cons, List.drop_zero, g5, g7]
                                have HPQ := Lib.hid (show Paints W (.slice (some ⟨ga, 0, none⟩) s.paints.length gc) s.paints ∧ Pairs W (.slice (some ⟨gb, 0, none⟩) s.eats.length gd) s.eats by
                                  obtain ⟨pv, ev, e, h1, h2⟩ := HST8.out.bel hW
                                  injection e with e
                                  have e3 := congrArg Array.toList e
                                  simp only [List.cons.injEq] at e3
                                  obtain ⟨rfl, -, -, rfl, -⟩ := e3
                                  exact ⟨h1, h2⟩)
                                have hta := HTA8.out.bel hW
                                have htb := HTB8.out.bel hW
                                have hte := HE8.out.bel hW
                                have hne1 : gb ≠ ga := htb.2.ne hta.2 (by decide)
                                have hne2 : E ≠ ga := hte.ne hta.2 (by decide)
                                obtain ⟨b', off', e', t0, t1, -⟩ := HPQ.out.1.cells' hzl
                                injection e' with e'
                                injection e' with e1 e2
                                subst e1 e2
                                rw [Nat.zero_add] at t0 t1
                                have t0' := hta.2.fro (z * 6)
                                have t1' := hta.2.fro (z * 6 + 1)
                                have HCW := Lib.hid (HC8.out.bel hW)
                                have HBWW := Lib.hid (HB8.out.trans hW)
                                have HPSW := Lib.hid (HPS8.out.bel hW)
                                have HGA := Lib.hid (show w3.heap.size ≤ ga from Nat.le_trans HBX.out.size hta.1)
                                have HNE := Lib.hid (And.intro hne1 hne2)
                                clear g5 g7 hta htb hte hne1 hne2 hW
                                gi_wp2_with fail
                                obtain ⟨V, hV⟩ : ∃ V, (W.setCell ⟨ga, z * 6, none⟩ (.int .i64 N)).setCell ⟨ga, z * 6 + 1, none⟩ (.int .i64 N) = V := ⟨_, rfl⟩
                                rw [hV]
                                have hbut : But ga W V := by rw [← hV]; exact (But.set _ _ _ _).trans (But.set _ _ _ _)
                                have HBV := Lib.hid (hbut.bel HBWW.out HGA.out)
                                have HCV := Lib.hid (hbut.c4 HNE.out.2 HCW.out)
                                have HSVV := Lib.hid (show SetV V (.agg #[.slice (some ⟨ga, 0, none⟩) s.paints.length gc, .int .i64 s.near, .int .i64 s.give, .slice (some ⟨gb, 0, none⟩) s.eats.length gd]) (s.oneHeat z N) from
                                  ⟨_, _, rfl, by rw [← hV]; exact HPQ.out.1.heat hzl N, HPQ.out.2.but HNE.out.1 hbut⟩)
                                have HPSV := Lib.hid (HPS.out.bel (HBc.out.trans (HBS.out.trans HBV.out)))
                                have HBVW := Lib.hid (HBSW.out.trans HBV.out)
                                have HOK2 := Lib.hid (show ∀ p, p ∈ ps → PlanOk (s.oneHeat z N).paints.length p ∧ ∀ r, r ∈ p → Asc (s.oneHeat z N).paints.length r from fun p hp => by rw [CSet.oneHeat_len]; exact (HOK.out p hp).1)
                                obtain ⟨ER, hER⟩ : ∃ ER : Int, (if (s.oneHeat z N).truly ps = true then (0 : Int) else 9) = ER := ⟨_, rfl⟩
                                have HER := Lib.hid hER
                                have HEK := Lib.hid (show (k < 2 → ER = 0) ∧ (¬ k < 2 → ER = 9) from ⟨fun h => by rw [← hER, if_pos (HTV.out.1 h (by first | trivial | rfl))], fun h => by rw [← hER, if_neg (by rw [HTV.out.2 h (by first | trivial | rfl)]; simp)]⟩)
                                clear hV hbut t0 t1 t0' t1' HPQ HCW HBWW HPSW HNE HGA hER HST8 HTA8 HTB8 HE8 HC8 HPS8 HB8 HTV
                                gi_wp2_with fail
                                refine region_growF (fun i v W => match i with
                                  | 0 => v = .agg #[.slice (some ⟨ga, 0, none⟩) s.paints.length gc, .int .i64 s.near, .int .i64 s.give, .slice (some ⟨gb, 0, none⟩) s.eats.length gd]
                                  | 1 => v = .slice la ps.length lc
                                  | 2 => Plns W v ps
                                  | 3 => ∃ a b, v = .tuple #[a, b, .int .i64 ER]
                                  | 4 => ∃ a b, v = .tuple #[a, b, .int .i64 ER]
                                  | 7 => v = .int .i64 ER
                                  | 10 => v = .int .i64 ER
                                  | _ => True) ?gfa34 ?gframe34 (by kernel_rfl) (by kernel_rfl) (by kernel_rfl) ?gstays34 ?gops34 ?gfin34
                                case gframe34 =>
                                  intro vs
                                  simp only [putAll, Act.put, List.setIfInBounds_toArray, List.set_cons_succ, List.set_cons_zero, Nat.reduceAdd, Nat.zero_add]
                                  exact rfl
                                case gstays34 =>
                                  intro i v W W' h hb
                                  split at h <;> first | exact h | exact h.bel hb | exact fun e => (h e).bel hb | exact ⟨h.1.bel hb, h.2⟩ | trivial
                                case gops34 =>
                                  refine ⟨?_, ?_, ?_, ?_, ?_, ?_, ?_, ?_, ?_, ?_, ?_, trivial⟩
                                  · refine growOpF_k ?_; intro vs W hW hd K HK
                                    clear hd
                                    obtain ⟨c0, c1, c2, c3⟩ := HCV.out.bel hW
                                    gi_wp2_with fail
                                    refine HK.out _ _ ?_ ?_ ?_
                                    · kernel_rfl
                                    · rfl
                                    · exact Bel.refl _
                                  · refine growOpF_k ?_; intro vs W hW hd K HK
                                    clear hd
                                    gi_wp2_with fail
                                    refine HK.out _ _ ?_ ?_ ?_
                                    · kernel_rfl
                                    · rfl
                                    · exact Bel.refl _
                                  · refine growOpF_k ?_; intro vs W hW hd K HK
                                    have h1 : (vs 1) = .slice la ps.length lc := hd 1 (by decide)
                                    clear hd
                                    have kl := plansCopy_any (.slice la ps.length lc) ps W (HPSV.out.bel hW) (by omega) (fun p hp => ⟨(HOK.out p hp).2.1, HRL.out p hp⟩)
                                    have KL := Lib.hid kl
                                    clear kl
                                    simp only [h1]
                                    gi_wp2_with fail
                                    refine ⟨trivial, rfl, (callsW KL.out).mono ?_⟩
                                    rintro e W' ⟨r, rfl, hpl, -, hb⟩
                                    gi_wp2_with fail
                                    refine HK.out _ _ ?_ ?_ ?_
                                    · (try simp only [h1]) <;> kernel_rfl
                                    · exact hpl
                                    · exact hb
                                  · refine growOpF_k ?_; intro vs W hW hd K HK
                                    have h0 : (vs 0) = .agg #[.slice (some ⟨ga, 0, none⟩) s.paints.length gc, .int .i64 s.near, .int .i64 s.give, .slice (some ⟨gb, 0, none⟩) s.eats.length gd] := hd 0 (by decide)
                                    have h2 : Plns W (vs 2) ps := hd 2 (by decide)
                                    clear hd
                                    have kl := told_any (s.oneHeat z N) HON.out (.agg #[.slice (some ⟨ga, 0, none⟩) s.paints.length gc, .int .i64 s.near, .int .i64 s.give, .slice (some ⟨gb, 0, none⟩) s.eats.length gd]) (vs 2) ps W (HSVV.out.bel hW) h2 HOK2.out (by omega)
                                    have KL := Lib.hid kl
                                    clear kl h2
                                    simp only [h0]
                                    gi_wp2_with fail
                                    refine ⟨trivial, rfl, (callsW KL.out).mono ?_⟩
                                    rintro e W' ⟨av, bv, er, rfl, hto, hb⟩
                                    have her : er = ER := by
                                      rw [← HER.out]
                                      split at hto
                                      · rename_i h; rw [if_pos h]; exact hto.1
                                      · rename_i h; rw [if_neg h]; exact hto.1
                                    subst her
                                    gi_wp2_with fail
                                    refine HK.out _ _ ?_ ?_ ?_
                                    · (try simp only [h0]) <;> kernel_rfl
                                    · exact ⟨_, _, rfl⟩
                                    · exact hb
                                  · refine growOpF_k ?_; intro vs W hW hd K HK
                                    have h3 : ∃ a b, (vs 3) = .tuple #[a, b, .int .i64 ER] := hd 3 (by decide)
                                    clear hd
                                    obtain ⟨a, b, e4⟩ := h3
                                    simp only [e4]
                                    gi_wp2_with fail
                                    refine HK.out _ _ ?_ ?_ ?_
                                    · (try simp only [e4]) <;> kernel_rfl
                                    · exact ⟨_, _, rfl⟩
                                    · exact Bel.refl _
                                  · refine growOpF_k ?_; intro vs W hW hd K HK
                                    have h4 : ∃ a b, (vs 4) = .tuple #[a, b, .int .i64 ER] := hd 4 (by decide)
                                    clear hd
                                    obtain ⟨a, b, e4⟩ := h4
                                    simp only [e4]
                                    gi_wp2_with fail
                                    refine HK.out _ _ ?_ ?_ ?_
                                    · (try simp only [e4]) <;> kernel_rfl
                                    · trivial
                                    · exact Bel.refl _
                                  · refine growOpF_k ?_; intro vs W hW hd K HK
                                    have h4 : ∃ a b, (vs 4) = .tuple #[a, b, .int .i64 ER] := hd 4 (by decide)
                                    clear hd
                                    obtain ⟨a, b, e4⟩ := h4
                                    simp only [e4]
                                    gi_wp2_with fail
                                    refine HK.out _ _ ?_ ?_ ?_
                                    · (try simp only [e4]) <;> kernel_rfl
                                    · trivial
                                    · exact Bel.refl _
                                  · refine growOpF_k ?_; intro vs W hW hd K HK
                                    have h4 : ∃ a b, (vs 4) = .tuple #[a, b, .int .i64 ER] := hd 4 (by decide)
                                    clear hd
                                    obtain ⟨a, b, e4⟩ := h4
                                    simp only [e4]
                                    gi_wp2_with fail
                                    refine HK.out _ _ ?_ ?_ ?_
                                    · (try simp only [e4]) <;> kernel_rfl
                                    · rfl
                                    · exact Bel.refl _
                                  · refine growOpF_k ?_; intro vs W hW hd K HK
                                    clear hd
                                    gi_wp2_with fail
                                    refine HK.out _ _ ?_ ?_ ?_
                                    · kernel_rfl
                                    · trivial
                                    · exact Bel.refl _
                                  · refine growOpF_k ?_; intro vs W hW hd K HK
                                    clear hd
                                    gi_wp2_with fail
                                    refine HK.out _ _ ?_ ?_ ?_
                                    · kernel_rfl
                                    · trivial
                                    · exact Bel.refl _
                                  · refine growOpF_k ?_; intro vs W hW hd K HK
                                    have h7 : (vs 7) = .int .i64 ER := hd 7 (by decide)
                                    clear hd
                                    simp only [h7]
                                    gi_wp2_with fail
                                    refine HK.out _ _ ?_ ?_ ?_
                                    · (try simp only [h7]) <;> kernel_rfl
                                    · rfl
                                    · exact Bel.refl _
                                case gfin34 =>
                                  intro vs W' hW hall
                                  have g10 : vs 10 = .int .i64 ER := hall 10 (by decide)
                                  clear hall
                                  simp only [g10]
                                  have HBF := Lib.hid (HBV.out.trans hW)
                                  have hek := HEK.out
                                  clear hW g10 HEK
                                  by_cases h2 : k < 2
                                  · obtain rfl := (hek.1 h2)
                                    have f1 : decide ((k : Int) < 2) = true := decide_eq_true (by omega)
                                    clear hek
                                    gi_wp2_with fail
                                    go_roundw
                                    case rel => exact ⟨k + 1, by omega, by go_num, HBF.out⟩
                                    case measure => simp [intOf]; omega
                                  · obtain rfl := (hek.2 h2)
                                    have f1 : decide ((k : Int) < 2) = false := decide_eq_false (by omega)
                                    clear hek
                                    gi_wp2_with fail
                                    go_roundw
                                    case rel => exact ⟨k + 1, by omega, by go_num, HBF.out⟩
                                    case measure => simp [intOf]; omega
                            · have hb0 := HB0.out
                              clear H2 HB0
                              by_cases h1 : N < (s.paint z).hl
                              · have d1 : decide (N < (s.paint z).hl) = true := decide_eq_true h1
                                clear hin
                                gi_wp2_with fail
                                go_roundw
                                case rel => exact ⟨k + 1, by omega, by go_num, HBX.out⟩
                                case measure => simp [intOf]; omega
                              · have d1 : decide (N < (s.paint z).hl) = false := decide_eq_false h1
                                have d2 : decide (N > (s.paint z).hh) = true := decide_eq_true (by omega)
                                have d3 : decide ((s.paint z).hh < N) = true := decide_eq_true (by omega)
                                clear hin
                                gi_wp2_with fail
                                go_roundw
                                case rel => exact ⟨k + 1, by omega, by go_num, HBX.out⟩
                                case measure => simp [intOf]; omega
                      · obtain rfl : k = 4 := by omega
                        gi_wp2_with fail
                        refine ⟨trivial, rfl, (callsW (known_any _)).mono ?_⟩
                        rintro e wz ⟨rfl, hb⟩
                        have hfin := (HSB.out.trans HBKW.out).trans hb
                        gi_wp2_with fail
                        exact bodyPost_ret (v := .bool true) (by simp [results, Try.results6, go_sem]) rfl ⟨rfl, hfin⟩

end Go.Proofs.Ytpkadofgmhninaa
