/- A plan laid out of bytes. -/
import Derived.Test.YtpkadofgmhninaaCopied
namespace Go.Proofs.Ytpkadofgmhninaa
open Go.RowKit

def layUp (bs : List Nat) (i k : Nat) : List Nat := (List.range k).filter fun c => bs.getD c 0 % 6 == i
theorem layUp_succ (bs : List Nat) (i k : Nat) : layUp bs i (k + 1) = layUp bs i k ++ (if bs.getD k 0 % 6 = i then [k] else []) := by
  unfold layUp
  rw [List.range_succ, List.filter_append, List.filter_cons]
  by_cases h : bs.getD k 0 % 6 = i <;> simp
theorem layUp_len (bs : List Nat) (i k : Nat) : (layUp bs i k).length ≤ k := by
  have := List.length_filter_le (fun c => bs.getD c 0 % 6 == i) (List.range k)
  rw [List.length_range] at this; exact this
def laysUp (bs : List Nat) (m k : Nat) : Rounds := ((List.range k).map fun i => layUp bs i m).filter fun r => !r.isEmpty
theorem laysUp_succ (bs : List Nat) (m k : Nat) : laysUp bs m (k + 1) = laysUp bs m k ++ (if (layUp bs k m).isEmpty then [] else [layUp bs k m]) := by
  unfold laysUp
  rw [List.range_succ, List.map_append, List.filter_append, List.map_cons, List.map_nil, List.filter_cons]
  cases (layUp bs k m).isEmpty <;> simp
theorem laysUp_len (bs : List Nat) (m k : Nat) : (laysUp bs m k).length ≤ k := by
  have := List.length_filter_le (fun r : List Nat => !r.isEmpty) ((List.range k).map fun i => layUp bs i m)
  rw [List.length_map, List.length_range] at this; exact this
/-- A row of bytes. -/
def Byts (W : World) (v : Value) (bs : List Nat) : Prop := ∃ a c, v = .slice a bs.length c ∧ bs.length ≤ c ∧ c ≤ maxLen ∧ (∀ j, j < bs.length → ∃ b off, a = some ⟨b, off, none⟩ ∧ W.cell? ⟨b, off + j, none⟩ = some (.int .u8 (bs.getD j 0 : Nat))) ∧ ∀ j, bs.getD j 0 < 256

theorem own_sln {A : World} {base : Nat} {e : TypeId} {size n : Nat} {v : Value} {xs : List Value} (h : A.ownsRow base e size v n xs) : ∃ a c, v = .slice a n c := by
  obtain ⟨h0, ⟨rfl, rfl⟩ | ⟨g, cap, cur, rfl, hg, hh, h2⟩⟩ := h
  · exact ⟨_, _, rfl⟩
  · exact ⟨_, _, rfl⟩
theorem ownsRow_colN {base : Nat} {W : World} {v : Value} {l : List Nat} (h : W.ownsRow base 3 1 v l.length (valsOf l)) (hl : l ≠ []) : ColN W v l := by
  refine ⟨own_cols h, ?_⟩
  obtain ⟨-, ⟨-, h0⟩ | ⟨g, cap, cur, rfl, hg, hh, -⟩⟩ := h
  · exact absurd (List.length_eq_zero_iff.1 h0) hl
  · exact ⟨g, _, cap, rfl, cur, _, hh⟩

set_option maxHeartbeats 3200000 in
set_option maxRecDepth 100000 in
theorem laid_any (n : Nat) (v : Value) (bs : List Nat) (w : World) (h : Byts w v bs) (hn : n ≤ 1000) :
    Calls Try.prog 9 #[.int .i64 (n : Int), v] w fun e w' => ∃ r, e = .returned r ∧ RndN w.heap.size w' r (laysUp bs (min n bs.length) 5) ∧ Bel w w' := by
  obtain ⟨i0, hi, hz0, hz1, hz2⟩ := info_parts Try.info3
  obtain ⟨i1, hj, hy0, hy1, hy2⟩ := info_parts Try.info32
  obtain ⟨a, c, rfl, h1, h2, h3, h4⟩ := h
  unfold maxLen at h2
  have H3 := Lib.hid h3
  have H4 := Lib.hid h4
  clear h3 h4
  generalize hm : min n bs.length = m
  have hmn : m ≤ n ∧ m ≤ bs.length ∧ (m < n → m = bs.length) := by omega
  have HM := Lib.hid hmn
  clear hm
  go_enter Try.func9, Try.ntmps9
  go_wp2_with fail
  go_loopw [5, 6] (fun r i wr => ∃ (k : Nat) (vs : List Value), k ≤ 5 ∧ i = .int .i64 k ∧ vs.length = (laysUp bs m k).length ∧ wr.ownsRow w.heap.size 32 1 r (laysUp bs m k).length vs ∧ (∀ j, j < (laysUp bs m k).length → ColN wr (vs.getD j undef) ((laysUp bs m k).getD j [])) ∧ Bel w wr) (fun _ i _ => 5 - (intOf i).toNat)
  case atStart =>
    refine ⟨0, [], Nat.zero_le _, rfl, rfl, World.ownsRow_made (base := w.heap.size) (e := 32) (size := 1) w #[] 0 (Nat.le_refl _) (Nat.zero_le _) rfl, fun j hj => absurd hj (Nat.not_lt_zero _), (Bel.refl w).alloc _⟩
  case round =>
    obtain ⟨k, vs, hk, rfl, hvl, ho, hvs, hb⟩ := hrel
    by_cases hlt : k < 5
    · have hk5 : decide ((k : Int) < 5) = true := by simp; omega
      have HO := Lib.hid ho
      have HB := Lib.hid hb
      have HVS := Lib.hid hvs
      have HLL := Lib.hid (laysUp_len bs m k)
      have HLS := Lib.hid (laysUp_succ bs m k)
      clear ho hb hvs
      generalize laysUp bs m k = L at *
      have HVL := Lib.hid hvl
      clear hvl
      go_wp2_with fail
      go_loopw [7, 8] (fun r i w2 => ∃ q : Nat, q ≤ m ∧ i = .int .i64 q ∧ w2.ownsRow wr.heap.size 3 1 r (layUp bs k q).length (valsOf (layUp bs k q)) ∧ Bel wr w2) (fun _ i _ => m - (intOf i).toNat)
      case atStart =>
        exact ⟨0, Nat.zero_le _, rfl, World.ownsRow_made (base := wr.heap.size) (e := 3) (size := 1) wr #[] 0 (Nat.le_refl _) (Nat.zero_le _) rfl, (Bel.refl wr).alloc _⟩
      case round =>
        obtain ⟨q, hq, rfl, ho2, hb2⟩ := hrel
        have HO2 := Lib.hid ho2
        have HB2 := Lib.hid hb2
        clear ho2 hb2
        have HQS := Lib.hid (layUp_succ bs k q)
        have hql := layUp_len bs k q
        generalize hRg : layUp bs k q = R at *
        have HRG := Lib.hid hRg
        clear hRg
        by_cases hqm : q < m
        · obtain ⟨M1, M2, -⟩ := HM.out
          have hqn : decide ((q : Int) < (n : Int)) = true := by simp; omega
          have hqb : decide ((q : Int) < (bs.length : Int)) = true := by simp; omega
          obtain ⟨b, off, rfl, hcell⟩ := H3.out q (by omega)
          have hb255 := H4.out q
          replace hcell := (HB.out.trans HB2.out).cell hcell
          generalize bs.getD q 0 = x at hcell hb255 HQS
          have hr6 : (x : Int).tmod 6 = ((x % 6 : Nat) : Int) := rfl
          have hw6 : IntKind.i64.wrap ((x % 6 : Nat) : Int) = ((x % 6 : Nat) : Int) := by rw [IntKind.wrap_i64]; omega
          have hwx : IntKind.i64.wrap (x : Int) = (x : Int) := by rw [IntKind.wrap_i64]; omega
          by_cases hxk : x % 6 = k
          · have hdk : decide (((x % 6 : Nat) : Int) = (k : Int)) = true := by simp; omega
            have hm1 : R.length + 1 ≤ maxLen := by unfold maxLen; omega
            have hm2 : (R.length + 1) * 8 ≤ 140737488355328 := by omega
            clear M1 M2
            have hm3 := Nat.le_trans HB2.out.size ((Bel.refl wr).alloc (.cells #[.int .i64 (q : Int)] 3)).size
            go_wp2_with (at_builtin; refine wpList_append_own _ rfl _ _ 32 rfl _ 3 i0 (.int .i64 0) 1 8 Try.underlying32 hi hz0 hz1 hz2 rfl (by decide) _ _ _ rfl ((ownsRow_bel HO2.out ((Bel.refl _).alloc _))) ⟨wr.heap.size, 0, none⟩ 1 1 [.int .i64 (q : Int)] rfl rfl (one_new _ _ _) (by simp [Value.oneCell']) hm1 hm2 hm3 ?_; intro v' w3 hown2 hgrow _; have HO3 := Lib.hid hown2; have HB3 := Lib.hid ((HB2.out.alloc (.cells #[.int .i64 (q : Int)] 3)).grown hgrow (fun k hk => (HO2.out.lt k hk).1)); clear hown2 hgrow)
            go_roundw
            case rel =>
              refine ⟨q + 1, by omega, by go_num, ?_, HB3.out⟩
              rw [HQS.out]
              have h := HO3.out
              simpa [valsOf, hxk] using h
            case measure => simp [intOf]; omega
          · have hdk : decide (((x % 6 : Nat) : Int) = (k : Int)) = false := by simp; omega
            clear M1 M2
            go_wp2_with fail
            go_roundw
            case rel =>
              refine ⟨q + 1, by omega, by go_num, ?_, HB2.out⟩
              rw [HQS.out]
              have h := HO2.out
              simpa [hxk] using h
            case measure => simp [intOf]; omega
        · have hge : q = m := by omega
          subst hge
          obtain ⟨M1, M2, M3⟩ := HM.out
          have hcut : (decide ((q : Int) < (n : Int)) && decide ((q : Int) < (bs.length : Int))) = false := by
            by_cases e : q < n
            · have := M3 e; simp; omega
            · simp; omega
          clear M1 M2 M3 hqm
          have HCUT := Lib.hid hcut
          clear hcut
          obtain ⟨ra, rc, rfl⟩ := own_sln HO2.out
          by_cases e : q < n
          · have hA : decide ((q : Int) < (n : Int)) = true := by simp; omega
            have hB : decide ((q : Int) < (bs.length : Int)) = false := by have h := HCUT.out; rw [hA] at h; simpa using h
            have hll := HLL.out
            have hm1 : L.length + 1 ≤ maxLen := by unfold maxLen; omega
            have hm2 : (L.length + 1) * 24 ≤ 140737488355328 := by omega
            by_cases hR : R = []
            · subst hR
              have hg0 : decide (((([] : List Nat).length : Nat) : Int) > 0) = false := by simp
              go_wp2_with fail
              go_roundw
              case rel =>
                have e : laysUp bs q (k + 1) = L := by rw [HLS.out, HRG.out]; simp
                refine ⟨k + 1, vs, by omega, by go_num, ?_, ?_, ?_, HB.out.trans HB2.out⟩ <;> rw [e]
                · exact HVL.out
                · exact ownsRow_bel HO.out HB2.out
                · exact fun j hj => (HVS.out j hj).bel HB2.out
              case measure => simp [intOf]; omega
            · have hpos : 0 < R.length := List.length_pos_iff.2 hR
              have hg0 : decide ((0 : Int) < ((R.length : Nat) : Int)) = true := by simp; omega
              have HC := Lib.hid (ownsRow_colN HO2.out hR)
              have hm3 := Nat.le_trans (HB.out.trans HB2.out).size ((Bel.refl wr).alloc (.cells #[.slice ra R.length rc] 32)).size
              go_wp2_with (at_builtin; refine wpList_append_own _ rfl _ _ 35 rfl _ 32 i1 (.slice none 0 0) 1 24 Try.underlying35 hj hy0 hy1 hy2 rfl (by decide) _ _ _ rfl (ownsRow_bel HO.out (HB2.out.trans ((Bel.refl _).alloc _))) ⟨wr.heap.size, 0, none⟩ 1 1 [.slice ra R.length rc] rfl rfl (one_new wr _ 32) (by simp [Value.oneCell']) hm1 hm2 hm3 ?_; intro v' w3 hown2 hgrow _; have HO3 := Lib.hid hown2; have HGR := Lib.hid hgrow; clear hown2 hgrow)
              go_roundw
              case rel =>
                have e : laysUp bs q (k + 1) = L ++ [R] := by rw [HLS.out, HRG.out]; cases R with
                  | nil => exact absurd rfl hR
                  | cons y t => simp
                have ho' := ownsRow_bel HO.out (HB2.out.trans ((Bel.refl _).alloc (.cells #[.slice ra R.length rc] 32)))
                refine ⟨k + 1, vs ++ [.slice ra R.length rc], by omega, by go_num, ?_, ?_, ?_, ((HB.out.trans HB2.out).alloc _).grown HGR.out (fun y hy => (ho'.lt y hy).1)⟩ <;> rw [e]
                · simp [HVL.out]
                · rw [List.length_append, List.length_singleton]; exact HO3.out
                · intro j hj
                  have hvl := HVL.out
                  by_cases hjk : j < L.length
                  · rw [show (vs ++ [Value.slice ra R.length rc]).getD j undef = vs.getD j undef by simp [List.getD, List.getElem?_append, hvl, hjk], show (L ++ [R]).getD j [] = L.getD j [] by simp [List.getD, List.getElem?_append, hjk]]
                    exact (((HVS.out j hjk).bel HB2.out).bel ((Bel.refl _).alloc _)).grown ho' HGR.out
                  · rw [List.length_append, List.length_singleton] at hj
                    obtain rfl : j = L.length := by omega
                    rw [show (vs ++ [Value.slice ra R.length rc]).getD L.length undef = .slice ra R.length rc by simp [List.getD, ← hvl], show (L ++ [R]).getD L.length [] = R by simp [List.getD]]
                    exact (HC.out.bel ((Bel.refl _).alloc _)).grown ho' HGR.out
              case measure => simp [intOf]; omega
          · have hA : decide ((q : Int) < (n : Int)) = false := by simp; omega
            have hll := HLL.out
            have hm1 : L.length + 1 ≤ maxLen := by unfold maxLen; omega
            have hm2 : (L.length + 1) * 24 ≤ 140737488355328 := by omega
            by_cases hR : R = []
            · subst hR
              have hg0 : decide (((([] : List Nat).length : Nat) : Int) > 0) = false := by simp
              go_wp2_with fail
              go_roundw
              case rel =>
                have e : laysUp bs q (k + 1) = L := by rw [HLS.out, HRG.out]; simp
                refine ⟨k + 1, vs, by omega, by go_num, ?_, ?_, ?_, HB.out.trans HB2.out⟩ <;> rw [e]
                · exact HVL.out
                · exact ownsRow_bel HO.out HB2.out
                · exact fun j hj => (HVS.out j hj).bel HB2.out
              case measure => simp [intOf]; omega
            · have hpos : 0 < R.length := List.length_pos_iff.2 hR
              have hg0 : decide ((0 : Int) < ((R.length : Nat) : Int)) = true := by simp; omega
              have HC := Lib.hid (ownsRow_colN HO2.out hR)
              have hm3 := Nat.le_trans (HB.out.trans HB2.out).size ((Bel.refl wr).alloc (.cells #[.slice ra R.length rc] 32)).size
              go_wp2_with (at_builtin; refine wpList_append_own _ rfl _ _ 35 rfl _ 32 i1 (.slice none 0 0) 1 24 Try.underlying35 hj hy0 hy1 hy2 rfl (by decide) _ _ _ rfl (ownsRow_bel HO.out (HB2.out.trans ((Bel.refl _).alloc _))) ⟨wr.heap.size, 0, none⟩ 1 1 [.slice ra R.length rc] rfl rfl (one_new wr _ 32) (by simp [Value.oneCell']) hm1 hm2 hm3 ?_; intro v' w3 hown2 hgrow _; have HO3 := Lib.hid hown2; have HGR := Lib.hid hgrow; clear hown2 hgrow)
              go_roundw
              case rel =>
                have e : laysUp bs q (k + 1) = L ++ [R] := by rw [HLS.out, HRG.out]; cases R with
                  | nil => exact absurd rfl hR
                  | cons y t => simp
                have ho' := ownsRow_bel HO.out (HB2.out.trans ((Bel.refl _).alloc (.cells #[.slice ra R.length rc] 32)))
                refine ⟨k + 1, vs ++ [.slice ra R.length rc], by omega, by go_num, ?_, ?_, ?_, ((HB.out.trans HB2.out).alloc _).grown HGR.out (fun y hy => (ho'.lt y hy).1)⟩ <;> rw [e]
                · simp [HVL.out]
                · rw [List.length_append, List.length_singleton]; exact HO3.out
                · intro j hj
                  have hvl := HVL.out
                  by_cases hjk : j < L.length
                  · rw [show (vs ++ [Value.slice ra R.length rc]).getD j undef = vs.getD j undef by simp [List.getD, List.getElem?_append, hvl, hjk], show (L ++ [R]).getD j [] = L.getD j [] by simp [List.getD, List.getElem?_append, hjk]]
                    exact (((HVS.out j hjk).bel HB2.out).bel ((Bel.refl _).alloc _)).grown ho' HGR.out
                  · rw [List.length_append, List.length_singleton] at hj
                    obtain rfl : j = L.length := by omega
                    rw [show (vs ++ [Value.slice ra R.length rc]).getD L.length undef = .slice ra R.length rc by simp [List.getD, ← hvl], show (L ++ [R]).getD L.length [] = R by simp [List.getD]]
                    exact (HC.out.bel ((Bel.refl _).alloc _)).grown ho' HGR.out
              case measure => simp [intOf]; omega
    · obtain rfl : k = 5 := by omega
      have HO := Lib.hid ho
      have HB := Lib.hid hb
      have HVS := Lib.hid hvs
      have HVL := Lib.hid hvl
      clear ho hb hvs hlt hvl
      go_wp2
      go_ret
      exact ⟨_, rfl, ⟨vs, HVL.out, HO.out, HVS.out⟩, HB.out⟩

end Go.Proofs.Ytpkadofgmhninaa
