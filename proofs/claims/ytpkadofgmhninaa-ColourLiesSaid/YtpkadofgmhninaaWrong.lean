/- Wrong: where all is valid. -/
import Derived.Test.YtpkadofgmhninaaCalls
namespace Go.Proofs.Ytpkadofgmhninaa
open Go.RowKit
attribute [local go_sem] Oper.semAt_some

def WrongV (n : Nat) (s : CSet) (ps : List Rounds) (v : Value) (er : Int) (W : World) : Prop :=
  if s.canDrop ps [] then v = .slice none 0 0 ∧ er = 6 else FewV n (CSet.fewest (s.canDrop ps) (List.range ps.length)) v W ∧ er = 0
theorem range_snocN (k : Nat) : List.range (k + 1) = List.range k ++ [k] := List.range_succ

set_option maxRecDepth 100000 in
set_option maxHeartbeats 8000000 in
theorem wrong_any (s : CSet) (hs : s.Ok) (v lv : Value) (ps : List Rounds) (w : World) (hv : SetV w v s) (hl : Plns w lv ps) (hp : ∀ p, p ∈ ps → PlanOk s.paints.length p ∧ ∀ r, r ∈ p → Asc s.paints.length r) (h3 : ps.length ≤ 3) :
    Calls Try.prog 28 #[v, lv] w fun e w' => ∃ r er, e = .returned (.tuple #[r, .int .i64 er]) ∧ WrongV w.heap.size s ps r er w' ∧ Bel w w' := by
  obtain ⟨i0, hi, hz0, hz1, hz2⟩ := info_parts Try.info3
  have k1 := fun W (hW : Bel w W) => checkTrials_yes s hs v lv ps W (hv.bel hW) (hl.bel hW) hp h3
  obtain ⟨pv, ev, rfl, h1, h2⟩ := hv
  have k2 := fun W (hW : Bel w W) dv d (hd : Cols W dv d) => tcan_any s hs pv ev lv dv ps d W (h1.bel hW) (h2.bel hW) (hl.bel hW) hd (fun p hpm => (hp p hpm).1) (by omega)
  have k3 := fun W0 (hW0 : Bel w W0) nv (hn : Cols W0 nv (List.range ps.length)) => fewest_any 50 #[.agg #[pv, .int .i64 s.near, .int .i64 s.give, ev, lv]] #[] (enters_of Try.func50 (by kernel_rfl) rfl) nv (List.range ps.length) (s.canDrop ps) W0 hn (by simp; omega)
    (fun W v x hb hx hne hsub => k2 W (hW0.trans hb) v x hx)
  have c4 := C4.new w pv (.int .i64 s.near) (.int .i64 s.give) ev 31
  have K1 := Lib.hid k1
  have K2 := Lib.hid k2
  have K3 := Lib.hid k3
  have C := Lib.hid c4
  obtain ⟨pa, pc, rfl, -, -, -, -⟩ := h1
  obtain ⟨ea, ec, rfl, -, -, -, -⟩ := h2
  obtain ⟨la, lc, lx, rfl, -, hlc, -, -⟩ := hl
  obtain ⟨c0, c1, c2, c3⟩ := c4
  unfold maxLen at hlc
  clear hs k1 k2 k3 hp
  refine (callsIn_wide (n := 0)).1 (callsIn_of_wp Try.func28 rfl trivial ?_ rfl)
  simp only [Try.ntmps28, List.size_toArray, List.length_cons, List.length_nil, Nat.reduceAdd, Nat.reduceSub, Array.replicate_succ, Array.replicate_zero, List.push_toArray, List.append_toArray, List.nil_append, List.cons_append]
  gi_wp2_with fail
  refine ⟨trivial, rfl, (callsW (K1.out _ ((Bel.refl w).alloc _))).mono ?_⟩
  rintro e w1 ⟨rfl, hb⟩
  have HC := Lib.hid (C.out.bel hb)
  have HB := Lib.hid (((Bel.refl w).alloc _).trans hb)
  clear c0 c1 c2 c3 hb
  obtain ⟨c0, c1, c2, c3⟩ := HC.out
  have HF5 := Lib.hid (C5.new w1 (.slice pa s.paints.length pc) (.int .i64 s.near) (.int .i64 s.give) (.slice ea s.eats.length ec) (.slice la ps.length lc) 92)
  obtain ⟨d0, d1, d2, d3, d4⟩ := HF5.out
  have HBA := Lib.hid (HB.out.alloc (.cells #[.slice pa s.paints.length pc, .int .i64 s.near, .int .i64 s.give, .slice ea s.eats.length ec, .slice la ps.length lc] 92))
  gi_wp2_with fail
  refine ⟨trivial, rfl, (callsW (K2.out _ HBA.out _ [] (cols_nil _))).mono ?_⟩
  rintro e w2 ⟨rfl, hb⟩
  have HB2 := Lib.hid (HBA.out.trans hb)
  have HF6 := Lib.hid (HF5.out.bel hb)
  clear hb c0 c1 c2 c3 d0 d1 d2 d3 d4
  cases hcan : s.canDrop ps [] with
  | true =>
    have HCAN := Lib.hid hcan
    clear hcan
    gi_wp2_with fail
    go_ret2
    exact ⟨_, _, rfl, by unfold WrongV; rw [HCAN.out]; exact ⟨rfl, rfl⟩, HB2.out⟩
  | false =>
    have HCAN := Lib.hid hcan
    clear hcan
    gi_wp2_with fail
    gi_loopw [8, 23] (fun r i wr => ∃ k : Nat, k ≤ ps.length ∧ i = .int .i64 k ∧ wr.ownsRow w2.heap.size 3 1 r k (valsOf (List.range k)) ∧ Bel w2 wr) (fun _ i _ => ps.length - (intOf i).toNat)
    case atStart => exact ⟨0, Nat.zero_le _, rfl, ⟨rfl, .inl ⟨rfl, rfl⟩⟩, Bel.refl _⟩
    case round =>
      obtain ⟨k, hk, rfl, ho, hb⟩ := hrel
      have HO := Lib.hid ho
      have HBX := Lib.hid hb
      have hsz := hb.size
      clear ho hb
      by_cases hlt : k < ps.length
      · have HS := Lib.hid (show valsOf (List.range (k + 1)) = valsOf (List.range k) ++ [.int .i64 (k : Int)] by unfold valsOf; rw [range_snocN, List.map_append]; rfl)
        have hm1 : k + 1 ≤ maxLen := by unfold maxLen; omega
        have hm2 : (k + 1) * 8 ≤ 140737488355328 := by omega
        have hm3 : w2.heap.size ≤ (wr.alloc (.cells #[.int .i64 (k : Int)] 3)).heap.size := by simp; omega
        generalize valsOf (List.range k) = R at *
        gi_wp2_with (gi_at_builtin; refine wpListIn_append_own _ rfl _ _ 32 rfl w2.heap.size 3 i0 (.int .i64 0) 1 8 Try.underlying32 hi hz0 hz1 hz2 rfl (by decide) _ _ _ rfl (HO.out.alloc _) ⟨wr.heap.size, 0, none⟩ 1 1 [.int .i64 (k : Int)] rfl rfl (one_new _ _ _) (by simp [Value.oneCell']) hm1 hm2 hm3 ?_; intro v' w3 hown2 hgrow _; have HO2 := Lib.hid hown2; have HB3 := Lib.hid ((HBX.out.alloc _).grown hgrow (fun k hk => (HO.out.lt k hk).1)); clear hown2 hgrow)
        go_roundw
        case rel => exact ⟨k + 1, by omega, by go_num, by rw [HS.out]; exact HO2.out, HB3.out⟩
        case measure => simp [intOf]; omega
      · obtain rfl : k = ps.length := by omega
        have hcn := own_cols (base := w2.heap.size) (l := List.range ps.length) (by rw [List.length_range]; exact HO.out)
        have HCN := Lib.hid hcn
        obtain ⟨na, nc, rfl, -, -, -, -⟩ := hcn
        simp only [List.length_map, List.length_range] at HCN HO
        obtain ⟨d0, d1, d2, d3, d4⟩ := HF6.out.bel HBX.out
        clear hlt
        gi_wp2_with fail
        refine ⟨trivial, rfl, (callsW (K3.out wr (HB2.out.trans HBX.out) _ HCN.out)).mono ?_⟩
        rintro e w3 ⟨r, rfl, hf, hb⟩
        have HB3 := Lib.hid ((HB2.out.trans HBX.out).trans hb)
        have HFW := Lib.hid (hf.mono (m := w.heap.size) (HB2.out.trans HBX.out).size)
        clear hb hf d0 d1 d2 d3 d4
        gi_wp2_with fail
        go_ret2
        exact ⟨_, _, rfl, by unfold WrongV; rw [HCAN.out]; exact ⟨HFW.out, rfl⟩, HB3.out⟩

end Go.Proofs.Ytpkadofgmhninaa
