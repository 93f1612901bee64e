/- A plan without one colour. Whether a plan speaks of the set's colours alone. -/
import Derived.Test.YtpkadofgmhninaaLaid
import Derived.Test.YtpkadofgmhninaaFirings
namespace Go.Proofs.Ytpkadofgmhninaa
open Go.RowKit

def offC (l : List Nat) (c q : Nat) : List Nat := (l.take q).filter fun x => x != c
theorem offC_succ (l : List Nat) (c q : Nat) (hq : q < l.length) : offC l c (q + 1) = offC l c q ++ (if l.getD q 0 = c then [] else [l.getD q 0]) := by
  unfold offC
  rw [take_snocN l q hq, List.filter_append, List.filter_cons]
  by_cases h : l.getD q 0 = c <;> simp
theorem offC_len (l : List Nat) (c q : Nat) : (offC l c q).length ≤ q := Nat.le_trans (List.length_filter_le _ _) (by rw [List.length_take]; omega)
def offP (p : Rounds) (c k : Nat) : Rounds := ((p.take k).map fun r => offC r c r.length).filter fun r => !r.isEmpty
def offE (p : Rounds) (c k : Nat) : Bool := (p.take k).any fun r => (offC r c r.length).isEmpty
theorem offP_succ (p : Rounds) (c k : Nat) (hk : k < p.length) : offP p c (k + 1) = offP p c k ++ (if (offC (p.getD k []) c (p.getD k []).length).isEmpty then [] else [offC (p.getD k []) c (p.getD k []).length]) := by
  unfold offP
  rw [List.take_add_one, List.getElem?_eq_getElem hk, Option.toList_some, List.map_append, List.map_cons, List.map_nil, getD_lt _ _ _ hk, List.filter_append, List.filter_cons]
  cases (offC p[k] c p[k].length).isEmpty <;> simp
theorem offE_succ (p : Rounds) (c k : Nat) (hk : k < p.length) : offE p c (k + 1) = (offE p c k || (offC (p.getD k []) c (p.getD k []).length).isEmpty) := by
  unfold offE
  rw [List.take_add_one, List.getElem?_eq_getElem hk, Option.toList_some, List.any_append, getD_lt _ _ _ hk]
  simp
theorem offP_len (p : Rounds) (c k : Nat) : (offP p c k).length ≤ k := by
  have := List.length_filter_le (fun r : List Nat => !r.isEmpty) ((p.take k).map fun r => offC r c r.length)
  rw [List.length_map, List.length_take] at this
  exact Nat.le_trans this (by omega)
theorem ownsRow_colN' {base : Nat} {W : World} {v : Value} {l : List Nat} (h : W.ownsRow base 3 1 v l.length (valsOf l)) (hl : v ≠ .slice none 0 0) : ColN W v l := by
  refine ⟨own_cols h, ?_⟩
  obtain ⟨-, ⟨e, h0⟩ | ⟨g, cap, cur, rfl, hg, hh, -⟩⟩ := h
  · exact absurd e hl
  · exact ⟨g, _, cap, rfl, cur, _, hh⟩

set_option maxHeartbeats 3200000 in
set_option maxRecDepth 100000 in
theorem drop_any (x : Nat) (v : Value) (p : Rounds) (w : World) (h : Rnds w v p) (hlen : p.length ≤ 1000) (hr : ∀ r, r ∈ p → r.length ≤ 1000) :
    Calls Try.prog 20 #[v, .int .i64 (x : Int)] w fun e w' => ∃ r, e = .returned (.tuple #[r, .bool (offE p x p.length)]) ∧ RndN w.heap.size w' r (offP p x p.length) ∧ Bel w w' := by
  obtain ⟨i0, hi, hz0, hz1, hz2⟩ := info_parts Try.info3
  obtain ⟨i1, hj, hy0, hy1, hy2⟩ := info_parts Try.info32
  obtain ⟨a, c, rfl, h1, h2, hz, h3⟩ := h
  unfold maxLen at h2
  have H3 := Lib.hid h3
  have HRR := Lib.hid hr
  clear h3 hr
  go_enter Try.func20, Try.ntmps20
  go_wp2_with fail
  go_loopw [4, 5, 6] (fun r f i wr => ∃ (k : Nat) (vs : List Value), k ≤ p.length ∧ i = .int .i64 k ∧ f = .bool (offE p x k) ∧ vs.length = (offP p x k).length ∧ wr.ownsRow w.heap.size 32 1 r (offP p x k).length vs ∧ (∀ j, j < (offP p x k).length → ColN wr (vs.getD j undef) ((offP p x k).getD j [])) ∧ Bel w wr) (fun _ _ i _ => p.length - (intOf i).toNat)
  case atStart =>
    exact ⟨0, [], Nat.zero_le _, rfl, rfl, rfl, ⟨rfl, .inl ⟨rfl, rfl⟩⟩, fun j hj => absurd hj (Nat.not_lt_zero _), Bel.refl w⟩
  case round =>
    obtain ⟨k, vs, hk, rfl, rfl, hvl, ho, hvs, hb⟩ := hrel
    by_cases hlt : k < p.length
    · have hkp : decide ((k : Int) < (p.length : Int)) = true := by simp; omega
      obtain ⟨b, off, rv, rfl, hcell, hrv⟩ := H3.out k hlt
      have HCELL := Lib.hid (hb.cell hcell)
      have hlr := HRR.out (p.getD k []) (by rw [getD_lt _ _ _ hlt]; exact List.getElem_mem hlt)
      have HLS := Lib.hid (offP_succ p x k hlt)
      have HLL := Lib.hid (offP_len p x k)
      have HLE := Lib.hid (offE_succ p x k hlt)
      generalize p.getD k [] = l at hrv hlr HLS HLE
      obtain ⟨la, ln, lc, rfl⟩ : ∃ la ln lc, rv = .slice la ln lc := by
        obtain ⟨y, z, e, -⟩ := hrv; exact ⟨_, _, _, e⟩
      obtain rfl := hrv.drop
      have HRV := Lib.hid (Cols.bel hb hrv)
      have HO := Lib.hid ho
      have HB := Lib.hid hb
      have HVS := Lib.hid hvs
      have HVL := Lib.hid hvl
      clear ho hb hvs hvl hcell hrv
      generalize offP p x k = L at *
      generalize offE p x k = E at *
      go_wp2_with fail
      go_loopw [7, 8] (fun r i w2 => ∃ q : Nat, q ≤ l.length ∧ i = .int .i64 q ∧ w2.ownsRow wr.heap.size 3 1 r (offC l x q).length (valsOf (offC l x q)) ∧ r ≠ .slice none 0 0 ∧ Bel wr w2) (fun _ i _ => l.length - (intOf i).toNat)
      case atStart =>
        exact ⟨0, Nat.zero_le _, rfl, World.ownsRow_made (base := wr.heap.size) (e := 3) (size := 1) wr #[] 0 (Nat.le_refl _) (Nat.zero_le _) rfl, nofun, (Bel.refl wr).alloc _⟩
      case round =>
        obtain ⟨q, hq, rfl, ho2, hne, hb2⟩ := hrel
        have hcell := hb2.cell HCELL.out
        have HO2 := Lib.hid ho2
        have HB2 := Lib.hid hb2
        have HNE := Lib.hid hne
        clear ho2 hb2 hne
        have hql := offC_len l x q
        by_cases hqm : q < l.length
        · have HQS := Lib.hid (offC_succ l x q hqm)
          generalize hRg : offC l x q = R at *
          have HRG := Lib.hid hRg
          clear hRg
          have hqb : decide ((q : Int) < (l.length : Int)) = true := by simp; omega
          obtain ⟨lb, loff, rfl, lcell⟩ := (HRV.out.bel HB2.out).cellAt hqm
          generalize l.getD q 0 = y at lcell HQS
          by_cases hyx : y = x
          · subst hyx
            go_wp2_with fail
            go_roundw
            case rel =>
              refine ⟨q + 1, by omega, by go_num, ?_, HNE.out, HB2.out⟩
              rw [HQS.out]
              have h := HO2.out
              simpa using h
            case measure => simp [intOf]; omega
          · have hdn : (!decide ((y : Int) = (x : Int))) = true := by simp; omega
            have hdf : decide ((y : Int) = (x : Int)) = false := by simp; omega
            have hm1 : R.length + 1 ≤ maxLen := by unfold maxLen; omega
            have hm2 : (R.length + 1) * 8 ≤ 140737488355328 := by omega
            have hm3 := Nat.le_trans HB2.out.size ((Bel.refl wr).alloc (.cells #[.int .i64 (y : Int)] 3)).size
            go_wp2_with (at_builtin; refine wpList_append_own _ rfl _ _ 32 rfl _ 3 i0 (.int .i64 0) 1 8 Try.underlying32 hi hz0 hz1 hz2 rfl (by decide) _ _ _ rfl ((ownsRow_bel HO2.out ((Bel.refl _).alloc _))) ⟨wr.heap.size, 0, none⟩ 1 1 [.int .i64 (y : Int)] rfl rfl (one_new _ _ _) (by simp [Value.oneCell']) hm1 hm2 hm3 ?_; intro v' w3 hown2 hgrow hnil; have HNIL := Lib.hid hnil; have HO3 := Lib.hid hown2; have HB3 := Lib.hid ((HB2.out.alloc (.cells #[.int .i64 (y : Int)] 3)).grown hgrow (fun k hk => (HO2.out.lt k hk).1)); clear hown2 hgrow hnil)
            go_roundw
            case rel =>
              refine ⟨q + 1, by omega, by go_num, ?_, fun e => HNE.out (HNIL.out.1 e).1, HB3.out⟩
              rw [HQS.out]
              have h := HO3.out
              simpa [valsOf, hyx] using h
            case measure => simp [intOf]; omega
        · have hge : q = l.length := by omega
          subst hge
          have hqb : decide ((l.length : Int) < (l.length : Int)) = false := by simp
          have hll := HLL.out
          generalize offC l x l.length = R at *
          obtain ⟨ra, rc, rfl⟩ := own_sln HO2.out
          have hm1 : L.length + 1 ≤ maxLen := by unfold maxLen; omega
          have hm2 : (L.length + 1) * 24 ≤ 140737488355328 := by omega
          have HC := Lib.hid (ownsRow_colN' HO2.out HNE.out)
          have hm3 := Nat.le_trans (HB.out.trans HB2.out).size ((Bel.refl wr).alloc (.cells #[.slice ra R.length rc] 32)).size
          by_cases hR : R = []
          · subst hR
            go_wp2_with fail
            go_roundw
            case rel =>
              have e : offP p x (k + 1) = L := by rw [HLS.out]; simp
              have e2 : offE p x (k + 1) = true := by rw [HLE.out]; simp
              refine ⟨k + 1, vs, by omega, by go_num, by rw [e2], ?_, ?_, ?_, HB.out.trans HB2.out⟩ <;> rw [e]
              · exact HVL.out
              · exact ownsRow_bel HO.out HB2.out
              · exact fun j hj => (HVS.out j hj).bel HB2.out
            case measure => simp [intOf]; omega
          · have hpos : 0 < R.length := List.length_pos_iff.2 hR
            have hg0 : decide (((R.length : Nat) : Int) = 0) = false := by simp [hR]
            go_wp2_with (at_builtin; refine wpList_append_own _ rfl _ _ 35 rfl _ 32 i1 (.slice none 0 0) 1 24 Try.underlying35 hj hy0 hy1 hy2 rfl (by decide) _ _ _ rfl (ownsRow_bel HO.out (HB2.out.trans ((Bel.refl _).alloc _))) ⟨wr.heap.size, 0, none⟩ 1 1 [.slice ra R.length rc] rfl rfl (one_new wr _ 32) (by simp [Value.oneCell']) hm1 hm2 hm3 ?_; intro v' w3 hown2 hgrow _; have HO3 := Lib.hid hown2; have HGR := Lib.hid hgrow; clear hown2 hgrow)
            go_roundw
            case rel =>
              have hRe : R.isEmpty = false := by cases R with
                | nil => exact absurd rfl hR
                | cons y t => rfl
              have e : offP p x (k + 1) = L ++ [R] := by rw [HLS.out, hRe]; simp
              have e2 : offE p x (k + 1) = E := by rw [HLE.out, hRe]; simp
              have ho' := ownsRow_bel HO.out (HB2.out.trans ((Bel.refl _).alloc (.cells #[.slice ra R.length rc] 32)))
              refine ⟨k + 1, vs ++ [.slice ra R.length rc], by omega, by go_num, by rw [e2], ?_, ?_, ?_, ((HB.out.trans HB2.out).alloc _).grown HGR.out (fun y hy => (ho'.lt y hy).1)⟩ <;> rw [e]
              · simp [HVL.out]
              · rw [List.length_append, List.length_singleton]; exact HO3.out
              · intro j hj
                have hvl := HVL.out
                by_cases hjk : j < L.length
                · rw [show (vs ++ [Value.slice ra R.length rc]).getD j undef = vs.getD j undef by simp [List.getD, List.getElem?_append, hvl, hjk], show (L ++ [R]).getD j [] = L.getD j [] by simp [List.getD, List.getElem?_append, hjk]]
                  exact (((HVS.out j hjk).bel HB2.out).bel ((Bel.refl _).alloc _)).grown ho' HGR.out
                · rw [List.length_append, List.length_singleton] at hj
                  obtain rfl : j = L.length := by omega
                  rw [show (vs ++ [Value.slice ra R.length rc]).getD L.length undef = .slice ra R.length rc by simp [List.getD, ← hvl], show (L ++ [R]).getD L.length [] = R by simp [List.getD]]
                  exact (HC.out.bel ((Bel.refl _).alloc _)).grown ho' HGR.out
            case measure => simp [intOf]; omega
    · obtain rfl : k = p.length := by omega
      have HO := Lib.hid ho
      have HB := Lib.hid hb
      have HVS := Lib.hid hvs
      have HVL := Lib.hid hvl
      clear ho hb hvs hlt hvl
      go_wp2
      exact bodyPost_ret (v := .tuple #[_, .bool (offE p x p.length)]) (by simp [results, Try.results20, go_sem]) rfl ⟨_, rfl, ⟨vs, HVL.out, HO.out, HVS.out⟩, HB.out⟩

end Go.Proofs.Ytpkadofgmhninaa
namespace Go.Proofs.Ytpkadofgmhninaa
open Go.RowKit

def sane (n : Nat) (p : Rounds) : Bool := p.all fun r => r.all fun c => decide (c < n)

set_option maxHeartbeats 3200000 in
set_option maxRecDepth 100000 in
theorem sane_any (n : Nat) (pa : Option Addr) (pc : Nat) (ev v : Value) (near give : Int) (p : Rounds) (w : World) (h : Rnds w v p) (_hlen : p.length ≤ 1000) (hr : ∀ r, r ∈ p → r.length ≤ 1000) :
    Calls Try.prog 21 #[.agg #[.slice pa n pc, .int .i64 near, .int .i64 give, ev], v] w fun e w' => e = .returned (.bool (sane n p)) ∧ Bel w w' := by
  obtain ⟨a, c, rfl, h1, h2, hz, h3⟩ := h
  unfold maxLen at h2
  have H3 := Lib.hid h3
  have HRR := Lib.hid hr
  clear h3 hr
  have c0 : (w.alloc (.cells #[.slice pa n pc, .int .i64 near, .int .i64 give, ev] 31)).cell? ⟨w.heap.size, 0, none⟩ = some (.slice pa n pc) := by
    have h := World.alloc_heap_new w (.cells #[.slice pa n pc, .int .i64 near, .int .i64 give, ev] 31)
    simp only [World.cell?, h]; rfl
  have hb0 : Bel w (w.alloc (.cells #[.slice pa n pc, .int .i64 near, .int .i64 give, ev] 31)) := (Bel.refl w).alloc _
  go_enter Try.func21, Try.ntmps21
  go_wp2_with fail
  generalize hW0 : w.alloc (.cells #[.slice pa n pc, .int .i64 near, .int .i64 give, ev] 31) = W0 at *
  clear hW0
  have C0 := Lib.hid c0
  have HB0 := Lib.hid hb0
  clear c0 hb0
  go_loopw [5] (fun i wr => ∃ k : Nat, k ≤ p.length ∧ i = .int .i64 k ∧ sane n (p.take k) = true ∧ Bel W0 wr) (fun i _ => p.length - (intOf i).toNat)
  case atStart => exact ⟨0, Nat.zero_le _, rfl, rfl, Bel.refl _⟩
  case round =>
    obtain ⟨k, hk, rfl, hs, hb⟩ := hrel
    by_cases hlt : k < p.length
    · have hkp : decide ((k : Int) < (p.length : Int)) = true := by simp; omega
      obtain ⟨b, off, rv, rfl, hcell, hrv⟩ := H3.out k hlt
      have HCELL := Lib.hid (HB0.out.cell hcell)
      have hlr := HRR.out (p.getD k []) (by rw [getD_lt _ _ _ hlt]; exact List.getElem_mem hlt)
      have HTK := Lib.hid (show p.take (k + 1) = p.take k ++ [p.getD k []] by rw [List.take_add_one, List.getElem?_eq_getElem hlt, getD_lt _ _ _ hlt]; rfl)
      have HALL := Lib.hid (show p.getD k [] ∈ p by rw [getD_lt _ _ _ hlt]; exact List.getElem_mem hlt)
      generalize p.getD k [] = l at hrv hlr HTK HALL
      obtain ⟨la, ln, lc, rfl⟩ : ∃ la ln lc, rv = .slice la ln lc := by
        obtain ⟨y, z, e, -⟩ := hrv; exact ⟨_, _, _, e⟩
      obtain rfl := hrv.drop
      have HRV := Lib.hid (Cols.bel HB0.out hrv)
      have HB := Lib.hid hb
      have HS := Lib.hid hs
      clear hb hcell hrv hs
      go_wp2_with fail
      go_loopw [6] (fun i w2 => ∃ q : Nat, q ≤ l.length ∧ i = .int .i64 q ∧ (l.take q).all (fun c => decide (c < n)) = true ∧ Bel W0 w2) (fun i _ => l.length - (intOf i).toNat)
      case atStart => exact ⟨0, Nat.zero_le _, rfl, rfl, HB.out⟩
      case round =>
        obtain ⟨q, hq, rfl, hs2, hb2⟩ := hrel
        have hcell := hb2.cell HCELL.out
        have hc0 := hb2.cell C0.out
        have HB2 := Lib.hid hb2
        have HS2 := Lib.hid hs2
        clear hb2 hs2
        by_cases hqm : q < l.length
        · have hqb : decide ((q : Int) < (l.length : Int)) = true := by simp; omega
          have HTQ := Lib.hid (take_snocN l q hqm)
          have HM := Lib.hid (show l.getD q 0 ∈ l by rw [getD_lt _ _ _ hqm]; exact List.getElem_mem hqm)
          obtain ⟨lb, loff, rfl, lcell⟩ := (HRV.out.bel HB2.out).cellAt hqm
          generalize l.getD q 0 = y at lcell HTQ HM
          have hy0 : decide ((y : Int) < 0) = false := by simp
          by_cases hyn : y < n
          · have hyg : decide ((y : Int) ≥ (n : Int)) = false := by simp; omega
            have hyg' : decide ((n : Int) ≤ (y : Int)) = false := by simp; omega
            go_wp2_with fail
            go_quiet (fail)
            go_wp2_with fail
            go_roundw
            case rel =>
              refine ⟨q + 1, by omega, by go_num, ?_, HB2.out.trans (bel_drewN _ _)⟩
              rw [HTQ.out, List.all_append, HS2.out]; simp [hyn]
            case measure => simp [intOf]; omega
          · have hyg : decide ((y : Int) ≥ (n : Int)) = true := by simp; omega
            have hyg' : decide ((n : Int) ≤ (y : Int)) = true := by simp; omega
            go_wp2_with fail
            go_quiet (fail)
            go_wp2_with fail
            go_ret
            refine ⟨ret_bool ?_, (HB0.out.trans HB2.out).trans (bel_drewN _ _)⟩
            symm
            rw [Bool.eq_false_iff]
            intro hall
            unfold sane at hall
            have h1 := List.all_eq_true.1 hall l HALL.out
            have h2 := List.all_eq_true.1 h1 y HM.out
            exact hyn (of_decide_eq_true h2)
        · have hge : q = l.length := by omega
          subst hge
          have hqb : decide ((l.length : Int) < (l.length : Int)) = false := by simp
          go_wp2_with fail
          go_roundw
          case rel =>
            refine ⟨k + 1, by omega, by go_num, ?_, HB2.out⟩
            have h := HS2.out
            rw [List.take_length] at h
            have h0 := HS.out
            unfold sane at h0 ⊢
            rw [HTK.out, List.all_append, h0]; simpa using h
          case measure => simp [intOf]; omega
    · obtain rfl : k = p.length := by omega
      have HB := Lib.hid hb
      rw [List.take_length] at hs
      have HS := Lib.hid hs
      clear hb hlt hs
      go_wp2_with fail
      go_ret
      exact ⟨ret_bool HS.out.symm, HB0.out.trans HB.out⟩

end Go.Proofs.Ytpkadofgmhninaa
