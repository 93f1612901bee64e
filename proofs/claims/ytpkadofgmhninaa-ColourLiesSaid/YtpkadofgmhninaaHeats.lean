/- At which heats the furnace may be, round by round. -/
import Derived.Test.YtpkadofgmhninaaSurely
namespace Go.Proofs.Ytpkadofgmhninaa
open Go.RowKit

namespace CSet
def nextOf (s : CSet) (m : Int) (r : List Nat) : Int := r.foldl (fun m c => min m ((s.paint c).hl - 1)) m
def lowOf (s : CSet) (r : List Nat) : Int := r.foldl (fun m c => max m (s.paint c).hh) 0
def highAt (s : CSet) (p : Rounds) : Nat → Int
  | 0 => 1000
  | k + 1 => s.nextOf (s.highAt p k) (p.getD k [])
def lowAt (s : CSet) (p : Rounds) (k : Nat) : Int := s.lowOf (p.getD k [])
end CSet

theorem nextOf_snoc (s : CSet) (m : Int) (r : List Nat) (j : Nat) (hj : j < r.length) : s.nextOf m (r.take (j + 1)) = min (s.nextOf m (r.take j)) ((s.paint (r.getD j 0)).hl - 1) := by
  unfold CSet.nextOf
  rw [List.take_succ_eq_append_getElem hj, List.foldl_append, getD_lt _ _ _ hj]; rfl
theorem lowOf_snoc (s : CSet) (r : List Nat) (j : Nat) (hj : j < r.length) : s.lowOf (r.take (j + 1)) = max (s.lowOf (r.take j)) (s.paint (r.getD j 0)).hh := by
  unfold CSet.lowOf
  rw [List.take_succ_eq_append_getElem hj, List.foldl_append, getD_lt _ _ _ hj]; rfl
theorem nextOf_in (s : CSet) (hs : s.Ok) {n : Nat} (hn : n = s.paints.length) (r : List Nat) (h : ∀ c, c ∈ r → c < n) (m : Int) (h0 : -1 ≤ m) (h1 : m ≤ 1000) : -1 ≤ s.nextOf m r ∧ s.nextOf m r ≤ 1000 := by
  induction r generalizing m with
  | nil => exact ⟨h0, h1⟩
  | cons c r ih =>
    have := hs.paints c (by have := h c (by simp); omega)
    exact ih (fun x hx => h x (by simp [hx])) (min m ((s.paint c).hl - 1)) (by omega) (by omega)
theorem lowOf_in (s : CSet) (hs : s.Ok) {n : Nat} (hn : n = s.paints.length) (r : List Nat) (h : ∀ c, c ∈ r → c < n) : 0 ≤ s.lowOf r ∧ s.lowOf r ≤ 1000 := by
  unfold CSet.lowOf
  have H : ∀ (r : List Nat) (m : Int), (∀ c, c ∈ r → c < n) → 0 ≤ m → m ≤ 1000 → 0 ≤ r.foldl (fun m c => max m (s.paint c).hh) m ∧ r.foldl (fun m c => max m (s.paint c).hh) m ≤ 1000 := by
    intro r
    induction r with
    | nil => exact fun m _ h0 h1 => ⟨h0, h1⟩
    | cons c r ih =>
      intro m h h0 h1
      have := hs.paints c (by have := h c (by simp); omega)
      exact ih (max m (s.paint c).hh) (fun x hx => h x (by simp [hx])) (by omega) (by omega)
  exact H r 0 h (by omega) (by omega)
theorem highAt_in (s : CSet) (hs : s.Ok) {p : Rounds} (hp : PlanOk s.paints.length p) : ∀ k, -1 ≤ s.highAt p k ∧ s.highAt p k ≤ 1000
  | 0 => by simp [CSet.highAt]
  | k + 1 => by
    have ih := highAt_in s hs hp k
    exact nextOf_in s hs rfl _ (fun c hc => hp.ltD hc) _ ih.1 ih.2

set_option maxRecDepth 100000 in
set_option maxHeartbeats 4000000 in
theorem heats_any (s : CSet) (hs : s.Ok) (pv ev rv : Value) (p : Rounds) (w : World) (hf : Fd w pv ev rv s p) (hp : PlanOk s.paints.length p) :
    Calls Try.prog 33 #[.agg #[pv, .int .i64 s.near, .int .i64 s.give, ev, rv]] w fun e w' => ∃ r, e = .returned r ∧ Spans w' r p.length (s.lowAt p) (s.highAt p) ∧ Bel w w' := by
  obtain ⟨i0, hi0, hz0, hz1, hz2⟩ := info_parts Try.info54
  have hn5 := hs.n5
  have hlen := Nat.le_trans hp.len hn5
  have c5 := C5.new w pv (.int .i64 s.near) (.int .i64 s.give) ev rv 95
  have b0 := (Bel.refl w).alloc (.cells #[pv, .int .i64 s.near, .int .i64 s.give, ev, rv] 95)
  obtain ⟨pa, pc, rfl, hp1, hp2, -, hp3⟩ := hf.paints
  obtain ⟨ra, rc, rfl, hr1, hr2, -, hr3⟩ := hf.rounds
  have hin := highAt_in s hs hp
  have hpp := hs.paints
  have hsn := fun k (hk : k < p.length) => spanCells_succ (s.lowAt p) (s.highAt p) k
  have hlt' : ∀ k, k < p.length → ∀ j, j < (p.getD k []).length → (p.getD k []).getD j 0 < s.paints.length := fun k hk j hj => hp.ltD (i := k) (by rw [getD_lt _ _ _ hj]; exact List.getElem_mem hj)
  have hno : ∀ k, ∀ j, -1 ≤ s.nextOf (s.highAt p k) ((p.getD k []).take j) ∧ s.nextOf (s.highAt p k) ((p.getD k []).take j) ≤ 1000 := fun k j => nextOf_in s hs rfl _ (fun c hc => hp.ltD (i := k) (List.mem_of_mem_take hc)) _ (hin k).1 (hin k).2
  have hlo : ∀ k, ∀ j, 0 ≤ s.lowOf ((p.getD k []).take j) ∧ s.lowOf ((p.getD k []).take j) ≤ 1000 := fun k j => lowOf_in s hs rfl _ (fun c hc => hp.ltD (i := k) (List.mem_of_mem_take hc))
  have h0 : s.highAt p 0 = 1000 := rfl
  have hs1 : ∀ k, s.highAt p (k + 1) = s.nextOf (s.highAt p k) (p.getD k []) := fun _ => rfl
  unfold maxLen at hp2 hr2
  have HR3 := Lib.hid hr3
  have HP3 := Lib.hid hp3
  have HIN := Lib.hid hin
  have HPP := Lib.hid hpp
  have HSN := Lib.hid hsn
  have HLT := Lib.hid hlt'
  have HNO := Lib.hid hno
  have HLO := Lib.hid hlo
  have H0 := Lib.hid h0
  have HS1 := Lib.hid hs1
  have C50 := Lib.hid c5
  have B0 := Lib.hid b0
  have hlen5 : p.length ≤ 5 := hlen
  have hlo0 : ∀ k, s.lowAt p k = s.lowOf (p.getD k []) := fun _ => rfl
  have HLA := Lib.hid hlo0
  clear hf hp hs hr3 hp3 hin hpp hsn hlt' hno hlo h0 hs1 b0 hlo0
  obtain ⟨c0, c1, c2, c3, c4⟩ := c5
  go_enter Try.func33, Try.ntmps33
  go_wp2_with fail
  generalize hW1 : w.alloc (.cells #[.slice pa s.paints.length pc, .int .i64 s.near, .int .i64 s.give, ev, .slice ra (List.length p) rc] 95) = W1 at *
  have HW1 := Lib.hid hW1
  clear hW1
  go_loopw [3, 4, 14] (fun r h i wr => ∃ k : Nat, k ≤ p.length ∧ i = .int .i64 k ∧ h = .int .i64 (s.highAt p k) ∧ wr.ownsRow W1.heap.size 54 2 r k (spanCells (s.lowAt p) (s.highAt p) k) ∧ Bel W1 wr) (fun _ _ i _ => p.length - (intOf i).toNat)
  case atStart => exact ⟨0, Nat.zero_le _, rfl, by rw [H0.out], ⟨rfl, .inl ⟨rfl, rfl⟩⟩, Bel.refl _⟩
  case round =>
    obtain ⟨k, hk, rfl, rfl, ho, hb⟩ := hrel
    by_cases hlt : k < p.length
    · obtain ⟨b, off, rv, rfl, hcell, hcols⟩ := HR3.out k hlt
      have hcell' := (B0.out.trans hb).cell hcell
      have HCO := Lib.hid (hcols.bel (B0.out.trans hb))
      obtain ⟨qa, qc, rfl, hi1, hi2, -, hi3⟩ := hcols
      simp only [List.length_map] at hi1 hi3 hcell' ⊢
      have hi3' : ∀ j, j < (p.getD k []).length → ∃ b off, qa = some ⟨b, off, none⟩ ∧ wr.cell? ⟨b, off + j, none⟩ = some (.int .i64 ((p.getD k []).getD j 0 : Int)) := fun j hj => by
        obtain ⟨b, off, e, q⟩ := hi3 j hj
        rw [getD_map _ _ hj] at q
        exact ⟨b, off, e, (B0.out.trans hb).cell q⟩
      have HCO' := Lib.hid hi3'
      clear hi3 hi3'
      unfold maxLen at hi2
      have HO := Lib.hid ho
      have HB := Lib.hid hb
      clear ho hb
      have HS := Lib.hid (HSN.out k hlt)
      have hK := HIN.out k
      have HLT' := Lib.hid (HLT.out k hlt)
      have HNO' := Lib.hid (HNO.out k)
      have HLO' := Lib.hid (HLO.out k)
      have HK1 := Lib.hid (HS1.out k)
      have HK2 := Lib.hid (HLA.out k)
      generalize s.highAt p k = H at *
      generalize p.getD k [] = round at *
      obtain ⟨f0, f1, f2, f3, f4⟩ := C50.out.bel HB.out
      go_wp2_with fail
      obtain ⟨wo, hwo⟩ : ∃ wo : World, wo = wr := ⟨_, rfl⟩
      have HWO := Lib.hid hwo
      clear hwo
      go_loopw [7, 8, 21] (fun lo nx i w2 => ∃ j : Nat, j ≤ round.length ∧ i = .int .i64 j ∧ lo = .int .i64 (s.lowOf (round.take j)) ∧ nx = .int .i64 (s.nextOf H (round.take j)) ∧ w2 = wr) (fun _ _ i _ => round.length - (intOf i).toNat)
      case atStart => exact ⟨0, Nat.zero_le _, rfl, by simp [CSet.lowOf], by simp [CSet.nextOf], rfl⟩
      case round =>
        obtain ⟨j, hj, rfl, rfl, rfl, rfl⟩ := hrel
        by_cases hjl : j < round.length
        · obtain ⟨ba, offa, rfl, qcell⟩ := HCO'.out j hjl
          have hx := HLT'.out j hjl
          obtain ⟨pb, poff, rfl, q0, q1, -, -, -, -⟩ := HP3.out (round.getD j 0) hx
          have d0 := (B0.out.trans HB.out).cell q0
          have d1 := (B0.out.trans HB.out).cell q1
          have hpx := HPP.out (round.getD j 0) hx
          have hl1 := HLO'.out j
          have hn1 := HNO'.out j
          have HL2 := Lib.hid (lowOf_snoc s round j hjl)
          have HN2 := Lib.hid (nextOf_snoc s H round j hjl)
          unfold CSet.paint at hpx HL2 HN2
          clear q0 q1
          generalize round.getD j 0 = x at *
          generalize s.paints.getD x ⟨0, 0, 0, 0, 0, 0⟩ = P at *
          generalize s.lowOf (round.take j) = L0 at *
          generalize s.nextOf H (round.take j) = N0 at *
          go_wp2_with fail
          exact ⟨⟨j + 1, by omega, by go_num, by rw [HL2.out], by rw [HN2.out], trivial⟩, by simp [intOf]; omega⟩
        · obtain rfl : j = round.length := by omega
          rw [List.take_length]
          have hl1 := HLO'.out round.length
          rw [List.take_length] at hl1
          have HS' := HS.out
          rw [HK2.out] at HS'
          generalize s.lowOf round = L0 at *
          have hm1 : k + 1 ≤ maxLen := by unfold maxLen; omega
          have hm2 : (k + 1) * 16 ≤ 140737488355328 := by omega
          have hm3 : W1.heap.size ≤ (wr.alloc (.cells #[.int .i64 L0, .int .i64 H] 54)).heap.size := by have := HB.out.size; simp; omega
          have HS2 := Lib.hid HS'
          clear HS' HCO' f0 f1 f2 f3 f4
          go_wp2_with (at_builtin; refine wpList_append_own _ rfl _ _ 42 rfl W1.heap.size 54 i0 (.agg #[.int .i64 0, .int .i64 0]) 2 16 Try.underlying42 hi0 hz0 hz1 hz2 rfl (by decide) _ _ _ rfl (HO.out.alloc _) ⟨wr.heap.size, 0, none⟩ 1 1 [.int .i64 L0, .int .i64 H] rfl rfl (two_new _ _ _ _) (by simp [Value.oneCell']) hm1 hm2 hm3 ?_; intro v' w3 hown2 hgrow _; have HO2 := Lib.hid hown2; have HB3 := Lib.hid ((HB.out.alloc _).grown hgrow (fun k hk => (HO.out.lt k hk).1)); clear hown2 hgrow)
          go_roundw
          case rel => exact ⟨k + 1, by omega, by go_num, by rw [HK1.out], by rw [HS2.out]; exact HO2.out, HB3.out⟩
          case measure => simp [intOf]; omega
    · obtain rfl : k = p.length := by omega
      have HO := Lib.hid ho
      have HB := Lib.hid hb
      clear ho hb hlt
      go_wp2
      go_ret
      exact ⟨_, rfl, own_spans HO.out, B0.out.trans HB.out⟩

end Go.Proofs.Ytpkadofgmhninaa
