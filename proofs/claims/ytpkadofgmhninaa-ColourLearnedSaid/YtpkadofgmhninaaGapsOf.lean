/- Gaps in memory; those of which nothing is known but the spans. -/
import Derived.Test.YtpkadofgmhninaaAgg
namespace Go.Proofs.Ytpkadofgmhninaa
open Go.RowKit
attribute [local go_sem] Oper.semAt_some

theorem Try.size54 : (Try.prog.info? 54).map (·.size) = some 2 := by kernel_rfl
theorem run_copy_two (w : World) (ty : TypeId) (g dLen dCap : Nat) (a : Addr) (sLen sCap : Nat) (cur : Array Value) (t : TypeId) (cs : List Value)
    (hg : w.heap[g]? = some (.cells cur t (0, 0))) (hn : cs.length = Nat.min sLen dLen * 2)
    (hsrc : ∀ j v, cs[j]? = some v → w.cell? (a.add j) = some v) (hfit : 0 + cs.length ≤ cur.size) (h1 : ∀ v ∈ cs, v.oneCell' = true) :
    (Builtin.copy_ #[42, 42] ty #[.slice (some ⟨g, 0, none⟩) dLen dCap, .slice (some a) sLen sCap]).run Try.prog w =
      .ok (goInt (Nat.min sLen dLen)) (w.setRow g (cs ++ cur.toList.drop cs.length).toArray) := by
  have hl := run_loadCells_list (P := Try.prog) w a cs hsrc
  have hst := run_storeCells_at Try.prog g 0 t cs 0 cur w hg (by simpa using hfit) h1
  cases hq : Try.prog.info? 54 with
  | none => have := Try.size54; simp [hq] at this
  | some i =>
    have hi : i.size = 2 := by have := Try.size54; simpa [hq] using this
    simp only [Nat.zero_add, Nat.add_zero, List.take_zero, List.nil_append] at hst
    simp [Builtin.copy_, run_underlying Try.underlying42, Builtin.lenOf, Builtin.firstCells, sizeOf, typeInfo, hq, hi, ← hn, hl, hst]

def zeros36 : List Value := [.int .i64 0, .int .i64 0, .int .i64 0, .int .i64 0, .int .i64 0, .int .i64 0, .int .i64 0, .int .i64 0, .int .i64 0, .int .i64 0, .int .i64 0, .int .i64 0, .int .i64 0, .int .i64 0, .int .i64 0, .int .i64 0, .int .i64 0, .int .i64 0, .int .i64 0, .int .i64 0, .int .i64 0, .int .i64 0, .int .i64 0, .int .i64 0, .int .i64 0, .int .i64 0, .int .i64 0, .int .i64 0, .int .i64 0, .int .i64 0, .int .i64 0, .int .i64 0, .int .i64 0, .int .i64 0, .int .i64 0, .int .i64 0]
def zeros12 : List Value := [.int .i64 0, .int .i64 0, .int .i64 0, .int .i64 0, .int .i64 0, .int .i64 0, .int .i64 0, .int .i64 0, .int .i64 0, .int .i64 0, .int .i64 0, .int .i64 0]
theorem zeros36_size : zeros36.toArray.size = 36 := rfl
/-- The ends of six spans, those that there are not at 0. -/
def EndsW (W : World) (B n : Nat) (lo hi : Nat → Int) : Prop := ∀ k, k < 6 → W.cell? ⟨B, k * 2, none⟩ = some (.int .i64 (CSet.endsOf n lo k)) ∧ W.cell? ⟨B, k * 2 + 1, none⟩ = some (.int .i64 (CSet.endsOf n hi k))
theorem ends_at (lo hi : Nat → Int) (n : Nat) (_hn : n ≤ 5) (k : Nat) (hk : k < 6) : (spanCells lo hi n ++ zeros12.drop (spanCells lo hi n).length)[k * 2]? = some (.int .i64 (CSet.endsOf n lo k)) ∧ (spanCells lo hi n ++ zeros12.drop (spanCells lo hi n).length)[k * 2 + 1]? = some (.int .i64 (CSet.endsOf n hi k)) := by
  unfold CSet.endsOf
  by_cases h : k < n
  · obtain ⟨h1, h2⟩ := spanCells_get lo hi n k h
    rw [List.getElem?_append_left (by rw [spanCells_len]; omega), List.getElem?_append_left (by rw [spanCells_len]; omega), if_pos h, if_pos h]
    exact ⟨h1, h2⟩
  · rw [List.getElem?_append_right (by rw [spanCells_len]; omega), List.getElem?_append_right (by rw [spanCells_len]; omega), if_neg h, if_neg h, spanCells_len, List.getElem?_drop, List.getElem?_drop,
      show n * 2 + (k * 2 - n * 2) = k * 2 by omega, show n * 2 + (k * 2 + 1 - n * 2) = k * 2 + 1 by omega]
    have : k = 0 ∨ k = 1 ∨ k = 2 ∨ k = 3 ∨ k = 4 ∨ k = 5 := by omega
    rcases this with rfl | rfl | rfl | rfl | rfl | rfl <;> exact ⟨rfl, rfl⟩
theorem ends_row {W : World} {B n : Nat} {lo hi : Nat → Int} (hn : n ≤ 5) (h : W.heap[B]? = some (.cells (spanCells lo hi n ++ zeros12.drop (spanCells lo hi n).length).toArray 142 (0, 0))) : EndsW W B n lo hi := by
  intro k hk
  obtain ⟨h1, h2⟩ := ends_at lo hi n hn k hk
  simp only [World.cell?, h]
  exact ⟨by simpa using h1, by simpa using h2⟩
theorem EndsW.but {A C : World} {B m n : Nat} {lo hi : Nat → Int} (h : EndsW A B n lo hi) (b : But m A C) (hm : B ≠ m) : EndsW C B n lo hi := fun k hk => ⟨b.cell hm (h k hk).1, b.cell hm (h k hk).2⟩
theorem EndsW.bel {A C : World} {B n : Nat} {lo hi : Nat → Int} (h : EndsW A B n lo hi) (b : Bel A C) : EndsW C B n lo hi := fun k hk => ⟨b.cell (h k hk).1, b.cell (h k hk).2⟩

theorem below_setRow2 {w W : World} {g : Nat} (hb : Bel w W) (hBg : w.heap.size ≤ g) (cs : Array Value) : Bel w (W.setRow g cs) :=
  Below.trans hb ⟨rfl, rfl, rfl, by simp [World.setRow], fun k hk => Go.setRow_other W g k cs (by omega)⟩
set_option maxRecDepth 100000 in
set_option maxHeartbeats 4000000 in
theorem gapsOf_any (sv : Value) (n : Nat) (lo hi : Nat → Int) (w : World) (hs : Spans w sv n lo hi) (hn1 : 1 ≤ n) (hn5 : n ≤ 5) (hb : ∀ i, i < n → 0 ≤ lo i ∧ lo i ≤ 1000 ∧ 0 ≤ hi i ∧ hi i ≤ 1000) :
    Calls Try.prog 55 #[sv] w fun e w' => e = .returned (.agg ((CSet.gapsOf n lo hi).map (Value.int .i64)).toArray) ∧ Bel w w' := by
  obtain ⟨a, c, rfl, h1, h2, -, h3⟩ := hs
  unfold maxLen at h2
  obtain ⟨b0, off0, rfl, -⟩ := h3 0 (by omega)
  refine (callsIn_wide (n := 0)).1 (callsIn_of_wp Try.func55 rfl trivial ?_ rfl)
  simp only [Try.ntmps55, List.size_toArray, List.length_cons, List.length_nil, Nat.reduceAdd, Nat.reduceSub, Array.replicate_succ, Array.replicate_zero, List.push_toArray, List.append_toArray, List.nil_append, List.cons_append]
  have hsrc : ∀ j v, (spanCells lo hi n)[j]? = some v → ((w.alloc (.cells #[.int .i64 0, .int .i64 0, .int .i64 0, .int .i64 0, .int .i64 0, .int .i64 0, .int .i64 0, .int .i64 0, .int .i64 0, .int .i64 0, .int .i64 0, .int .i64 0, .int .i64 0, .int .i64 0, .int .i64 0, .int .i64 0, .int .i64 0, .int .i64 0, .int .i64 0, .int .i64 0, .int .i64 0, .int .i64 0, .int .i64 0, .int .i64 0, .int .i64 0, .int .i64 0, .int .i64 0, .int .i64 0, .int .i64 0, .int .i64 0, .int .i64 0, .int .i64 0, .int .i64 0, .int .i64 0, .int .i64 0, .int .i64 0] 89)).alloc (.cells #[.int .i64 0, .int .i64 0, .int .i64 0, .int .i64 0, .int .i64 0, .int .i64 0, .int .i64 0, .int .i64 0, .int .i64 0, .int .i64 0, .int .i64 0, .int .i64 0] 142)).cell? ((⟨b0, off0, none⟩ : Addr).add j) = some v := by
    intro j v hj
    have hjl : j < n * 2 := by rw [← spanCells_len lo hi n]; exact (List.getElem?_eq_some_iff.1 hj).1
    have hbl : Bel w ((w.alloc (.cells #[.int .i64 0, .int .i64 0, .int .i64 0, .int .i64 0, .int .i64 0, .int .i64 0, .int .i64 0, .int .i64 0, .int .i64 0, .int .i64 0, .int .i64 0, .int .i64 0, .int .i64 0, .int .i64 0, .int .i64 0, .int .i64 0, .int .i64 0, .int .i64 0, .int .i64 0, .int .i64 0, .int .i64 0, .int .i64 0, .int .i64 0, .int .i64 0, .int .i64 0, .int .i64 0, .int .i64 0, .int .i64 0, .int .i64 0, .int .i64 0, .int .i64 0, .int .i64 0, .int .i64 0, .int .i64 0, .int .i64 0, .int .i64 0] 89)).alloc (.cells #[.int .i64 0, .int .i64 0, .int .i64 0, .int .i64 0, .int .i64 0, .int .i64 0, .int .i64 0, .int .i64 0, .int .i64 0, .int .i64 0, .int .i64 0, .int .i64 0] 142)) := ((Bel.refl w).alloc _).alloc _
    obtain ⟨b', off', e, q0, q1⟩ := h3 (j / 2) (by omega)
    injection e with e
    injection e with e1 e2
    subst e1 e2
    obtain ⟨s0, s1⟩ := spanCells_get lo hi n (j / 2) (by omega)
    rw [addr_add]
    rcases Nat.mod_two_eq_zero_or_one j with hm | hm
    · have ej : j / 2 * 2 = j := by omega
      rw [ej] at s0 q0
      rw [hj] at s0
      rw [s0]; exact hbl.cell q0
    · have ej : j / 2 * 2 + 1 = j := by omega
      have ej2 : off0 + j / 2 * 2 + 1 = off0 + j := by omega
      rw [ej] at s1
      rw [ej2] at q1
      rw [hj] at s1
      rw [s1]; exact hbl.cell q1
  obtain ⟨V, hV⟩ : ∃ V, ((w.alloc (.cells #[.int .i64 0, .int .i64 0, .int .i64 0, .int .i64 0, .int .i64 0, .int .i64 0, .int .i64 0, .int .i64 0, .int .i64 0, .int .i64 0, .int .i64 0, .int .i64 0, .int .i64 0, .int .i64 0, .int .i64 0, .int .i64 0, .int .i64 0, .int .i64 0, .int .i64 0, .int .i64 0, .int .i64 0, .int .i64 0, .int .i64 0, .int .i64 0, .int .i64 0, .int .i64 0, .int .i64 0, .int .i64 0, .int .i64 0, .int .i64 0, .int .i64 0, .int .i64 0, .int .i64 0, .int .i64 0, .int .i64 0, .int .i64 0] 89)).alloc (.cells #[.int .i64 0, .int .i64 0, .int .i64 0, .int .i64 0, .int .i64 0, .int .i64 0, .int .i64 0, .int .i64 0, .int .i64 0, .int .i64 0, .int .i64 0, .int .i64 0] 142)).setRow (w.heap.size + 1) (spanCells lo hi n ++ zeros12.drop (spanCells lo hi n).length).toArray = V := ⟨_, rfl⟩
  have hheap : ((w.alloc (.cells #[.int .i64 0, .int .i64 0, .int .i64 0, .int .i64 0, .int .i64 0, .int .i64 0, .int .i64 0, .int .i64 0, .int .i64 0, .int .i64 0, .int .i64 0, .int .i64 0, .int .i64 0, .int .i64 0, .int .i64 0, .int .i64 0, .int .i64 0, .int .i64 0, .int .i64 0, .int .i64 0, .int .i64 0, .int .i64 0, .int .i64 0, .int .i64 0, .int .i64 0, .int .i64 0, .int .i64 0, .int .i64 0, .int .i64 0, .int .i64 0, .int .i64 0, .int .i64 0, .int .i64 0, .int .i64 0, .int .i64 0, .int .i64 0] 89)).alloc (.cells #[.int .i64 0, .int .i64 0, .int .i64 0, .int .i64 0, .int .i64 0, .int .i64 0, .int .i64 0, .int .i64 0, .int .i64 0, .int .i64 0, .int .i64 0, .int .i64 0] 142)).heap[w.heap.size + 1]? = some (.cells zeros12.toArray 142 (0, 0)) := by
    have := World.alloc_heap_new (w.alloc (.cells #[.int .i64 0, .int .i64 0, .int .i64 0, .int .i64 0, .int .i64 0, .int .i64 0, .int .i64 0, .int .i64 0, .int .i64 0, .int .i64 0, .int .i64 0, .int .i64 0, .int .i64 0, .int .i64 0, .int .i64 0, .int .i64 0, .int .i64 0, .int .i64 0, .int .i64 0, .int .i64 0, .int .i64 0, .int .i64 0, .int .i64 0, .int .i64 0, .int .i64 0, .int .i64 0, .int .i64 0, .int .i64 0, .int .i64 0, .int .i64 0, .int .i64 0, .int .i64 0, .int .i64 0, .int .i64 0, .int .i64 0, .int .i64 0] 89)) (.cells #[.int .i64 0, .int .i64 0, .int .i64 0, .int .i64 0, .int .i64 0, .int .i64 0, .int .i64 0, .int .i64 0, .int .i64 0, .int .i64 0, .int .i64 0, .int .i64 0] 142)
    rw [World.size_alloc] at this
    exact this
  have hrun := run_copy_two ((w.alloc (.cells #[.int .i64 0, .int .i64 0, .int .i64 0, .int .i64 0, .int .i64 0, .int .i64 0, .int .i64 0, .int .i64 0, .int .i64 0, .int .i64 0, .int .i64 0, .int .i64 0, .int .i64 0, .int .i64 0, .int .i64 0, .int .i64 0, .int .i64 0, .int .i64 0, .int .i64 0, .int .i64 0, .int .i64 0, .int .i64 0, .int .i64 0, .int .i64 0, .int .i64 0, .int .i64 0, .int .i64 0, .int .i64 0, .int .i64 0, .int .i64 0, .int .i64 0, .int .i64 0, .int .i64 0, .int .i64 0, .int .i64 0, .int .i64 0] 89)).alloc (.cells #[.int .i64 0, .int .i64 0, .int .i64 0, .int .i64 0, .int .i64 0, .int .i64 0, .int .i64 0, .int .i64 0, .int .i64 0, .int .i64 0, .int .i64 0, .int .i64 0] 142)) 3 (w.heap.size + 1) 6 6 ⟨b0, off0, none⟩ n c zeros12.toArray 142 (spanCells lo hi n) hheap (by rw [spanCells_len]; show n * 2 = Nat.min n 6 * 2; rw [show Nat.min n 6 = n from Nat.min_eq_left (by omega)]) hsrc (by rw [spanCells_len]; simp [zeros12]; omega)
    (fun v hv => by
      unfold spanCells at hv
      simp only [List.mem_flatMap, List.mem_cons, List.not_mem_nil, or_false] at hv
      obtain ⟨i, -, rfl | rfl⟩ := hv <;> rfl)
  rw [show zeros12.toArray.toList = zeros12 from rfl, hV] at hrun
  have hVB : Bel w V := by
    rw [← hV]
    exact below_setRow2 (((Bel.refl w).alloc _).alloc _) (by omega) _
  have hVE : EndsW V (w.heap.size + 1) n lo hi := ends_row hn5 (by rw [← hV]; exact Go.setRow_heap _ _ _ _ _ _ hheap)
  have hVG : V.heap[w.heap.size]? = some (.cells zeros36.toArray 89 (0, 0)) := by
    rw [← hV, Go.setRow_other _ _ _ _ (by omega)]
    have h1 := World.alloc_heap_new w (.cells #[.int .i64 0, .int .i64 0, .int .i64 0, .int .i64 0, .int .i64 0, .int .i64 0, .int .i64 0, .int .i64 0, .int .i64 0, .int .i64 0, .int .i64 0, .int .i64 0, .int .i64 0, .int .i64 0, .int .i64 0, .int .i64 0, .int .i64 0, .int .i64 0, .int .i64 0, .int .i64 0, .int .i64 0, .int .i64 0, .int .i64 0, .int .i64 0, .int .i64 0, .int .i64 0, .int .i64 0, .int .i64 0, .int .i64 0, .int .i64 0, .int .i64 0, .int .i64 0, .int .i64 0, .int .i64 0, .int .i64 0, .int .i64 0] 89)
    exact (Below.heap_alloc _ _ _ (by simp)).trans h1
  have hVZ : V.heap.size = w.heap.size + 2 := by rw [← hV]; simp [World.setRow]
  have HRUN := Lib.hid hrun
  have HVB := Lib.hid hVB
  have HVE := Lib.hid hVE
  have HVG := Lib.hid hVG
  have HVZ := Lib.hid hVZ
  clear hsrc hheap hrun hVB hVE hVG hV h3 hVZ
  gi_wp2_with fail
  rw [HRUN.out]
  gi_wp2_with fail
  have hvz : V.heap.size = w.heap.size + 2 := HVZ.out
  have hvz1 : w.heap.size + 2 ≤ V.heap.size := by omega
  have hvz2 : V.heap.size ≤ w.heap.size + 2 := by omega
  clear hvz
  have hG0 : GapsW (V.alloc (.cells zeros36.toArray 89)) V.heap.size (CSet.gapsTo n lo hi (6 * 0)) := ⟨CSet.gapsTo_len _ _ _ _, by rw [World.alloc_heap_new]; rfl⟩
  have hB1 : Bel V (V.alloc (.cells zeros36.toArray 89)) := (Bel.refl V).alloc _
  have HG0 := Lib.hid hG0
  have HB1 := Lib.hid hB1
  clear hG0 hB1
  gi_loopw [10] (fun i wr => ∃ a : Nat, a ≤ 6 ∧ i = .int .i64 a ∧ GapsW wr V.heap.size (CSet.gapsTo n lo hi (6 * a)) ∧ EndsW wr (w.heap.size + 1) n lo hi ∧ Bel w wr ∧ wr.heap[w.heap.size]? = some (.cells zeros36.toArray 89 (0, 0))) (fun i _ => 6 - (intOf i).toNat)
  case atStart => exact ⟨0, by omega, rfl, HG0.out, HVE.out.bel HB1.out, HVB.out.trans HB1.out, (HB1.out.block _ (Array.getElem?_eq_some_iff.1 HVG.out).1).trans HVG.out⟩
  case round =>
    obtain ⟨a, ha, rfl, hg, he, hb', hz'⟩ := hrel
    have HG := Lib.hid hg
    have HE := Lib.hid he
    have HB := Lib.hid hb'
    have HZ := Lib.hid hz'
    clear hg he hb' hz'
    by_cases ha6 : a < 6
    · gi_wp2_with fail
      gi_loopw [13] (fun i wr => ∃ b : Nat, b ≤ 6 ∧ i = .int .i64 b ∧ GapsW wr V.heap.size (CSet.gapsTo n lo hi (6 * a + b)) ∧ EndsW wr (w.heap.size + 1) n lo hi ∧ Bel w wr ∧ wr.heap[w.heap.size]? = some (.cells zeros36.toArray 89 (0, 0))) (fun i _ => 6 - (intOf i).toNat)
      case atStart => exact ⟨0, by omega, rfl, HG.out, HE.out, HB.out, HZ.out⟩
      case round =>
        obtain ⟨b, hb1, rfl, hg, he, hb', hz'⟩ := hrel
        clear HG HE HB HZ
        have HG := Lib.hid hg
        have HE := Lib.hid he
        have HB := Lib.hid hb'
        have HZ := Lib.hid hz'
        by_cases hb6 : b < 6
        · obtain ⟨-, e1⟩ := he a ha6
          obtain ⟨e2, -⟩ := he b hb6
          have hv0 : CSet.gap0 n lo hi (6 * a + b) = if a = b then 0 else CSet.endsOf n hi a - CSet.endsOf n lo b := by
            unfold CSet.gap0
            rw [show (6 * a + b) / 6 = a by omega, show (6 * a + b) % 6 = b by omega]
          have hs := Lib.hid (CSet.gapsTo_same n lo hi a ha6)
          have hba : ∀ k, k < 6 → 0 ≤ CSet.endsOf n hi k ∧ CSet.endsOf n hi k ≤ 1000 ∧ 0 ≤ CSet.endsOf n lo k ∧ CSet.endsOf n lo k ≤ 1000 := fun k _ => by
            unfold CSet.endsOf
            split
            · have := hb k ‹_›; omega
            · omega
          have hha := hba a ha6
          have hlb := hba b hb6
          clear hg he hb' hz' hba
          generalize CSet.endsOf n hi a = ha at *
          generalize CSet.endsOf n lo b = lb at *
          by_cases hab : a = b
          · subst hab
            clear hv0
            gi_wp2_with fail
            go_roundw
            case rel => exact ⟨a + 1, by omega, by go_num, by rw [show 6 * a + (a + 1) = 6 * a + a + 1 by omega, hs.out]; exact HG.out, HE.out, HB.out, HZ.out⟩
            case measure => simp [intOf]; omega
          rw [if_neg hab] at hv0
          have HV0 := Lib.hid hv0
          clear hv0 hs
          gi_wp2_with fail
          refine region_tail 13 (fun i v W => match i with
            | 0 => v = .int .i64 (a : Int)
            | 1 => v = .int .i64 (b : Int)
            | 2 => v = .int .i64 (a : Int)
            | 3 => v = .pointer (some ⟨w.heap.size + 1, a * 2, none⟩)
            | 4 => v = .pointer (some ⟨w.heap.size + 1, a * 2 + 1, none⟩)
            | 5 => v = .int .i64 ha
            | 6 => v = .int .i64 (b : Int)
            | 7 => v = .pointer (some ⟨w.heap.size + 1, b * 2, none⟩)
            | 8 => v = .pointer (some ⟨w.heap.size + 1, b * 2, none⟩)
            | 9 => v = .int .i64 lb
            | 10 => v = .int .i64 (ha - lb)
            | 11 => v = .pointer (some ⟨V.heap.size, a * 6, none⟩)
            | 12 => v = .pointer (some ⟨V.heap.size, a * 6 + b, none⟩)
            | _ => True) (by kernel_rfl) (by kernel_rfl) (by kernel_rfl) (by kernel_rfl) ?_ ?_ ?_
          · intro i v W W' h hb
            split at h <;> first | exact h | exact h.bel hb | exact fun e => (h e).bel hb | exact ⟨h.1.bel hb, h.2⟩
          · refine ⟨?_, ?_, ?_, ?_, ?_, ?_, ?_, ?_, ?_, ?_, ?_, ?_, ?_, trivial⟩
            · refine growOp_k ?_; intro vs W hW hd K HK
              clear hd
              simp only [putAll, Act.put, List.setIfInBounds_toArray, List.set_cons_succ, List.set_cons_zero, Nat.reduceAdd, Nat.zero_add]
              gi_wp2_with fail
              refine HK.out _ _ ?_ ?_ ?_
              · simp only [putAll, Act.put, List.setIfInBounds_toArray, List.set_cons_succ, List.set_cons_zero, Nat.reduceAdd, Nat.zero_add] <;> kernel_rfl
              · rfl
              · exact Bel.refl _
            · refine growOp_k ?_; intro vs W hW hd K HK
              clear hd
              simp only [putAll, Act.put, List.setIfInBounds_toArray, List.set_cons_succ, List.set_cons_zero, Nat.reduceAdd, Nat.zero_add]
              gi_wp2_with fail
              refine HK.out _ _ ?_ ?_ ?_
              · simp only [putAll, Act.put, List.setIfInBounds_toArray, List.set_cons_succ, List.set_cons_zero, Nat.reduceAdd, Nat.zero_add] <;> kernel_rfl
              · rfl
              · exact Bel.refl _
            · refine growOp_k ?_; intro vs W hW hd K HK
              clear hd
              simp only [putAll, Act.put, List.setIfInBounds_toArray, List.set_cons_succ, List.set_cons_zero, Nat.reduceAdd, Nat.zero_add]
              gi_wp2_with fail
              refine HK.out _ _ ?_ ?_ ?_
              · simp only [putAll, Act.put, List.setIfInBounds_toArray, List.set_cons_succ, List.set_cons_zero, Nat.reduceAdd, Nat.zero_add] <;> kernel_rfl
              · rfl
              · exact Bel.refl _
            · refine growOp_k ?_; intro vs W hW hd K HK
              have h2 : (vs 2) = .int .i64 (a : Int) := hd 2 (by decide)
              clear hd
              simp only [putAll, Act.put, List.setIfInBounds_toArray, List.set_cons_succ, List.set_cons_zero, Nat.reduceAdd, Nat.zero_add, h2]
              gi_wp2_with fail
              refine HK.out _ _ ?_ ?_ ?_
              · simp only [putAll, Act.put, List.setIfInBounds_toArray, List.set_cons_succ, List.set_cons_zero, Nat.reduceAdd, Nat.zero_add, h2] <;> kernel_rfl
              · rfl
              · exact Bel.refl _
            · refine growOp_k ?_; intro vs W hW hd K HK
              have h3 : (vs 3) = .pointer (some ⟨w.heap.size + 1, a * 2, none⟩) := hd 3 (by decide)
              clear hd
              simp only [putAll, Act.put, List.setIfInBounds_toArray, List.set_cons_succ, List.set_cons_zero, Nat.reduceAdd, Nat.zero_add, h3]
              gi_wp2_with fail
              refine HK.out _ _ ?_ ?_ ?_
              · simp only [putAll, Act.put, List.setIfInBounds_toArray, List.set_cons_succ, List.set_cons_zero, Nat.reduceAdd, Nat.zero_add, h3] <;> kernel_rfl
              · rfl
              · exact Bel.refl _
            · refine growOp_k ?_; intro vs W hW hd K HK
              have h4 : (vs 4) = .pointer (some ⟨w.heap.size + 1, a * 2 + 1, none⟩) := hd 4 (by decide)
              clear hd
              have e1 := hW.cell e1
              simp only [putAll, Act.put, List.setIfInBounds_toArray, List.set_cons_succ, List.set_cons_zero, Nat.reduceAdd, Nat.zero_add, h4]
              gi_wp2_with fail
              refine HK.out _ _ ?_ ?_ ?_
              · simp only [putAll, Act.put, List.setIfInBounds_toArray, List.set_cons_succ, List.set_cons_zero, Nat.reduceAdd, Nat.zero_add, h4] <;> kernel_rfl
              · rfl
              · exact Bel.refl _
            · refine growOp_k ?_; intro vs W hW hd K HK
              clear hd
              simp only [putAll, Act.put, List.setIfInBounds_toArray, List.set_cons_succ, List.set_cons_zero, Nat.reduceAdd, Nat.zero_add]
              gi_wp2_with fail
              refine HK.out _ _ ?_ ?_ ?_
              · simp only [putAll, Act.put, List.setIfInBounds_toArray, List.set_cons_succ, List.set_cons_zero, Nat.reduceAdd, Nat.zero_add] <;> kernel_rfl
              · rfl
              · exact Bel.refl _
            · refine growOp_k ?_; intro vs W hW hd K HK
              have h6 : (vs 6) = .int .i64 (b : Int) := hd 6 (by decide)
              clear hd
              simp only [putAll, Act.put, List.setIfInBounds_toArray, List.set_cons_succ, List.set_cons_zero, Nat.reduceAdd, Nat.zero_add, h6]
              gi_wp2_with fail
              refine HK.out _ _ ?_ ?_ ?_
              · simp only [putAll, Act.put, List.setIfInBounds_toArray, List.set_cons_succ, List.set_cons_zero, Nat.reduceAdd, Nat.zero_add, h6] <;> kernel_rfl
              · rfl
              · exact Bel.refl _
            · refine growOp_k ?_; intro vs W hW hd K HK
              have h7 : (vs 7) = .pointer (some ⟨w.heap.size + 1, b * 2, none⟩) := hd 7 (by decide)
              clear hd
              simp only [putAll, Act.put, List.setIfInBounds_toArray, List.set_cons_succ, List.set_cons_zero, Nat.reduceAdd, Nat.zero_add, h7]
              gi_wp2_with fail
              refine HK.out _ _ ?_ ?_ ?_
              · simp only [putAll, Act.put, List.setIfInBounds_toArray, List.set_cons_succ, List.set_cons_zero, Nat.reduceAdd, Nat.zero_add, h7] <;> kernel_rfl
              · rfl
              · exact Bel.refl _
            · refine growOp_k ?_; intro vs W hW hd K HK
              have h8 : (vs 8) = .pointer (some ⟨w.heap.size + 1, b * 2, none⟩) := hd 8 (by decide)
              clear hd
              have e2 := hW.cell e2
              simp only [putAll, Act.put, List.setIfInBounds_toArray, List.set_cons_succ, List.set_cons_zero, Nat.reduceAdd, Nat.zero_add, h8]
              gi_wp2_with fail
              refine HK.out _ _ ?_ ?_ ?_
              · simp only [putAll, Act.put, List.setIfInBounds_toArray, List.set_cons_succ, List.set_cons_zero, Nat.reduceAdd, Nat.zero_add, h8] <;> kernel_rfl
              · rfl
              · exact Bel.refl _
            · refine growOp_k ?_; intro vs W hW hd K HK
              have h5 : (vs 5) = .int .i64 ha := hd 5 (by decide)
              have h9 : (vs 9) = .int .i64 lb := hd 9 (by decide)
              clear hd
              simp only [putAll, Act.put, List.setIfInBounds_toArray, List.set_cons_succ, List.set_cons_zero, Nat.reduceAdd, Nat.zero_add, h5, h9]
              gi_wp2_with fail
              refine HK.out _ _ ?_ ?_ ?_
              · simp only [putAll, Act.put, List.setIfInBounds_toArray, List.set_cons_succ, List.set_cons_zero, Nat.reduceAdd, Nat.zero_add, h5, h9] <;> kernel_rfl
              · rfl
              · exact Bel.refl _
            · refine growOp_k ?_; intro vs W hW hd K HK
              have h0 : (vs 0) = .int .i64 (a : Int) := hd 0 (by decide)
              clear hd
              simp only [putAll, Act.put, List.setIfInBounds_toArray, List.set_cons_succ, List.set_cons_zero, Nat.reduceAdd, Nat.zero_add, h0]
              gi_wp2_with fail
              refine HK.out _ _ ?_ ?_ ?_
              · simp only [putAll, Act.put, List.setIfInBounds_toArray, List.set_cons_succ, List.set_cons_zero, Nat.reduceAdd, Nat.zero_add, h0] <;> kernel_rfl
              · rfl
              · exact Bel.refl _
            · refine growOp_k ?_; intro vs W hW hd K HK
              have h11 : (vs 11) = .pointer (some ⟨V.heap.size, a * 6, none⟩) := hd 11 (by decide)
              have h1 : (vs 1) = .int .i64 (b : Int) := hd 1 (by decide)
              clear hd
              simp only [putAll, Act.put, List.setIfInBounds_toArray, List.set_cons_succ, List.set_cons_zero, Nat.reduceAdd, Nat.zero_add, h11, h1]
              gi_wp2_with fail
              refine HK.out _ _ ?_ ?_ ?_
              · simp only [putAll, Act.put, List.setIfInBounds_toArray, List.set_cons_succ, List.set_cons_zero, Nat.reduceAdd, Nat.zero_add, h11, h1] <;> kernel_rfl
              · rfl
              · exact Bel.refl _
          · intro vs W hW hall
            have g10 : vs 10 = .int .i64 (ha - lb) := hall 10 (by decide)
            have g12 : vs 12 = .pointer (some ⟨V.heap.size, a * 6 + b, none⟩) := hall 12 (by decide)
            clear hall
            simp only [putAll, Act.put, List.setIfInBounds_toArray, List.set_cons_succ, List.set_cons_zero, Nat.reduceAdd, Nat.zero_add, List.take_succ_cons, List.take_zero, List.drop_succ_cons, List.drop_zero, g10, g12]
            have HGW := Lib.hid (HG.out.bel hW)
            have HEW := Lib.hid (HE.out.bel hW)
            have HBW := Lib.hid (HB.out.trans hW)
            have HZW := Lib.hid ((hW.block _ (Array.getElem?_eq_some_iff.1 HZ.out).1).trans HZ.out)
            obtain ⟨u1, u2⟩ := HGW.out.cell ha6 hb6
            clear hW g10 g12 e1 e2
            gi_wp2_with fail
            have e1 := But.set V.heap.size (a * 6 + b) W (.int .i64 (ha - lb))
            go_roundw
            case rel => exact ⟨b + 1, by omega, by go_num, by rw [show 6 * a + (b + 1) = 6 * a + b + 1 by omega, ← CSet.gapsTo_set, HV0.out]; exact HGW.out.set a b _, HEW.out.but e1 (by omega), e1.bel HBW.out (by omega), (e1.block _ (Array.getElem?_eq_some_iff.1 HZW.out).1 (by omega)).trans HZW.out⟩
            case measure => simp [intOf]; omega
        · obtain rfl : b = 6 := by omega
          clear hg he hb' hz' hb6
          gi_wp2_with fail
          go_roundw
          case rel => exact ⟨a + 1, by omega, by go_num, HG.out, HE.out, HB.out, HZ.out⟩
          case measure => simp [intOf]; omega
    · obtain rfl : a = 6 := by omega
      clear ha6
      gi_wp2_with (first | with_reducible refine wpListIn_load89 4 V.heap.size (CSet.gapsTo n lo hi (6 * 6)) rfl HG.out ?_ | with_reducible refine wpListIn_store89 2 (.tmp 34) w.heap.size (CSet.gapsTo n lo hi 36) zeros36.toArray rfl rfl HZ.out zeros36_size (CSet.gapsTo_len n lo hi 36) ?_)
      intro W3 hG3 hb3 hz3
      have hf := hb3.bel HB.out (Nat.le_refl _)
      have HF := Lib.hid hf
      have HG3 := Lib.hid hG3
      clear hf hG3 hb3 hz3
      gi_wp2_with fail
      exact bodyPost_ret (v := gv (CSet.gapsTo n lo hi 36)) (by simp only [results, Try.results55]; simp; exact run_asLoad HG3.out rfl) rfl ⟨by rw [CSet.gapsTo_all], HF.out⟩

end Go.Proofs.Ytpkadofgmhninaa
