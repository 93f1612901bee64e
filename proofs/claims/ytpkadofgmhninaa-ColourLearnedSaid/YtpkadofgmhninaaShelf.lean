/- Colours in bytes, as they are read out of memory. Three lists of bytes, as they are read out of memory. -/
import Derived.Test.YtpkadofgmhninaaMade
import Derived.Deep.Slices
import Derived.OpenShut
import Derived.ProofKit
import Derived.ShutString
import Derived.ChangeOld
namespace Go.Proofs.Ytpkadofgmhninaa
open Go.ChangeShapes Go.WideShapes Go.ChangeAt Go.RowKit Go.Deep

theorem Try.cells5 : Try.prog.cellsOf 5 = 1 := by kernel_rfl
theorem Try.cells22 : Try.prog.cellsOf 22 = 2 := by kernel_rfl
theorem Try.cells23 : Try.prog.cellsOf 23 = 1 := by kernel_rfl
theorem Try.cells24 : Try.prog.cellsOf 24 = 1 := by kernel_rfl
theorem Try.cells26 : Try.prog.cellsOf 26 = 4 := by kernel_rfl
theorem Try.cells82 : Try.prog.cellsOf 82 = 5 := by kernel_rfl

section
variable {H : Type} {enc : TypeId × Value → H} {w : World} {base : Nat} {spare : Nat → Bool} {held : Bool}

theorem four_of : ∀ l : List Value, l.length = 4 → ∃ c0 c1 c2 c3, l = [c0, c1, c2, c3]
  | [c0, c1, c2, c3], _ => ⟨c0, c1, c2, c3, rfl⟩

/-- An array of bytes. -/
theorem bytes_read {t : TypeId} {n fuel : Nat} {cs : List Value} {x : DataW H × List MemPlace} (ht : Try.prog.underlying t = some (.array n 5)) (hc : Try.prog.cellsOf t = n) (h : DataW.trod enc Try.prog w base spare held fuel t cs = some x) :
    cs.length = n ∧ ∀ i, i < n → ∃ b : Nat, b < 256 ∧ cs[i]? = some (.int .u8 (b : Int)) := by
  obtain ⟨xs, m, _, _, hl, hx, hel⟩ := DataW.trod_array ht h
  rw [hc] at hl
  refine ⟨hl, fun i hi => ?_⟩
  have hE := hel i hi
  rw [Try.cells5, Nat.mul_one, List.getElem?_eq_getElem (by omega)] at hE
  obtain ⟨z, e1, _, hw⟩ := DataW.trod_int Try.underlying5 hE
  have e2 : cs[i]? = some (.int .u8 z) := by
    have h0 : ((cs.drop i).take 1)[0]? = some (.int .u8 z) := by rw [e1]; rfl
    simpa using h0
  have hz : 0 ≤ z ∧ z < 256 := by
    simp only [Lit.wf, Bool.and_eq_true, decide_eq_true_eq] at hw
    have h1 : IntKind.u8.min = 0 := rfl
    have h2 : IntKind.u8.max = 255 := rfl
    rw [h1, h2] at hw
    omega
  exact ⟨z.toNat, by omega, by rw [Int.toNat_of_nonneg hz.1]; exact e2⟩

/-- A slice of five bytes each. -/
theorem b5s_read {fuel : Nat} {cs : List Value} {x : DataW H × List MemPlace} (h : DataW.trod enc Try.prog w base spare held fuel 23 cs = some x) :
    ∃ (v : Value) (bs : List B5), cs = [v] ∧ B5s w v bs ∧ ∀ i, (bs.getD i .none).Ok := by
  have hno : B5.none.Ok := by refine ⟨?_, ?_, ?_, ?_, ?_⟩ <;> decide
  rcases open_slice Try.underlying23 h with ⟨rfl, -⟩ | ⟨a, len, cap, m, n, D, Pl, rfl, _, hl, _, hmm, _, hi⟩
  · exact ⟨_, [], rfl, ⟨none, 0, rfl, fun j hj => absurd hj (Nat.not_lt_zero _)⟩, fun i => by simp only [List.getD, List.getElem?_nil, Option.getD_none]; exact hno⟩
  · have hlm : len ≤ m := by rw [hmm]; split <;> omega
    have key : ∀ i, i < len → ∃ b : B5, b.Ok ∧ w.cell? (a.add (i * 5)) = some (.int .u8 (b.b0 : Int)) ∧ w.cell? (a.add (i * 5 + 1)) = some (.int .u8 (b.b1 : Int)) ∧ w.cell? (a.add (i * 5 + 2)) = some (.int .u8 (b.b2 : Int)) ∧ w.cell? (a.add (i * 5 + 3)) = some (.int .u8 (b.b3 : Int)) ∧ w.cell? (a.add (i * 5 + 4)) = some (.int .u8 (b.b4 : Int)) := fun i hil => by
      obtain ⟨cs', hc, ht'⟩ := hi i (by omega)
      rw [Try.cells82] at hc
      obtain ⟨-, -, hat⟩ := World.cells?_some hc
      obtain ⟨-, hb⟩ := bytes_read Try.underlying82 Try.cells82 ht'
      obtain ⟨b0, l0, e0⟩ := hb 0 (by omega)
      obtain ⟨b1, l1, e1⟩ := hb 1 (by omega)
      obtain ⟨b2, l2, e2⟩ := hb 2 (by omega)
      obtain ⟨b3, l3, e3⟩ := hb 3 (by omega)
      obtain ⟨b4, l4, e4⟩ := hb 4 (by omega)
      have q := fun j (hj : j < 5) => hat j hj
      simp only [Go.Deep.add_add] at q
      exact ⟨⟨b0, b1, b2, b3, b4⟩, ⟨l0, l1, l2, l3, l4⟩, (q 0 (by omega)).trans e0, (q 1 (by omega)).trans e1, (q 2 (by omega)).trans e2, (q 3 (by omega)).trans e3, (q 4 (by omega)).trans e4⟩
    obtain ⟨V, hV⟩ : ∃ V : Nat → B5, ∀ i, i < len → (V i).Ok ∧ w.cell? (a.add (i * 5)) = some (.int .u8 ((V i).b0 : Int)) ∧ w.cell? (a.add (i * 5 + 1)) = some (.int .u8 ((V i).b1 : Int)) ∧ w.cell? (a.add (i * 5 + 2)) = some (.int .u8 ((V i).b2 : Int)) ∧ w.cell? (a.add (i * 5 + 3)) = some (.int .u8 ((V i).b3 : Int)) ∧ w.cell? (a.add (i * 5 + 4)) = some (.int .u8 ((V i).b4 : Int)) := by
      refine ⟨fun i => if hil : i < len then Classical.choose (key i hil) else .none, fun i hil => ?_⟩
      simp only [dif_pos hil]
      exact Classical.choose_spec (key i hil)
    have hget : ∀ i, i < len → ((List.range len).map V).getD i .none = V i := fun i hil => by
      simp [List.getD, List.getElem?_map, List.getElem?_range hil]
    refine ⟨_, (List.range len).map V, rfl, ⟨some a, cap, by rw [List.length_map, List.length_range], fun j hj => ?_⟩, fun i => ?_⟩
    · rw [List.length_map, List.length_range] at hj
      rw [hget j hj]
      obtain ⟨-, k0, k1, k2, k3, k4⟩ := hV j hj
      obtain ⟨b, off, spot⟩ := a
      have hs : spot = none := by
        have h0 := World.cell?_spot (hV 0 (by omega)).2.1
        simpa [Addr.add] using h0
      subst hs
      simp only [addr_add] at k0 k1 k2 k3 k4
      exact ⟨b, off, rfl, k0, k1, k2, k3, k4⟩
    · by_cases hil : i < len
      · rw [hget i hil]; exact (hV i hil).1
      · rw [List.getD, List.getElem?_eq_none (by rw [List.length_map, List.length_range]; omega)]; exact hno

/-- A slice of two bytes each. -/
theorem b2s_read {fuel : Nat} {cs : List Value} {x : DataW H × List MemPlace} (h : DataW.trod enc Try.prog w base spare held fuel 24 cs = some x) :
    ∃ (v : Value) (bs : List (Nat × Nat)), cs = [v] ∧ B2s w v bs ∧ ∀ i, (bs.getD i (0, 0)).1 < 256 ∧ (bs.getD i (0, 0)).2 < 256 := by
  rcases open_slice Try.underlying24 h with ⟨rfl, -⟩ | ⟨a, len, cap, m, n, D, Pl, rfl, _, hl, _, hmm, _, hi⟩
  · exact ⟨_, [], rfl, ⟨none, 0, rfl, fun j hj => absurd hj (Nat.not_lt_zero _)⟩, fun i => by simp⟩
  · have hlm : len ≤ m := by rw [hmm]; split <;> omega
    have key : ∀ i, i < len → ∃ b : Nat × Nat, (b.1 < 256 ∧ b.2 < 256) ∧ w.cell? (a.add (i * 2)) = some (.int .u8 (b.1 : Int)) ∧ w.cell? (a.add (i * 2 + 1)) = some (.int .u8 (b.2 : Int)) := fun i hil => by
      obtain ⟨cs', hc, ht'⟩ := hi i (by omega)
      rw [Try.cells22] at hc
      obtain ⟨-, -, hat⟩ := World.cells?_some hc
      obtain ⟨-, hb⟩ := bytes_read Try.underlying22 Try.cells22 ht'
      obtain ⟨b0, l0, e0⟩ := hb 0 (by omega)
      obtain ⟨b1, l1, e1⟩ := hb 1 (by omega)
      have q := fun j (hj : j < 2) => hat j hj
      simp only [Go.Deep.add_add] at q
      exact ⟨(b0, b1), ⟨l0, l1⟩, (q 0 (by omega)).trans e0, (q 1 (by omega)).trans e1⟩
    obtain ⟨V, hV⟩ : ∃ V : Nat → Nat × Nat, ∀ i, i < len → ((V i).1 < 256 ∧ (V i).2 < 256) ∧ w.cell? (a.add (i * 2)) = some (.int .u8 ((V i).1 : Int)) ∧ w.cell? (a.add (i * 2 + 1)) = some (.int .u8 ((V i).2 : Int)) := by
      refine ⟨fun i => if hil : i < len then Classical.choose (key i hil) else (0, 0), fun i hil => ?_⟩
      simp only [dif_pos hil]
      exact Classical.choose_spec (key i hil)
    have hget : ∀ i, i < len → ((List.range len).map V).getD i (0, 0) = V i := fun i hil => by
      simp [List.getD, List.getElem?_map, List.getElem?_range hil]
    refine ⟨_, (List.range len).map V, rfl, ⟨some a, cap, by rw [List.length_map, List.length_range], fun j hj => ?_⟩, fun i => ?_⟩
    · rw [List.length_map, List.length_range] at hj
      rw [hget j hj]
      obtain ⟨-, k0, k1⟩ := hV j hj
      obtain ⟨b, off, spot⟩ := a
      have hs : spot = none := by
        have h0 := World.cell?_spot (hV 0 (by omega)).2.1
        simpa [Addr.add] using h0
      subst hs
      simp only [addr_add] at k0 k1
      exact ⟨b, off, rfl, k0, k1⟩
    · by_cases hil : i < len
      · rw [hget i hil]; exact (hV i hil).1
      · rw [List.getD, List.getElem?_eq_none (by rw [List.length_map, List.length_range]; omega)]; exact ⟨by decide, by decide⟩

set_option maxRecDepth 100000 in
/-- Colours in bytes, by value. -/
theorem shelf_read {r : Reach} {b0 : Nat} {v : Value} {d : DataW H} {p : List MemPlace} (hv : Value.okWide Try.prog w r b0 26 v) (h : DataW.Trod enc Try.prog w base spare held 26 v d p) : ∃ x : Shelf, x.Ok ∧ ShelfV w v x := by
  obtain ⟨cs, rfl, hsz⟩ := okWide_struct Try.underlying26 hv
  rw [Try.cells26] at hsz
  obtain ⟨fuel, hf⟩ := h
  obtain ⟨xs, n, _, _, hl, hxl, hel⟩ := DataW.trod_struct Try.underlying26 hf
  have hxl' : xs.length = 3 := hxl
  obtain ⟨l⟩ := cs
  obtain ⟨c0, c1, c2, c3, rfl⟩ := four_of l hsz
  have f0 := hel 0 _ rfl
  have f1 := hel 1 _ rfl
  have f2 := hel 2 _ rfl
  rw [List.getElem?_eq_getElem (by omega)] at f0 f1 f2
  obtain ⟨-, hb⟩ := bytes_read Try.underlying22 Try.cells22 f0
  obtain ⟨y0, l0, e0⟩ := hb 0 (by omega)
  obtain ⟨y1, l1, e1⟩ := hb 1 (by omega)
  obtain ⟨v1, bs, e2, h2, h2o⟩ := b5s_read f1
  obtain ⟨v2, es, e3, h3, h3o⟩ := b2s_read f2
  simp [Value.cells, Try.cells22, Try.cells23, Try.cells24] at e0 e1 e2 e3
  subst e0 e1 e2 e3
  exact ⟨⟨y0, y1, bs, es⟩, ⟨l0, l1, h2o, h3o⟩, _, _, rfl, h2, h3⟩
end

end Go.Proofs.Ytpkadofgmhninaa
namespace Go.Proofs.Ytpkadofgmhninaa
open Go.ChangeShapes Go.WideShapes Go.ChangeAt Go.RowKit Go.Deep

theorem Try.cells27 : Try.prog.cellsOf 27 = 1 := by kernel_rfl
theorem Try.cells72 : Try.prog.cellsOf 72 = 3 := by kernel_rfl

section
variable {H : Type} {enc : TypeId × Value → H} {w : World} {base : Nat} {spare : Nat → Bool} {held : Bool}
theorem byts_read {fuel : Nat} {cs : List Value} {x : DataW H × List MemPlace} (h : DataW.trod enc Try.prog w base spare held fuel 27 cs = some x) :
    ∃ (v : Value) (bs : List Nat), cs = [v] ∧ Byts w v bs := by
  rcases open_slice1 Try.underlying27 Try.cells5 h with ⟨rfl, -⟩ | ⟨a, len, cap, m, n, V, D, Pl, rfl, _, hl, hm, hmm, _, hi⟩
  · exact ⟨_, [], rfl, none, 0, rfl, Nat.le_refl _, Nat.zero_le _, fun j hj => absurd hj (Nat.not_lt_zero _), fun j => by simp⟩
  · have hlm : len ≤ m := by rw [hmm]; split <;> omega
    have key : ∀ i, i < len → ∃ b : Nat, b < 256 ∧ w.cell? (a.add i) = some (.int .u8 (b : Int)) := fun i hil => by
      obtain ⟨h1, h2⟩ := hi i (by omega)
      obtain ⟨z, e1, _, hw⟩ := DataW.trod_int Try.underlying5 h2
      have e2 : V i = .int .u8 z := by simpa using e1
      have hz : 0 ≤ z ∧ z < 256 := by
        simp only [Lit.wf, Bool.and_eq_true, decide_eq_true_eq] at hw
        have h1 : IntKind.u8.min = 0 := rfl
        have h2 : IntKind.u8.max = 255 := rfl
        rw [h1, h2] at hw
        omega
      exact ⟨z.toNat, by omega, by rw [Int.toNat_of_nonneg hz.1, ← e2]; exact h1⟩
    obtain ⟨U, hU⟩ : ∃ U : Nat → Nat, ∀ i, i < len → U i < 256 ∧ w.cell? (a.add i) = some (.int .u8 (U i : Int)) := by
      refine ⟨fun i => if hil : i < len then Classical.choose (key i hil) else 0, fun i hil => ?_⟩
      simp only [dif_pos hil]
      exact Classical.choose_spec (key i hil)
    have hget : ∀ i, i < len → ((List.range len).map U).getD i 0 = U i := fun i hil => by
      simp [List.getD, List.getElem?_map, List.getElem?_range hil]
    have hlen : ((List.range len).map U).length = len := by rw [List.length_map, List.length_range]
    refine ⟨_, (List.range len).map U, rfl, some a, cap, by rw [hlen], by rw [hlen]; exact hl, hm, fun j hj => ?_, fun j => ?_⟩
    · rw [hlen] at hj
      rw [hget j hj]
      have k0 := (hU j hj).2
      have h0 := World.cell?_spot (hU 0 (by omega)).2
      obtain ⟨b, off, spot⟩ := a
      have hs : spot = none := by simpa [Addr.add] using h0
      subst hs
      rw [addr_add] at k0
      exact ⟨b, off, rfl, k0⟩
    · by_cases hil : j < len
      · rw [hget j hil]; exact (hU j hil).1
      · rw [List.getD, List.getElem?_eq_none (by rw [hlen]; omega)]; decide
theorem three_of : ∀ l : List Value, l.length = 3 → ∃ c0 c1 c2, l = [c0, c1, c2]
  | [c0, c1, c2], _ => ⟨c0, c1, c2, rfl⟩
set_option maxRecDepth 100000 in
theorem lists_read {v : Value} {d : DataW H} {p : List MemPlace} (hv : ∃ cs, v = .agg cs) (h : DataW.Trod enc Try.prog w base spare held 72 v d p) :
    ∃ s0 s1 s2 b0 b1 b2, v = .agg #[s0, s1, s2] ∧ Byts w s0 b0 ∧ Byts w s1 b1 ∧ Byts w s2 b2 := by
  obtain ⟨cs, rfl⟩ := hv
  obtain ⟨fuel, hf⟩ := h
  obtain ⟨xs, n, _, _, hl, hxl, hel⟩ := DataW.trod_array Try.underlying72 hf
  rw [Try.cells72] at hl
  obtain ⟨l⟩ := cs
  obtain ⟨c0, c1, c2, rfl⟩ := three_of l hl
  have f0 := hel 0 (by omega)
  have f1 := hel 1 (by omega)
  have f2 := hel 2 (by omega)
  rw [List.getElem?_eq_getElem (by omega)] at f0 f1 f2
  obtain ⟨s0, b0, e0, h0⟩ := byts_read f0
  obtain ⟨s1, b1, e1, h1⟩ := byts_read f1
  obtain ⟨s2, b2, e2, h2⟩ := byts_read f2
  simp [Value.cells, Try.cells27] at e0 e1 e2
  subst e0 e1 e2
  exact ⟨_, _, _, _, _, _, rfl, h0, h1, h2⟩
end

end Go.Proofs.Ytpkadofgmhninaa
