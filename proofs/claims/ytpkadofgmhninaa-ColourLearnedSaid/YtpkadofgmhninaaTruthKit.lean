/- True heats and stretches, and the ends of all spans. -/
import Derived.Test.YtpkadofgmhninaaShelf
import Derived.Test.YtpkadofgmhninaaTruthMath
import Derived.Test.YtpkadofgmhninaaRightW
import Derived.Test.YtpkadofgmhninaaKnown
import Derived.Sort.CutIn
import Derived.Sort.BigQuietIn
namespace Go.Proofs.Ytpkadofgmhninaa
open Go.RowKit
attribute [local go_sem] Oper.semAt_some

/-- The true heats and stretches. -/
def Shelf.heats (x : Shelf) : List Nat := (x.row x.many).map B5.heat
def Shelf.stretches (x : Shelf) : List Nat := (x.row x.many).map B5.stretch
theorem row_getD (x : Shelf) {c : Nat} (f : B5 → Nat) (h : c < x.many) : ((x.row x.many).map f).getD c 0 = f (x.paints.getD c .none) := by
  unfold Shelf.row
  simp only [List.getD, List.getElem?_map, List.getElem?_range h, Option.map_some, Option.getD_some]
structure Truth (s : CSet) (H T : List Nat) : Prop where
  hlen : H.length = s.paints.length
  tlen : T.length = s.paints.length
  hb : ∀ c, H.getD c 0 ≤ 1000000
  tb : ∀ c, T.getD c 0 ≤ 1000000
  hin : ∀ c, c < s.paints.length → (s.paint c).hl ≤ ((H.getD c 0 : Nat) : Int) ∧ ((H.getD c 0 : Nat) : Int) ≤ (s.paint c).hh
  tin : ∀ c, c < s.paints.length → (s.paint c).sl ≤ ((T.getD c 0 : Nat) : Int) ∧ ((T.getD c 0 : Nat) : Int) ≤ (s.paint c).sh
theorem shelf_truth {x : Shelf} (h : x.Ok) : Truth x.set x.heats x.stretches := by
  have hl : x.set.paints.length = x.many := by simp [Shelf.set, Shelf.row_len]
  have out : ∀ (f : B5 → Nat) c, ¬ c < x.many → ((x.row x.many).map f).getD c 0 = 0 := fun f c hc => by
    rw [List.getD, List.getElem?_eq_none (by rw [List.length_map, Shelf.row_len]; omega)]; rfl
  refine ⟨by rw [hl]; simp [Shelf.heats, Shelf.row_len], by rw [hl]; simp [Shelf.stretches, Shelf.row_len], fun c => ?_, fun c => ?_, fun c hc => ?_, fun c hc => ?_⟩
  · unfold Shelf.heats
    by_cases hc : c < x.many
    · rw [row_getD x _ hc]; have := (h.paints c).1; unfold B5.heat; omega
    · rw [out _ c hc]; omega
  · unfold Shelf.stretches
    by_cases hc : c < x.many
    · rw [row_getD x _ hc]; unfold B5.stretch; omega
    · rw [out _ c hc]; omega
  · rw [hl] at hc
    unfold Shelf.heats
    rw [row_getD x _ hc, Shelf.paint_at hc]
    simp only [B5.paint]; omega
  · rw [hl] at hc
    unfold Shelf.stretches
    rw [row_getD x _ hc, Shelf.paint_at hc]
    simp only [B5.paint]; omega
theorem made_truth (x : Shelf) (hx : x.Ok) (v : Value) (w : World) (hv : ShelfV w v x) :
    Calls Try.prog 8 #[v] w fun e w' => ∃ sv hv tv, e = .returned (.tuple #[sv, hv, tv]) ∧ SetV w' sv x.set ∧ Cols w' hv x.heats ∧ Cols w' tv x.stretches ∧ Bel w w' :=
  (made_any x hx v w hv).mono fun e w' ⟨sv, hv, tv, e1, e2, e3, e4, e5⟩ => ⟨sv, hv, tv, e1, e2, by unfold Cols Shelf.heats; rw [List.map_map]; exact e3, by unfold Cols Shelf.stretches; rw [List.map_map]; exact e4, e5⟩

theorem B5s.bel {A B : World} (q : Bel A B) {v : Value} {bs : List B5} (h : B5s A v bs) : B5s B v bs := by
  obtain ⟨a, c, e, h1⟩ := h
  refine ⟨a, c, e, fun j hj => ?_⟩
  obtain ⟨b, off, e', k0, k1, k2, k3, k4⟩ := h1 j hj
  exact ⟨b, off, e', q.cell k0, q.cell k1, q.cell k2, q.cell k3, q.cell k4⟩
theorem B2s.bel {A B : World} (q : Bel A B) {v : Value} {bs : List (Nat × Nat)} (h : B2s A v bs) : B2s B v bs := by
  obtain ⟨a, c, e, h1⟩ := h
  refine ⟨a, c, e, fun j hj => ?_⟩
  obtain ⟨b, off, e', k0, k1⟩ := h1 j hj
  exact ⟨b, off, e', q.cell k0, q.cell k1⟩

def planBy (n : Nat) (bs : List Nat) : Rounds := laysUp bs (min n bs.length) 5
theorem planBy_ok (n : Nat) (bs : List Nat) : PlanOk n (planBy n bs) ∧ ∀ r, r ∈ planBy n bs → Asc n r := laysUp_ok bs (Nat.min_le_left _ _) 5
theorem planBy_len (n : Nat) (bs : List Nat) : (planBy n bs).length ≤ 1000 := Nat.le_trans (laysUp_len bs _ 5) (by omega)
theorem Byts.bel {A B : World} (q : Bel A B) {v : Value} {bs : List Nat} (h : Byts A v bs) : Byts B v bs := by
  obtain ⟨a, c, e, h1, h2, h3, h4⟩ := h
  exact ⟨a, c, e, h1, h2, fun j hj => by
    obtain ⟨b, off, e', k0⟩ := h3 j hj
    exact ⟨b, off, e', q.cell k0⟩, h4⟩

theorem rndN_sl' {base : Nat} {W : World} {v : Value} {p : Rounds} (h : RndN base W v p) : ∃ a c, v = .slice a p.length c := by
  obtain ⟨vs, -, ho, -⟩ := h
  exact own_sln ho
theorem ends_bound {s : CSet} (hs : s.Ok) (y c : Nat) : (endsH s y s.paints.length).getD c 0 ≤ 1000000 ∧ (endsT s y s.paints.length).getD c 0 ≤ 1000000 := by
  by_cases hc : c < s.paints.length
  · have e1 : (endsH s y s.paints.length).getD c 0 = endH s y c := by simp [endsH, List.getD, List.getElem?_range hc]
    have e2 : (endsT s y s.paints.length).getD c 0 = endT s y c := by simp [endsT, List.getD, List.getElem?_range hc]
    rw [e1, e2]
    have := CSet.end_in hs y hc
    have := hs.paints c hc
    omega
  · constructor
    · rw [List.getD, List.getElem?_eq_none (by rw [endsH_len]; omega)]; decide
    · rw [List.getD, List.getElem?_eq_none (by rw [endsT_len]; omega)]; decide
/-- What Heats has answered. -/
def SafeO (s : CSet) (p : Rounds) (v : Value) (er : Int) (W : World) : Prop := if s.surely p then er = 0 ∧ Spans W v p.length (s.lowAt p) (s.highAt p) else er = 9 ∧ v = .slice none 0 0
theorem SafeO.bel {s : CSet} {p : Rounds} {v : Value} {er : Int} {A B : World} (h : SafeO s p v er A) (q : Bel A B) : SafeO s p v er B := by
  unfold SafeO at h ⊢
  split
  · rename_i e; rw [if_pos e] at h; exact ⟨h.1, h.2.bel q⟩
  · rename_i e; rw [if_neg e] at h; exact h
/-- Right at the ends of one number. -/
def endR (s : CSet) (p : Rounds) (y : Nat) : Bool := CSet.rightB s p (fun c => (((endsH s y s.paints.length).getD c 0 : Nat) : Int)) (fun c => (((endsT s y s.paints.length).getD c 0 : Nat) : Int))
def endsR (s : CSet) (p : Rounds) (k : Nat) : Bool := (List.range k).all (endR s p)
theorem endsR_succ (s : CSet) (p : Rounds) (k : Nat) : endsR s p (k + 1) = (endsR s p k && endR s p k) := by
  unfold endsR; rw [List.range_succ, List.all_append]; simp
theorem all_mem_congr {α : Type} {l : List α} {f g : α → Bool} (h : ∀ a, a ∈ l → f a = g a) : l.all f = l.all g := by
  rw [Bool.eq_iff_iff, List.all_eq_true, List.all_eq_true]
  exact ⟨fun k a ha => by rw [← h a ha]; exact k a ha, fun k a ha => by rw [h a ha]; exact k a ha⟩
/-- Only the heats and stretches of the colours of a set count. -/
theorem right_congr {s : CSet} {p : Rounds} {f g t u : Nat → Int} (hf : ∀ c, c < s.paints.length → f c = g c) (ht : ∀ c, c < s.paints.length → t c = u c) : CSet.rightB s p f t = CSet.rightB s p g u := by
  unfold CSet.rightB
  congr 2
  refine all_mem_congr fun a ha => ?_
  refine all_mem_congr fun b hb => ?_
  have h1 := hf a (List.mem_range.1 ha)
  have h2 := hf b (List.mem_range.1 hb)
  have h3 := ht a (List.mem_range.1 ha)
  have h4 := ht b (List.mem_range.1 hb)
  unfold CSet.okPair
  rw [h1, h2, h3, h4]
theorem surely_iff {s : CSet} (hs : s.Ok) {p : Rounds} (hp : PlanOk s.paints.length p) : s.surely p = endsR s p 1024 := by
  have e : ∀ y, endR s p y = CSet.rightB s p (fun c => (endH s y c : Int)) (fun c => (endT s y c : Int)) := fun y =>
    right_congr (fun c hc => by simp [endsH, List.getD, List.getElem?_range hc]) (fun c hc => by simp [endsT, List.getD, List.getElem?_range hc])
  rw [Bool.eq_iff_iff]
  constructor
  · intro h
    unfold endsR
    rw [List.all_eq_true]
    intro y _
    rw [e y]
    exact CSet.surely_in hs hp h _ _ (fun c hc => ⟨(CSet.end_in hs y hc).1, (CSet.end_in hs y hc).2.1⟩) (fun c hc => ⟨(CSet.end_in hs y hc).2.2.1, (CSet.end_in hs y hc).2.2.2⟩)
  · intro h
    unfold endsR at h
    rw [List.all_eq_true] at h
    exact CSet.surely_ends hs hp (fun y hy => by rw [← e y]; exact h y (List.mem_range.2 hy))

end Go.Proofs.Ytpkadofgmhninaa
