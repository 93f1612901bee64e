/- Slices that are written out. -/
import Derived.Test.YtpkadofgmhninaaPaints
namespace Go.Proofs.Ytpkadofgmhninaa
open Go.RowKit

theorem cols_row {W : World} {B n : Nat} {t : TypeId} {l : List Nat} {x : Array Value} (h : W.heap[B]? = some (.cells x t (0, 0))) (hx : x = (valsOf l).toArray) (hn : n = l.length) (hl : l.length ≤ 10) : Cols W (.slice (some ⟨B, 0, none⟩) n n) l := by
  subst hx hn
  refine ⟨some ⟨B, 0, none⟩, l.length, by rw [List.length_map], by rw [List.length_map]; exact Nat.le_refl _, by unfold maxLen; omega, nofun, fun i hi => ⟨B, 0, rfl, ?_⟩⟩
  rw [List.length_map] at hi
  rw [getD_map _ _ hi]
  simp only [World.cell?, h, Nat.zero_add]
  simp [valsOf, List.getD, List.getElem?_eq_getElem hi]
theorem cols_alloc (W : World) (t : TypeId) (l : List Nat) (x : Array Value) (B n : Nat) (hx : x = (valsOf l).toArray) (hn : n = l.length) (hl : l.length ≤ 10) (hB : W.heap.size = B) : Cols (W.alloc (.cells x t)) (.slice (some ⟨B, 0, none⟩) n n) l := by
  subst hB
  exact cols_row (World.alloc_heap_new W _) hx hn hl
theorem rnds_row {W : World} {B n : Nat} {t : TypeId} {p : Rounds} {vs : List Value} (h : W.heap[B]? = some (.cells vs.toArray t (0, 0))) (hn : n = p.length) (hv : vs.length = p.length) (hl : p.length ≤ 10) (hc : ∀ i, i < p.length → Cols W (vs.getD i undef) (p.getD i [])) : Rnds W (.slice (some ⟨B, 0, none⟩) n n) p := by
  subst hn
  refine ⟨some ⟨B, 0, none⟩, p.length, rfl, Nat.le_refl _, by unfold maxLen; omega, nofun, fun i hi => ⟨B, 0, vs.getD i undef, rfl, ?_, hc i hi⟩⟩
  simp only [World.cell?, h, Nat.zero_add]
  have : i < vs.length := by omega
  simp [List.getD, List.getElem?_eq_getElem this]
theorem rnds_three (W : World) (a b c : List Nat) (x y z : Array Value) (na nb nc B : Nat) (hx : x = (valsOf a).toArray) (hy : y = (valsOf b).toArray) (hz : z = (valsOf c).toArray) (ha : na = a.length) (hb : nb = b.length) (hc : nc = c.length) (la : a.length ≤ 10) (lb : b.length ≤ 10) (lc : c.length ≤ 10) (hB : W.heap.size = B) :
    Rnds ((((W.alloc (.cells x 3)).alloc (.cells y 3)).alloc (.cells z 3)).alloc (.cells #[.slice (some ⟨B, 0, none⟩) na na, .slice (some ⟨B + 1, 0, none⟩) nb nb, .slice (some ⟨B + 1 + 1, 0, none⟩) nc nc] 32)) (.slice (some ⟨B + 1 + 1 + 1, 0, none⟩) 3 3) [a, b, c] := by
  subst hB
  have e1 := cols_alloc W 3 a x _ na hx ha la rfl
  have e2 := cols_alloc (W.alloc (.cells x 3)) 3 b y (W.heap.size + 1) nb hy hb lb (World.size_alloc _ _)
  have e3 := cols_alloc ((W.alloc (.cells x 3)).alloc (.cells y 3)) 3 c z (W.heap.size + 1 + 1) nc hz hc lc (by rw [World.size_alloc, World.size_alloc])
  have e4 := World.alloc_heap_new (((W.alloc (.cells x 3)).alloc (.cells y 3)).alloc (.cells z 3)) (.cells #[.slice (some ⟨W.heap.size, 0, none⟩) na na, .slice (some ⟨W.heap.size + 1, 0, none⟩) nb nb, .slice (some ⟨W.heap.size + 1 + 1, 0, none⟩) nc nc] 32)
  rw [World.size_alloc, World.size_alloc, World.size_alloc] at e4
  refine rnds_row (vs := [.slice (some ⟨W.heap.size, 0, none⟩) na na, .slice (some ⟨W.heap.size + 1, 0, none⟩) nb nb, .slice (some ⟨W.heap.size + 1 + 1, 0, none⟩) nc nc]) e4 rfl rfl (by simp) (fun i hi => ?_)
  have : i = 0 ∨ i = 1 ∨ i = 2 := by simp at hi; omega
  rcases this with rfl | rfl | rfl
  · exact ((e1.bel ((Bel.refl _).alloc _)).bel ((Bel.refl _).alloc _)).bel ((Bel.refl _).alloc _)
  · exact (e2.bel ((Bel.refl _).alloc _)).bel ((Bel.refl _).alloc _)
  · exact e3.bel ((Bel.refl _).alloc _)
theorem rnds_two (W : World) (a b : List Nat) (x y : Array Value) (na nb B : Nat) (hx : x = (valsOf a).toArray) (hy : y = (valsOf b).toArray) (ha : na = a.length) (hb : nb = b.length) (la : a.length ≤ 10) (lb : b.length ≤ 10) (hB : W.heap.size = B) :
    Rnds (((W.alloc (.cells x 3)).alloc (.cells y 3)).alloc (.cells #[.slice (some ⟨B, 0, none⟩) na na, .slice (some ⟨B + 1, 0, none⟩) nb nb] 32)) (.slice (some ⟨B + 1 + 1, 0, none⟩) 2 2) [a, b] := by
  subst hB
  have e1 := cols_alloc W 3 a x _ na hx ha la rfl
  have e2 := cols_alloc (W.alloc (.cells x 3)) 3 b y (W.heap.size + 1) nb hy hb lb (World.size_alloc _ _)
  have e4 := World.alloc_heap_new ((W.alloc (.cells x 3)).alloc (.cells y 3)) (.cells #[.slice (some ⟨W.heap.size, 0, none⟩) na na, .slice (some ⟨W.heap.size + 1, 0, none⟩) nb nb] 32)
  rw [World.size_alloc, World.size_alloc] at e4
  refine rnds_row (vs := [.slice (some ⟨W.heap.size, 0, none⟩) na na, .slice (some ⟨W.heap.size + 1, 0, none⟩) nb nb]) e4 rfl rfl (by simp) (fun i hi => ?_)
  have : i = 0 ∨ i = 1 := by simp at hi; omega
  rcases this with rfl | rfl
  · exact (e1.bel ((Bel.refl _).alloc _)).bel ((Bel.refl _).alloc _)
  · exact e2.bel ((Bel.refl _).alloc _)
theorem plns_two {W : World} {v u : Value} {p q : Rounds} {t : TypeId} {B : Nat} (hp : Rnds W v p) (hq : Rnds W u q) (hB : W.heap.size = B) : Plns (W.alloc (.cells #[v, u] t)) (.slice (some ⟨B, 0, none⟩) 2 2) [p, q] := by
  subst hB
  refine ⟨_, 2, fun i => if i = 0 then v else u, rfl, Nat.le_refl _, by unfold maxLen; omega, nofun, fun i hi => ⟨W.heap.size, 0, rfl, ?_, ?_⟩⟩
  · have h := World.alloc_heap_new W (.cells #[v, u] t)
    have : i = 0 ∨ i = 1 := by simp at hi; omega
    simp only [World.cell?, h]
    rcases this with rfl | rfl <;> rfl
  · have : i = 0 ∨ i = 1 := by simp at hi; omega
    rcases this with rfl | rfl
    · exact hp.bel ((Bel.refl _).alloc _)
    · exact hq.bel ((Bel.refl _).alloc _)
theorem plns_one' {w : World} {rv : Value} {p : Rounds} (h : Rnds w rv p) (t : TypeId) (B : Nat) (hB : w.heap.size = B) : Plns (w.alloc (.cells #[rv] t)) (.slice (some ⟨B, 0, none⟩) 1 1) [p] := by
  subst hB; exact plns_one h t

end Go.Proofs.Ytpkadofgmhninaa
