/- ColourBest: of any colours in bytes, any lists of bytes and any byte the function returns true, and what it was handed reads as it did. No conditions. -/
import Derived.Test.YtpkadofgmhninaaBest
import Derived.Test.YtpkadofgmhninaaShelf
import Derived.WalkKit
import Derived.ProofKit
import Derived.OpenShut
import Derived.ShutString
import Derived.ChangeOld
import Derived.Below
namespace Go.Proofs.Ytpkadofgmhninaa
open Go.ChangeShapes Go.WideShapes Go.ChangeAt Go.RowKit Go.Deep

theorem Try.ownKnob : ownKnob Try.prog.godebug = none := by kernel_rfl
theorem Try.laidOut : laidOutB Try.prog = true := by kernel_rfl

theorem okWide_sl {P : Program} {w : World} {r : Reach} {base : Nat} {t e : TypeId} {v : Value} (ht : P.underlying t = some (.slice e)) (h : Value.okWide P w r base t v) : ∃ a n c, v = .slice a n c := by
  simp only [Value.okWide, ht, Cell.okWide] at h
  cases v <;> simp_all [Cell.ok]

theorem Try.cells27' : Try.prog.cellsOf 27 = 1 := by kernel_rfl
section
variable {H : Type} {enc : TypeId × Value → H} {w : World} {base : Nat} {spare : Nat → Bool} {held : Bool}
theorem bytsL_read {fuel : Nat} {cs : List Value} {x : DataW H × List MemPlace} (h : DataW.trod enc Try.prog w base spare held fuel 59 cs = some x) :
    ∃ (v : Value) (bss : List (List Nat)), cs = [v] ∧ BytsL w v bss := by
  rcases open_slice1 Try.underlying59 Try.cells27' h with ⟨rfl, -⟩ | ⟨a, len, cap, m, n, V, D, Pl, rfl, _, hl, hm, hmm, _, hi⟩
  · exact ⟨_, [], rfl, none, 0, rfl, Nat.le_refl _, Nat.zero_le _, fun j hj => absurd hj (Nat.not_lt_zero _)⟩
  · have hlm : len ≤ m := by rw [hmm]; split <;> omega
    have key : ∀ i, i < len → ∃ bs : List Nat, w.cell? (a.add i) = some (V i) ∧ Byts w (V i) bs := fun i hil => by
      obtain ⟨h1, h2⟩ := hi i (by omega)
      obtain ⟨v, bs, e, hb⟩ := byts_read h2
      injection e with e
      exact ⟨bs, h1, by rw [e]; exact hb⟩
    obtain ⟨U, hU⟩ : ∃ U : Nat → List Nat, ∀ i, i < len → w.cell? (a.add i) = some (V i) ∧ Byts w (V i) (U i) := by
      refine ⟨fun i => if hil : i < len then Classical.choose (key i hil) else [], fun i hil => ?_⟩
      simp only [dif_pos hil]
      exact Classical.choose_spec (key i hil)
    have hget : ∀ i, i < len → ((List.range len).map U).getD i [] = U i := fun i hil => by
      simp [List.getD, List.getElem?_map, List.getElem?_range hil]
    have hlen : ((List.range len).map U).length = len := by rw [List.length_map, List.length_range]
    refine ⟨_, (List.range len).map U, rfl, some a, cap, by rw [hlen], by rw [hlen]; exact hl, hm, fun j hj => ?_⟩
    rw [hlen] at hj
    rw [hget j hj]
    have k0 := hU j hj
    have h0 := World.cell?_spot (hU 0 (by omega)).1
    obtain ⟨b, off, spot⟩ := a
    have hs : spot = none := by simpa [Addr.add] using h0
    subst hs
    rw [addr_add] at k0
    exact ⟨b, off, V j, rfl, k0.1, k0.2⟩
end

set_option maxRecDepth 100000 in
theorem colourBest_lifted (os : Os) (started : os.Started) (H : Type) (enc : TypeId × Value → H) :
    ReturnsInHanded {} Try.checked os 4 .any (Rows.colourBestSpec.pre6 enc Try.prog Try.f4 Rows.colourBestRow.domain false) (Rows.colourBestSpec.post enc Try.prog Try.f4 false true false false) := by
  refine returnsInHanded_of_change (C := Try.checked) Try.ownKnob started (by kernel_rfl) Try.func4
    (ChangeSpec.witness6 (enc := enc) (C := Try.checked) false ⟨#[], #[.agg #[.int .u8 0, .int .u8 0, .slice none 0 0, .slice none 0 0], .slice none 0 0, .int .u8 0], []⟩ 8 (by kernel_rfl) (by kernel_rfl) (by kernel_rfl) (by kernel_rfl)) ?_
  intro W base args ds gs before hval0 hW hcnd _
  have hval : ∀ (j : Nat) t v, Try.f4.params[j]? = some t → args[j]? = some v → Value.okWide Try.prog W .any base t v := hval0
  have hW' := hW
  obtain ⟨p, q, hA0, hV, rfl, hfz, hnd⟩ := hW
  have hA : DataW.TrodAll enc Try.prog W 0 (fun _ => true) true Try.f4.params.toList args.toList ds p := hA0
  rw [Try.params4] at hA hval
  obtain ⟨v0, vs0, d0, ds0, p0, q0, hargs, rfl, rfl, h0, r0⟩ := trodAll_cons hA
  obtain ⟨v1, vs1, d1, ds1, p1, q1, rfl, rfl, rfl, h1, r1⟩ := trodAll_cons r0
  obtain ⟨v2, vs2, d2, ds2, p2, q2, rfl, rfl, rfl, h2, r2⟩ := trodAll_cons r1
  obtain ⟨rfl, rfl, rfl⟩ := trodAll_nil r2
  obtain rfl : args = #[v0, v1, v2] := by cases args; simp_all
  obtain ⟨rfl, rfl⟩ := trodVars_none hV
  have k0 := h0
  have lt0 : ∀ x ∈ p0, x.block < W.heap.size := by obtain ⟨m, hm⟩ := k0; exact DataW.trod_lt m _ _ _ hm
  obtain ⟨x, hx, hs⟩ := shelf_read (hval 0 26 v0 rfl rfl) h0
  have k1 := h1
  have lt1 : ∀ x ∈ p1, x.block < W.heap.size := by obtain ⟨m, hm⟩ := k1; exact DataW.trod_lt m _ _ _ hm
  obtain ⟨s0, bss, rfl, q0⟩ : ∃ s0 bss, v1 = s0 ∧ BytsL W s0 bss := by
    obtain ⟨fuel, hf⟩ := h1
    obtain ⟨s0, bss, e0, h0⟩ := bytsL_read hf
    have hv := okWide_sl Try.underlying59 (hval 1 59 v1 rfl rfl)
    obtain ⟨a, n, c, rfl⟩ := hv
    simp [Value.cells] at e0
    exact ⟨_, bss, rfl, by rw [e0]; exact h0⟩
  obtain ⟨a2, rfl, rfl, rfl, w2⟩ := open_int Try.underlying5 (hval 2 5 v2 rfl rfl) h2
  have hz : 0 ≤ a2 ∧ a2 < 256 := by
    have hw := w2
    simp only [Lit.wf, Bool.and_eq_true, decide_eq_true_eq] at hw
    have h1 : IntKind.u8.min = 0 := rfl
    have h2 : IntKind.u8.max = 255 := rfl
    rw [h1, h2] at hw
    omega
  obtain ⟨y, rfl⟩ : ∃ y : Nat, a2 = (y : Int) := ⟨a2.toNat, by omega⟩
  clear hA0 hval0
  refine (best_any x hx bss y (by omega) v0 v1 W hs q0).mono fun e W' ⟨he, bel⟩ => ?_
  subst he
  have bel' : Below W.heap.size W W' := bel
  exact ⟨_, rfl, _, _, _, [], _, [], hW', trodAll_mk1 (shut_bool Try.underlying4 _), (trodAll_cons_mk (Below.trod Try.laidOut (by kernel_rfl) (of_decide_eq_true (by kernel_rfl)) k0 bel' lt0) (trodAll_cons_mk (Below.trod Try.laidOut (by kernel_rfl) (of_decide_eq_true (by kernel_rfl)) k1 bel' lt1) (trodAll_cons_mk (shut_int Try.underlying5 w2) trodAll_mk0))), rfl, bel'.frame _, fun h => by cases h⟩

theorem colourBest_over : Rows.colourBestRow.holds Try.pinned (OpenSpec.ofChange Rows.colourBestSpec) :=
  OpenClaim.holds_of_wide 4 Try.f4 rfl rfl rfl rfl rfl rfl rfl ⟨rfl, rfl, rfl, rfl, rfl⟩ rfl rfl rfl rfl rfl (by kernel_rfl) Try.func4 (by kernel_rfl)
    (of_decide_eq_true (by kernel_rfl)) (by unfold Func.isWrapper; first | (rw [if_pos (by decide +kernel)]; kernel_rfl) | (rw [if_neg (by decide +kernel)]; exact ⟨rfl, rfl⟩))
    (fun os started H enc _ => colourBest_lifted os started H enc)

/-- The statement. -/
theorem colourBest_holds : Rows.ColourBestSaid := colourBest_over
#print axioms colourBest_holds
end Go.Proofs.Ytpkadofgmhninaa
