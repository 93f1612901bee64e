/- mapped, at two types; the heats and stretches of a set. -/
import Derived.Test.YtpkadofgmhninaaConcat
namespace Go.Proofs.Ytpkadofgmhninaa
open Go.RowKit

theorem ownsRow_bel {w A B : World} {e : TypeId} {size n : Nat} {v : Value} {xs : List Value} (h : A.ownsRow w.heap.size e size v n xs) (hb : Bel A B) : B.ownsRow w.heap.size e size v n xs := by
  obtain ⟨h1, h2 | ⟨g, cap, cur, r1, r2, r3, r⟩⟩ := h
  · exact ⟨h1, .inl h2⟩
  · exact ⟨h1, .inr ⟨g, cap, cur, r1, r2, (hb.block g (Array.getElem?_eq_some_iff.1 r3).1).trans r3, r⟩⟩

theorem take_map_snoc {α : Type} (f : α → List Value) (xs : List α) (k : Nat) (hk : k < xs.length) : (xs.take (k + 1)).flatMap f = (xs.take k).flatMap f ++ f xs[k] := by
  rw [List.take_succ_eq_append_getElem hk, List.flatMap_append]; simp

set_option maxHeartbeats 800000 in
set_option maxRecDepth 100000 in
theorem mapped_int (g : FuncId) (lb : Array Value) (eg : ∀ args w, (callFunc g args).run Try.prog w = .ok (.enter g args) w) (v : Value) (xs : List Int) (f : Int → Int) (w : World) (h : Ints w v xs) (hlen : xs.length ≤ 1000000)
    (hf : ∀ x, x ∈ xs → ∀ W, Bel w W → Calls Try.prog g (#[.int .i64 x] ++ lb) W fun e W' => e = .returned (.int .i64 (f x)) ∧ Bel W W') :
    Calls Try.prog 66 #[v, .func (.func g) #[] lb] w fun e w' => ∃ r, e = .returned r ∧ Ints w' r (xs.map f) ∧ Bel w w' := by
  obtain ⟨i0, hi, hz0, hz1, hz2⟩ := info_parts Try.info3
  obtain ⟨a, c, rfl, h1, h2, -, h3⟩ := h
  unfold maxLen at h2
  have hst : ∀ k, k < xs.length → (xs.take (k + 1)).map (fun x => Value.int .i64 (f x)) = (xs.take k).map (fun x => Value.int .i64 (f x)) ++ [.int .i64 (f (xs.getD k 0))] := fun k hk => by
    rw [List.take_succ_eq_append_getElem hk, List.map_append, getD_lt _ _ _ hk]; rfl
  have HST := Lib.hid hst
  have HF := Lib.hid hf
  clear hst hf
  have m1 : i0.bytes * xs.length ≤ 281474976710656 := by rw [hz2]; omega
  have m2 : xs.length ≤ maxLen := by unfold maxLen; omega
  go_enter Try.func66, Try.ntmps66
  go_wp2_with (at_make; refine wpList_make_own _ rfl _ _ 32 rfl w.heap.size 3 i0 (.int .i64 0) 1 Try.underlying32 hi hz0 hz1 _ _ _ xs.length rfl rfl rfl m1 m2 (Nat.le_refl _) ?_; intro w1 ho1 hg1; have HO1 := Lib.hid ho1; have HB1 := Lib.hid ((Bel.refl w).grown hg1 (fun _ e => by cases e)); clear ho1 hg1)
  go_loopw [5, 13] (fun r i wr => ∃ k : Nat, k ≤ xs.length ∧ i = .int .i64 k ∧ wr.ownsRow w.heap.size 3 1 r k ((xs.take k).map (fun x => Value.int .i64 (f x))) ∧ Bel w wr) (fun _ i _ => xs.length - (intOf i).toNat)
  case atStart => exact ⟨0, Nat.zero_le _, rfl, HO1.out, HB1.out⟩
  case round =>
    obtain ⟨k, hk, rfl, ho, hb⟩ := hrel
    by_cases hlt : k < xs.length
    · obtain ⟨b, off, rfl, hcell⟩ := h3 k hlt
      have hcell' := hb.cell hcell
      have hc := HF.out (xs.getD k 0) (by rw [getD_lt _ _ _ hlt]; exact List.getElem_mem hlt) wr hb
      have HS := Lib.hid (HST.out k hlt)
      have HO := Lib.hid ho
      have HB := Lib.hid hb
      clear h3 hcell ho hb
      generalize xs.getD k 0 = x at *
      go_wp2_with fail
      refine hc.mono ?_
      rintro e w2 ⟨rfl, hb2⟩
      have HB2 := Lib.hid hb2
      clear hb2 hc
      have hm1 : k + 1 ≤ maxLen := by unfold maxLen; omega
      have hm2 : (k + 1) * 8 ≤ 140737488355328 := by omega
      have hm3 : w.heap.size ≤ (w2.alloc (.cells #[.int .i64 (f x)] 3)).heap.size := by have := HB.out.size; have := HB2.out.size; simp; omega
      go_wp2_with (at_builtin; refine wpList_append_own _ rfl _ _ 32 rfl w.heap.size 3 i0 (.int .i64 0) 1 8 Try.underlying32 hi hz0 hz1 hz2 rfl (by decide) _ _ _ rfl ((ownsRow_bel HO.out HB2.out).alloc _) ⟨w2.heap.size, 0, none⟩ 1 1 [.int .i64 (f x)] rfl rfl (cell_one_new _ _ _) (by simp [Value.oneCell']) hm1 hm2 hm3 ?_; intro v' w3 hown2 hgrow _; have HO2 := Lib.hid hown2; have HB3 := Lib.hid (((HB.out.trans HB2.out).alloc _).grown hgrow (fun k hk => (HO.out.lt k hk).1)); clear hown2 hgrow)
      go_roundw
      case rel => exact ⟨k + 1, by omega, by go_num, by rw [HS.out]; exact HO2.out, HB3.out⟩
      case measure => simp [intOf]; omega
    · obtain rfl : k = xs.length := by omega
      have HO := Lib.hid ho
      have HB := Lib.hid hb
      clear ho hb h3 hlt
      go_wp2
      go_ret
      refine ⟨_, rfl, ?_, HB.out⟩
      have h := HO.out
      rw [List.take_length] at h
      exact own_ints (base := w.heap.size) (by rw [List.length_map, List.map_map]; exact h)

end Go.Proofs.Ytpkadofgmhninaa
