/- The colours of the document's examples. -/
import Derived.Test.YtpkadofgmhninaaTold
import Derived.Test.YtpkadofgmhninaaLeaf
namespace Go.Proofs.Ytpkadofgmhninaa
open Go.RowKit
attribute [local go_sem] Oper.semAt_some

def exSet (es : List (Nat × Nat)) : CSet := ⟨[⟨850, 870, 90, 100, 1, 5⟩, ⟨800, 820, 95, 105, 2, 4⟩, ⟨770, 790, 92, 98, 1, 3⟩, ⟨740, 755, 100, 106, 1, 2⟩], 30, 15, es⟩
theorem exSet_ok (es : List (Nat × Nat)) (h : es = [(3, 2)] ∨ es = []) : (exSet es).Ok := by
  have key : ∀ c, c < 4 → 0 ≤ ((exSet []).paint c).hl ∧ ((exSet []).paint c).hl ≤ ((exSet []).paint c).hh ∧ ((exSet []).paint c).hh ≤ 1000 ∧ 0 ≤ ((exSet []).paint c).sl ∧ ((exSet []).paint c).sl ≤ ((exSet []).paint c).sh ∧ ((exSet []).paint c).sh ≤ 200 ∧
    1 ≤ ((exSet []).paint c).coats ∧ ((exSet []).paint c).coats ≤ 3 ∧ 1 ≤ ((exSet []).paint c).most ∧ ((exSet []).paint c).most ≤ 12 := by decide
  rcases h with rfl | rfl
  · refine ⟨by decide, by decide, by decide, by decide, by decide, by decide, by decide, key, fun i hi => ?_⟩
    have : i = 0 := by simp [exSet] at hi; omega
    subst this; decide
  · exact ⟨by decide, by decide, by decide, by decide, by decide, by decide, by decide, key, fun i hi => absurd hi (by simp [exSet])⟩
theorem ex_plan3 : (exSet [(3, 2)]).planOf [0, 1, 2] = some [[0], [1], [2]] := by decide +kernel
theorem ex_plan4 : (exSet [(3, 2)]).planOf [0, 1, 2, 3] = none := by decide +kernel
theorem ex_long : (exSet []).planOf [0, 1, 2, 3] = some [[0], [1], [2], [3]] := by decide +kernel
theorem ex_fire : ((exSet [(3, 2)]).fire [[0], [1], [2]]).2 = 4 := by decide +kernel
theorem ex_fires : (List.range 4).map ((exSet [(3, 2)]).fire [[0], [1], [2]]).1 = [4, 3, 1, 0] := by decide +kernel
theorem ex_sure : (exSet [(3, 2)]).surely [[0], [1], [2]] = true := by decide +kernel
theorem ex_low : (List.range 3).map ((exSet [(3, 2)]).lowAt [[0], [1], [2]]) = [870, 820, 790] := by decide +kernel
theorem ex_high : (List.range 3).map ((exSet [(3, 2)]).highAt [[0], [1], [2]]) = [1000, 849, 799] := by decide +kernel
theorem ex_can4 : (exSet [(3, 2)]).can [0, 1, 2, 3] = false := by decide +kernel
theorem ex_bar : CSet.fewest (fun l => !(exSet [(3, 2)]).can l) [0, 1, 2, 3] = some [0, 3] := by decide +kernel
theorem ex_with2 : (exSet [(3, 2)]).withOf [0, 1] = [2, 3] := by decide +kernel
theorem ex_with3 : (exSet [(3, 2)]).withOf [0, 1, 2] = [] := by decide +kernel
theorem ex_is1 : (exSet [(3, 2)]).surely [[0, 1], [2]] = false := by decide +kernel
theorem ex_is2 : (exSet [(3, 2)]).truly [[[0, 1], [2]]] = true := by decide +kernel
def exH : List Int := (exSet [(3, 2)]).heatG [[[0, 1], [2]]]
def exS : List Int := (exSet [(3, 2)]).stretchG [[[0, 1], [2]]]
theorem ex_heat : (List.range 3).map (fun c => (-CSet.gat exH 5 c, CSet.gat exH c 5)) = [(850, 850), (820, 820), (770, 790)] := by decide +kernel
theorem ex_stretch : (-CSet.gat exS 5 0, CSet.gat exS 0 5) = (90, 100) := by decide +kernel
theorem ex_drop : (exSet [(3, 2)]).canDrop [[[1], [0]], [[0], [1]]] [] = false := by decide +kernel
theorem ex_wrong : CSet.fewest ((exSet [(3, 2)]).canDrop [[[1], [0]], [[0], [1]]]) (List.range 2) = some [0] := by decide +kernel

theorem heap_set {V : World} {B : Nat} {cur : Array Value} {t : TypeId} (h : V.heap[B]? = some (.cells cur t (0, 0))) (o : Nat) (v : Value) : (V.setCell ⟨B, o, none⟩ v).heap[B]? = some (.cells (cur.setIfInBounds o v) t (0, 0)) := by
  rw [Go.setCell_eq_setRow V B o _ _ _ v h, Go.setRow_heap V B _ _ _ _ h]
theorem Paints.but {A B : World} {m b off n c : Nat} {ps : List Paint} (hx : Paints A (.slice (some ⟨b, off, none⟩) n c) ps) (hm : b ≠ m) (h : But m A B) : Paints B (.slice (some ⟨b, off, none⟩) n c) ps := by
  obtain ⟨a, c', e, h1, h2, hz, h3⟩ := hx
  refine ⟨a, c', e, h1, h2, hz, fun i hi => ?_⟩
  obtain ⟨b', off', e', k0, k1, k2, k3, k4, k5⟩ := h3 i hi
  subst e'
  injection e with e1 e2 e3
  injection e1 with e1
  injection e1 with e1 e4
  subst e1
  exact ⟨_, _, rfl, h.cell hm k0, h.cell hm k1, h.cell hm k2, h.cell hm k3, h.cell hm k4, h.cell hm k5⟩

set_option maxRecDepth 100000 in
set_option maxHeartbeats 4000000 in
theorem paints_any (ev : Value) (es : List (Nat × Nat)) (w : World) (he : Pairs w ev es) :
    Calls Try.prog 36 #[ev] w fun e w' => ∃ v, e = .returned v ∧ SetV w' v (exSet es) ∧ Bel w w' := by
  have HE := Lib.hid he
  obtain ⟨ea, ec, rfl, -, -, -, -⟩ := he
  have z4 := C4.new w (.slice none 0 0) (.int .i64 0) (.int .i64 0) (.slice none 0 0) 31
  have h0 := World.alloc_heap_new w (.cells #[.slice none 0 0, .int .i64 0, .int .i64 0, .slice none 0 0] 31)
  have H0 := Lib.hid h0
  have B0 := Lib.hid ((Bel.refl w).alloc (.cells #[.slice none 0 0, .int .i64 0, .int .i64 0, .slice none 0 0] 31))
  have D0 := Lib.hid (Bel.refl (w.alloc (.cells #[.slice none 0 0, .int .i64 0, .int .i64 0, .slice none 0 0] 31)))
  clear z4 h0
  refine (callsIn_wide (n := 0)).1 (callsIn_of_wp Try.func36 rfl trivial ?_ rfl)
  simp only [Try.ntmps36, List.size_toArray, List.length_cons, List.length_nil, Nat.reduceAdd, Nat.reduceSub, Array.replicate_succ, Array.replicate_zero, List.push_toArray, List.append_toArray, List.nil_append, List.cons_append]
  gi_wp2_with fail
  refine ⟨trivial, rfl, (callsW (span_any _ _ _)).mono ?_⟩
  rintro e w1 ⟨rfl, hb⟩
  have D1 := Lib.hid (D0.out.trans hb)
  clear hb
  gi_wp2_with fail
  refine ⟨trivial, rfl, (callsW (span_any _ _ _)).mono ?_⟩
  rintro e w2 ⟨rfl, hb⟩
  have D2 := Lib.hid (D1.out.trans hb)
  clear hb
  gi_wp2_with fail
  refine ⟨trivial, rfl, (callsW (paint_any _ _ _ _ _ _ _)).mono ?_⟩
  rintro e w3 ⟨rfl, hb⟩
  have D3 := Lib.hid (D2.out.trans hb)
  clear hb
  gi_wp2_with fail
  refine ⟨trivial, rfl, (callsW (span_any _ _ _)).mono ?_⟩
  rintro e w4 ⟨rfl, hb⟩
  have D4 := Lib.hid (D3.out.trans hb)
  clear hb
  gi_wp2_with fail
  refine ⟨trivial, rfl, (callsW (span_any _ _ _)).mono ?_⟩
  rintro e w5 ⟨rfl, hb⟩
  have D5 := Lib.hid (D4.out.trans hb)
  clear hb
  gi_wp2_with fail
  refine ⟨trivial, rfl, (callsW (paint_any _ _ _ _ _ _ _)).mono ?_⟩
  rintro e w6 ⟨rfl, hb⟩
  have D6 := Lib.hid (D5.out.trans hb)
  clear hb
  gi_wp2_with fail
  refine ⟨trivial, rfl, (callsW (span_any _ _ _)).mono ?_⟩
  rintro e w7 ⟨rfl, hb⟩
  have D7 := Lib.hid (D6.out.trans hb)
  clear hb
  gi_wp2_with fail
  refine ⟨trivial, rfl, (callsW (span_any _ _ _)).mono ?_⟩
  rintro e w8 ⟨rfl, hb⟩
  have D8 := Lib.hid (D7.out.trans hb)
  clear hb
  gi_wp2_with fail
  refine ⟨trivial, rfl, (callsW (paint_any _ _ _ _ _ _ _)).mono ?_⟩
  rintro e w9 ⟨rfl, hb⟩
  have D9 := Lib.hid (D8.out.trans hb)
  clear hb
  gi_wp2_with fail
  refine ⟨trivial, rfl, (callsW (span_any _ _ _)).mono ?_⟩
  rintro e w10 ⟨rfl, hb⟩
  have D10 := Lib.hid (D9.out.trans hb)
  clear hb
  gi_wp2_with fail
  refine ⟨trivial, rfl, (callsW (span_any _ _ _)).mono ?_⟩
  rintro e w11 ⟨rfl, hb⟩
  have D11 := Lib.hid (D10.out.trans hb)
  clear hb
  gi_wp2_with fail
  refine ⟨trivial, rfl, (callsW (paint_any _ _ _ _ _ _ _)).mono ?_⟩
  rintro e w12 ⟨rfl, hb⟩
  have D12 := Lib.hid (D11.out.trans hb)
  clear hb
  have hv : (w12.alloc (.cells #[.int .i64 850, .int .i64 870, .int .i64 90, .int .i64 100, .int .i64 1, .int .i64 5, .int .i64 800, .int .i64 820, .int .i64 95, .int .i64 105, .int .i64 2, .int .i64 4, .int .i64 770, .int .i64 790, .int .i64 92, .int .i64 98, .int .i64 1, .int .i64 3, .int .i64 740, .int .i64 755, .int .i64 100, .int .i64 106, .int .i64 1, .int .i64 2] 56)).heap[w.heap.size]? = some (.cells #[.slice none 0 0, .int .i64 0, .int .i64 0, .slice none 0 0] 31 (0, 0)) :=
    (((Bel.refl w12).alloc (.cells #[.int .i64 850, .int .i64 870, .int .i64 90, .int .i64 100, .int .i64 1, .int .i64 5, .int .i64 800, .int .i64 820, .int .i64 95, .int .i64 105, .int .i64 2, .int .i64 4, .int .i64 770, .int .i64 790, .int .i64 92, .int .i64 98, .int .i64 1, .int .i64 3, .int .i64 740, .int .i64 755, .int .i64 100, .int .i64 106, .int .i64 1, .int .i64 2] 56)).block w.heap.size (by have := D12.out.size; simp at this; omega)).trans ((D12.out.block w.heap.size (by simp)).trans H0.out)
  have hn := World.alloc_heap_new w12 (.cells #[.int .i64 850, .int .i64 870, .int .i64 90, .int .i64 100, .int .i64 1, .int .i64 5, .int .i64 800, .int .i64 820, .int .i64 95, .int .i64 105, .int .i64 2, .int .i64 4, .int .i64 770, .int .i64 790, .int .i64 92, .int .i64 98, .int .i64 1, .int .i64 3, .int .i64 740, .int .i64 755, .int .i64 100, .int .i64 106, .int .i64 1, .int .i64 2] 56)
  have HB := Lib.hid ((B0.out.trans D12.out).alloc (.cells #[.int .i64 850, .int .i64 870, .int .i64 90, .int .i64 100, .int .i64 1, .int .i64 5, .int .i64 800, .int .i64 820, .int .i64 95, .int .i64 105, .int .i64 2, .int .i64 4, .int .i64 770, .int .i64 790, .int .i64 92, .int .i64 98, .int .i64 1, .int .i64 3, .int .i64 740, .int .i64 755, .int .i64 100, .int .i64 106, .int .i64 1, .int .i64 2] 56))
  have hsz := D12.out.size
  rw [World.size_alloc] at hsz
  have HN : Hid (Paints (w12.alloc (.cells #[.int .i64 850, .int .i64 870, .int .i64 90, .int .i64 100, .int .i64 1, .int .i64 5, .int .i64 800, .int .i64 820, .int .i64 95, .int .i64 105, .int .i64 2, .int .i64 4, .int .i64 770, .int .i64 790, .int .i64 92, .int .i64 98, .int .i64 1, .int .i64 3, .int .i64 740, .int .i64 755, .int .i64 100, .int .i64 106, .int .i64 1, .int .i64 2] 56)) (.slice (some ⟨w12.heap.size, 0, none⟩) 4 4) (exSet es).paints) := Lib.hid (by
    refine ⟨_, 4, rfl, Nat.le_refl _, by unfold maxLen; omega, nofun, fun i hi => ⟨w12.heap.size, 0, rfl, ?_⟩⟩
    have : i = 0 ∨ i = 1 ∨ i = 2 ∨ i = 3 := by have : i < 4 := hi; omega
    rcases this with rfl | rfl | rfl | rfl <;> (simp only [World.cell?, hn]; exact ⟨rfl, rfl, rfl, rfl, rfl, rfl⟩))
  clear hn
  obtain ⟨V, hV⟩ : ∃ V, w12.alloc (.cells #[.int .i64 850, .int .i64 870, .int .i64 90, .int .i64 100, .int .i64 1, .int .i64 5, .int .i64 800, .int .i64 820, .int .i64 95, .int .i64 105, .int .i64 2, .int .i64 4, .int .i64 770, .int .i64 790, .int .i64 92, .int .i64 98, .int .i64 1, .int .i64 3, .int .i64 740, .int .i64 755, .int .i64 100, .int .i64 106, .int .i64 1, .int .i64 2] 56) = V := ⟨_, rfl⟩
  rw [hV] at hv HB HN
  have f0 : V.frozen? ⟨w.heap.size, 0, none⟩ = false := by simp [World.frozen?, hv]
  have f1 : V.frozen? ⟨w.heap.size, 1, none⟩ = false := by simp [World.frozen?, hv]
  have f2 : V.frozen? ⟨w.heap.size, 2, none⟩ = false := by simp [World.frozen?, hv]
  have f3 : V.frozen? ⟨w.heap.size, 3, none⟩ = false := by simp [World.frozen?, hv]
  have c0 : V.cell? ⟨w.heap.size, 0, none⟩ = some (.slice none 0 0) := by simp [World.cell?, hv]
  have c1 : V.cell? ⟨w.heap.size, 1, none⟩ = some (.int .i64 0) := by simp [World.cell?, hv]
  have c2 : V.cell? ⟨w.heap.size, 2, none⟩ = some (.int .i64 0) := by simp [World.cell?, hv]
  have c3 : V.cell? ⟨w.heap.size, 3, none⟩ = some (.slice none 0 0) := by simp [World.cell?, hv]
  rw [← hV] at f0 f1 f2 f3 c0 c1 c2 c3
  have HV := Lib.hid hV
  have Hv := Lib.hid hv
  clear hV hv
  gi_wp2_with fail
  rw [HV.out]
  have g1 := heap_set (heap_set (heap_set (heap_set Hv.out 0 (.slice (some ⟨w12.heap.size, 0, none⟩) 4 4)) 1 (.int .i64 30)) 2 (.int .i64 15)) 3 (.slice ea es.length ec)
  have g2 := (But.set w.heap.size 3 _ (.slice ea es.length ec)).bel ((But.set w.heap.size 2 _ (.int .i64 15)).bel ((But.set w.heap.size 1 _ (.int .i64 30)).bel ((But.set w.heap.size 0 V (.slice (some ⟨w12.heap.size, 0, none⟩) 4 4)).bel HB.out (Nat.le_refl _)) (Nat.le_refl _)) (Nat.le_refl _)) (Nat.le_refl _)
  have hne : w12.heap.size ≠ w.heap.size := by omega
  have g3 : Paints ((((V.setCell ⟨w.heap.size, 0, none⟩ (.slice (some ⟨w12.heap.size, 0, none⟩) 4 4)).setCell ⟨w.heap.size, 1, none⟩ (.int .i64 30)).setCell ⟨w.heap.size, 2, none⟩ (.int .i64 15)).setCell ⟨w.heap.size, 3, none⟩ (.slice ea es.length ec)) (.slice (some ⟨w12.heap.size, 0, none⟩) 4 4) (exSet es).paints :=
    HN.out.but hne (((But.set _ _ _ _).trans (But.set _ _ _ _)).trans ((But.set _ _ _ _).trans (But.set _ _ _ _)))
  generalize (((V.setCell ⟨w.heap.size, 0, none⟩ (.slice (some ⟨w12.heap.size, 0, none⟩) 4 4)).setCell ⟨w.heap.size, 1, none⟩ (.int .i64 30)).setCell ⟨w.heap.size, 2, none⟩ (.int .i64 15)).setCell ⟨w.heap.size, 3, none⟩ (.slice ea es.length ec) = U at *
  have q0 : U.cell? ⟨w.heap.size, 0, none⟩ = some (.slice (some ⟨w12.heap.size, 0, none⟩) 4 4) := by simp [World.cell?, g1]
  have q1 : U.cell? ⟨w.heap.size, 1, none⟩ = some (.int .i64 30) := by simp [World.cell?, g1]
  have q2 : U.cell? ⟨w.heap.size, 2, none⟩ = some (.int .i64 15) := by simp [World.cell?, g1]
  have q3 : U.cell? ⟨w.heap.size, 3, none⟩ = some (.slice ea es.length ec) := by simp [World.cell?, g1]
  have G2 := Lib.hid g2
  have G3 := Lib.hid g3
  clear g1 g2 g3 f0 f1 f2 f3 c0 c1 c2 c3 HN Hv
  exact bodyPost_ret (v := .agg #[.slice (some ⟨w12.heap.size, 0, none⟩) 4 4, .int .i64 30, .int .i64 15, .slice ea es.length ec]) (by simp [results, Try.results36, go_sem, q0, q1, q2, q3]) rfl ⟨_, rfl, ⟨_, _, rfl, G3.out, HE.out.bel G2.out⟩, G2.out⟩

end Go.Proofs.Ytpkadofgmhninaa
