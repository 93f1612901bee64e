/- A copy: append onto an empty slice that is not nil. -/
import Derived.Test.YtpkadofgmhninaaPaints
namespace Go.Proofs.Ytpkadofgmhninaa
open Go.RowKit

theorem run_append_empty (W : World) (t ty e : TypeId) (i : TypeInfo) (z : Value) (size bytes : Nat) (ht : Try.prog.underlying t = some (.slice e)) (hi : Try.prog.info? e = some i) (hz : i.zero = some z) (hs : i.size = size) (hb : i.bytes = bytes)
    (g : Nat) (xa : Option Addr) (n c : Nat) (news : List Value) (hl : news.length = n * size) (hnews : ∀ a, xa = some a → ∀ j v, news[j]? = some v → W.cell? (a.add j) = some v) (h0 : 0 < n → xa.isSome = true) (hn : n ≤ 1000000) (hby : bytes ≤ 1000000) :
    ∃ gb cap W', (Builtin.append_ #[t, t] ty #[.slice (some ⟨g, 0, none⟩) 0 0, .slice xa n c]).run Try.prog W = .ok (.slice (some ⟨gb, 0, none⟩) n cap) W' ∧ Bel W W' ∧ n ≤ cap ∧ cap ≤ maxLen ∧ (∀ j v, news[j]? = some v → W'.cell? ⟨gb, j, none⟩ = some v) := by
  by_cases e0 : n = 0
  · subst e0
    refine ⟨g, 0, W, ?_, Bel.refl _, Nat.le_refl _, Nat.zero_le _, fun j v hj => ?_⟩
    · cases xa <;> simp [Builtin.append_, run_underlying ht, sizeOf, typeInfo, hi, Builtin.lenOf, Builtin.firstCells, storeCells, loadCells, loadCellsFrom]
    · have : news = [] := List.length_eq_zero_iff.1 (by rw [hl, Nat.zero_mul])
      rw [this] at hj; simp at hj
  · obtain ⟨a, rfl⟩ := Option.isSome_iff_exists.1 (h0 (by omega))
    have hcap := nextslicecap_zero (need := n) (by omega)
    have hm : n * bytes ≤ 1000000 * 1000000 := Nat.mul_le_mul hn hby
    have hrun := run_append_grow (P := Try.prog) (w := W) t ty e i z ht hi hz ⟨g, 0, none⟩ 0 0 [] (by simp) (by simp) a n c news (by rw [hs]; exact hl) (hnews a rfl) (by omega) (by omega) (by rw [Nat.zero_add, hcap, hb]; omega)
    rw [Nat.zero_add] at hrun
    refine ⟨W.heap.size, grownCap W n 0 e, _, hrun, ((Bel.refl W).drew).alloc _, grownCap_ge _ _ _ _, grownCap_le_maxLen _ _ _ _ (by unfold maxLen; omega), fun j v hj => ?_⟩
    have h := World.alloc_heap_new W.drew (.cells ([].toArray ++ news.toArray ++ Builtin.zeroCells z.cells (grownCap W n 0 e - n)) e)
    have hd : W.drew.heap.size = W.heap.size := rfl
    rw [hd] at h
    simp only [World.cell?, h]
    have hjl : j < news.length := (List.getElem?_eq_some_iff.1 hj).1
    simp only [Array.getElem?_append, List.size_toArray, List.length_nil, Array.size_append, Nat.zero_add]
    rw [if_pos hjl]
    simp [hjl]
    exact (List.getElem?_eq_some_iff.1 hj).2

theorem wpListIn_append_empty {F : Fence} {nn : Nat} {ops : Array Oper} {rest : List Oper} {o : Oper} {a : Act} {w : World} {Q : Exit → Act → World → Prop} (hg : o.guard = none) (s x : Operand) (t : TypeId) (hop : o.op = Op.call { callee := Callee.builtin Builtin.append, args := #[s, x], argTypes := #[t, t] })
    (e : TypeId) (i : TypeInfo) (z : Value) (size bytes : Nat) (ht : Try.prog.underlying t = some (.slice e)) (hi : Try.prog.info? e = some i) (hz : i.zero = some z) (hs : i.size = size) (hb : i.bytes = bytes)
    (g : Nat) (xa : Option Addr) (n c : Nat) (hes : a.eval s = .slice (some ⟨g, 0, none⟩) 0 0) (hex : a.eval x = .slice xa n c) (news : List Value) (hl : news.length = n * size) (hnews : ∀ a, xa = some a → ∀ j v, news[j]? = some v → w.cell? (a.add j) = some v) (h0 : 0 < n → xa.isSome = true) (hn : n ≤ 1000000) (hby : bytes ≤ 1000000)
    (hK : ∀ gb cap W', Bel w W' → n ≤ cap → cap ≤ maxLen → (∀ j v, news[j]? = some v → W'.cell? ⟨gb, j, none⟩ = some v) → wpListIn F nn Try.prog ops Q rest (a.put o.dst (.slice (some ⟨gb, 0, none⟩) n cap)) W') :
    wpListIn F nn Try.prog ops Q (o :: rest) a w := by
  refine wpListIn_plain hg fun K hK' => ?_
  obtain ⟨gb, cap, W', hrun, r1, r2, r3, r4⟩ := run_append_empty w t o.type e i z size bytes ht hi hz hs hb g xa n c news hl hnews h0 hn hby
  unfold Oper.wpIn
  refine ⟨?_, ?_⟩
  · simp [Oper.about, hop, resolve, Target.leads, Sem.run_pure]
  · rw [Oper.semAt_plain F _ _ (by rw [hop]; intro c hc'; cases hc')]
    simp [execOp, hop, resolve, invoke, builtin, hes, hex, hrun, Result.andThen]
    exact hK' _ _ (hK gb cap W' r1 r2 r3 r4)

/-- Rows of m values each, one behind another. -/
theorem rows_get {α : Type} (f : α → List Value) (m : Nat) (hf : ∀ x, (f x).length = m) : ∀ (l : List α) (i k : Nat), k < m → (l.flatMap f)[i * m + k]? = (l[i]?).bind fun x => (f x)[k]?
  | [], i, k, _ => by simp
  | x :: l, 0, k, hk => by
    rw [List.flatMap_cons, Nat.zero_mul, Nat.zero_add, List.getElem?_append_left (by rw [hf]; exact hk)]
    simp
  | x :: l, i + 1, k, hk => by
    rw [List.flatMap_cons, List.getElem?_append_right (by rw [hf, Nat.add_mul]; omega), hf, show (i + 1) * m + k - m = i * m + k by rw [Nat.add_mul]; omega, rows_get f m hf l i k hk]
    simp
theorem rows_len {α : Type} (f : α → List Value) (m : Nat) (hf : ∀ x, (f x).length = m) : ∀ l : List α, (l.flatMap f).length = l.length * m
  | [] => by simp
  | x :: l => by rw [List.flatMap_cons, List.length_append, hf, rows_len f m hf l, List.length_cons, Nat.add_mul]; omega
def paintRow (p : Paint) : List Value := [.int .i64 p.hl, .int .i64 p.hh, .int .i64 p.sl, .int .i64 p.sh, .int .i64 p.coats, .int .i64 p.most]
def pairRow (p : Nat × Nat) : List Value := [.int .i64 (p.1 : Int), .int .i64 (p.2 : Int)]

theorem Paints.news {W : World} {xa : Option Addr} {n c : Nat} {ps : List Paint} (h : Paints W (.slice xa n c) ps) : n = ps.length ∧ (0 < n → xa.isSome = true) ∧ ∀ a, xa = some a → ∀ j v, (ps.flatMap paintRow)[j]? = some v → W.cell? (a.add j) = some v := by
  obtain ⟨a', c', e, -, -, -, h3⟩ := h
  injection e with e1 e2 e3
  subst e1 e2
  refine ⟨rfl, fun h0 => ?_, fun a ha j v hj => ?_⟩
  · obtain ⟨b, off, rfl, _⟩ := h3 0 h0; rfl
  · have hj' : j / 6 * 6 + j % 6 = j := by omega
    rw [← hj', rows_get paintRow 6 (fun _ => rfl) ps (j / 6) (j % 6) (Nat.mod_lt _ (by omega))] at hj
    cases hp : ps[j / 6]? with
    | none => rw [hp] at hj; simp at hj
    | some p =>
      rw [hp] at hj
      simp only [Option.bind_some] at hj
      have hlt := (List.getElem?_eq_some_iff.1 hp).1
      obtain ⟨b, off, e, k0, k1, k2, k3, k4, k5⟩ := h3 (j / 6) hlt
      subst ha
      injection e with e
      subst e
      have hg : ps.getD (j / 6) ⟨0, 0, 0, 0, 0, 0⟩ = p := by simp [List.getD, hp]
      rw [hg] at k0 k1 k2 k3 k4 k5
      rw [addr_add]
      have hm : j % 6 = 0 ∨ j % 6 = 1 ∨ j % 6 = 2 ∨ j % 6 = 3 ∨ j % 6 = 4 ∨ j % 6 = 5 := by omega
      rcases hm with hm | hm | hm | hm | hm | hm <;> rw [hm] at hj hj' <;> simp [paintRow] at hj <;> subst hj
      · rw [show off + j = off + j / 6 * 6 by omega]; exact k0
      · rw [show off + j = off + j / 6 * 6 + 1 by omega]; exact k1
      · rw [show off + j = off + j / 6 * 6 + 2 by omega]; exact k2
      · rw [show off + j = off + j / 6 * 6 + 3 by omega]; exact k3
      · rw [show off + j = off + j / 6 * 6 + 4 by omega]; exact k4
      · rw [show off + j = off + j / 6 * 6 + 5 by omega]; exact k5
theorem Paints.of_news {W : World} {gb cap : Nat} {ps : List Paint} (h1 : ps.length ≤ cap) (h2 : cap ≤ maxLen) (h : ∀ j v, (ps.flatMap paintRow)[j]? = some v → W.cell? ⟨gb, j, none⟩ = some v) : Paints W (.slice (some ⟨gb, 0, none⟩) ps.length cap) ps := by
  refine ⟨_, cap, rfl, h1, h2, nofun, fun i hi => ⟨gb, 0, rfl, ?_⟩⟩
  have hp : ps[i]? = some (ps.getD i ⟨0, 0, 0, 0, 0, 0⟩) := by simp [List.getD, List.getElem?_eq_getElem hi]
  have key : ∀ k v, k < 6 → (paintRow (ps.getD i ⟨0, 0, 0, 0, 0, 0⟩))[k]? = some v → W.cell? ⟨gb, 0 + i * 6 + k, none⟩ = some v := fun k v hk hv => by
    rw [Nat.zero_add]
    refine h _ v ?_
    rw [rows_get paintRow 6 (fun _ => rfl) ps i k hk, hp]
    exact hv
  exact ⟨key 0 _ (by omega) rfl, key 1 _ (by omega) rfl, key 2 _ (by omega) rfl, key 3 _ (by omega) rfl, key 4 _ (by omega) rfl, key 5 _ (by omega) rfl⟩
theorem Pairs.news {W : World} {xa : Option Addr} {n c : Nat} {ps : List (Nat × Nat)} (h : Pairs W (.slice xa n c) ps) : n = ps.length ∧ (0 < n → xa.isSome = true) ∧ ∀ a, xa = some a → ∀ j v, (ps.flatMap pairRow)[j]? = some v → W.cell? (a.add j) = some v := by
  obtain ⟨a', c', e, -, -, -, h3⟩ := h
  injection e with e1 e2 e3
  subst e1 e2
  refine ⟨rfl, fun h0 => ?_, fun a ha j v hj => ?_⟩
  · obtain ⟨b, off, rfl, _⟩ := h3 0 h0; rfl
  · have hj' : j / 2 * 2 + j % 2 = j := by omega
    rw [← hj', rows_get pairRow 2 (fun _ => rfl) ps (j / 2) (j % 2) (Nat.mod_lt _ (by omega))] at hj
    cases hp : ps[j / 2]? with
    | none => rw [hp] at hj; simp at hj
    | some p =>
      rw [hp] at hj
      simp only [Option.bind_some] at hj
      have hlt := (List.getElem?_eq_some_iff.1 hp).1
      obtain ⟨b, off, e, k0, k1⟩ := h3 (j / 2) hlt
      subst ha
      injection e with e
      subst e
      have hg : ps.getD (j / 2) (0, 0) = p := by simp [List.getD, hp]
      rw [hg] at k0 k1
      rw [addr_add]
      have hm : j % 2 = 0 ∨ j % 2 = 1 := by omega
      rcases hm with hm | hm <;> rw [hm] at hj hj' <;> simp [pairRow] at hj <;> subst hj
      · rw [show off + j = off + j / 2 * 2 by omega]; exact k0
      · rw [show off + j = off + j / 2 * 2 + 1 by omega]; exact k1
theorem Pairs.of_news {W : World} {gb cap : Nat} {ps : List (Nat × Nat)} (h1 : ps.length ≤ cap) (h2 : cap ≤ maxLen) (h : ∀ j v, (ps.flatMap pairRow)[j]? = some v → W.cell? ⟨gb, j, none⟩ = some v) : Pairs W (.slice (some ⟨gb, 0, none⟩) ps.length cap) ps := by
  refine ⟨_, cap, rfl, h1, h2, nofun, fun i hi => ⟨gb, 0, rfl, ?_⟩⟩
  have hp : ps[i]? = some (ps.getD i (0, 0)) := by simp [List.getD, List.getElem?_eq_getElem hi]
  have key : ∀ k v, k < 2 → (pairRow (ps.getD i (0, 0)))[k]? = some v → W.cell? ⟨gb, 0 + i * 2 + k, none⟩ = some v := fun k v hk hv => by
    rw [Nat.zero_add]
    refine h _ v ?_
    rw [rows_get pairRow 2 (fun _ => rfl) ps i k hk, hp]
    exact hv
  exact ⟨key 0 _ (by omega) rfl, key 1 _ (by omega) rfl⟩

end Go.Proofs.Ytpkadofgmhninaa
