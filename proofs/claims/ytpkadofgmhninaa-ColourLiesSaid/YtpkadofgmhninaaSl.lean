/- The library's functions on slices: Index, Contains, Max, Grow, Concat, at the types of the seat. -/
import Derived.Test.YtpkadofgmhninaaCheckA
import Derived.Lib.AppendZerosOnto
import Derived.Lib.Walk
import Derived.Lib.SliceRun
import Derived.Maps.AppendAt
import Derived.Laws.AppendOwnNone
namespace Go.Proofs.Ytpkadofgmhninaa
open Go.RowKit

/-- What the call owns from a block on reads as what it holds; nothing that lay before has turned. -/
theorem Bel.grown {w A B : World} {row : Option Nat} (h : Bel w A) (hg : A.grownBy B row) (hr : ∀ k, row = some k → w.heap.size ≤ k) : Bel w B :=
  Below.grown h hg h.size hr

theorem own_ints {w : World} {base : Nat} {v : Value} {xs : List Int} (h : w.ownsRow base 3 1 v xs.length (xs.map (Value.int .i64))) : Ints w v xs := by
  obtain ⟨_, ⟨rfl, h0⟩ | ⟨g, cap, cur, rfl, _, hh, h1, h2, h3, h4⟩⟩ := h
  · obtain rfl : xs = [] := List.length_eq_zero_iff.1 h0
    exact Ints.nil w
  · refine ⟨_, cap, rfl, h1, h2, nofun, fun i hi => ⟨g, 0, rfl, ?_⟩⟩
    have e : cur.toList[i]? = some (.int .i64 (xs.getD i 0)) := by
      have h5 : (cur.toList.take (xs.length * 1))[i]? = (xs.map (Value.int .i64))[i]? := by rw [h4]
      rw [List.getElem?_take_of_lt (by omega)] at h5
      rw [h5, List.getElem?_map, getD_lt _ _ _ hi, List.getElem?_eq_getElem hi]; rfl
    simp only [World.cell?, hh]
    simpa using e

theorem own_cols {w : World} {base : Nat} {v : Value} {l : List Nat} (h : w.ownsRow base 3 1 v l.length (l.map fun (c : Nat) => Value.int .i64 (c : Int))) : Cols w v l := by
  refine own_ints (base := base) ?_
  rw [List.length_map, List.map_map]
  exact h

/-- A slice whose cells are these values. -/
def Vals (w : World) (v : Value) (xs : List Value) : Prop :=
  ∃ (a : Option Addr) (c : Nat), v = .slice a xs.length c ∧ xs.length ≤ c ∧ c ≤ maxLen ∧ (a = none → c = 0) ∧
    ∀ i, i < xs.length → ∃ b off, a = some ⟨b, off, none⟩ ∧ w.cell? ⟨b, off + i, none⟩ = some (xs.getD i undef)
theorem Vals.bel {A B : World} (h : Bel A B) {v : Value} {xs : List Value} (hx : Vals A v xs) : Vals B v xs := by
  obtain ⟨a, c, e, h1, h2, hz, h3⟩ := hx
  refine ⟨a, c, e, h1, h2, hz, fun i hi => ?_⟩
  obtain ⟨b, off, e', h'⟩ := h3 i hi
  exact ⟨b, off, e', h.cell h'⟩
theorem own_vals {w : World} {base : Nat} {e : TypeId} {v : Value} {xs : List Value} (h : w.ownsRow base e 1 v xs.length xs) : Vals w v xs := by
  obtain ⟨_, ⟨rfl, h0⟩ | ⟨g, cap, cur, rfl, _, hh, h1, h2, h3, h4⟩⟩ := h
  · obtain rfl : xs = [] := List.length_eq_zero_iff.1 h0
    exact ⟨none, 0, rfl, Nat.le_refl _, Nat.zero_le _, fun _ => rfl, fun _ hi => absurd hi (Nat.not_lt_zero _)⟩
  · refine ⟨_, cap, rfl, h1, h2, nofun, fun i hi => ⟨g, 0, rfl, ?_⟩⟩
    have e : cur.toList[i]? = some (xs.getD i undef) := by
      have h5 : (cur.toList.take (xs.length * 1))[i]? = xs[i]? := by rw [h4]
      rw [List.getElem?_take_of_lt (by omega)] at h5
      rw [h5, getD_lt _ _ _ hi, List.getElem?_eq_getElem hi]
    simp only [World.cell?, hh]
    simpa using e
theorem Vals.ints {w : World} {v : Value} {xs : List Int} : Ints w v xs ↔ Vals w v (xs.map (Value.int .i64)) := by
  constructor
  · rintro ⟨a, c, e, h1, h2, hz, h3⟩
    refine ⟨a, c, by rw [List.length_map]; exact e, by rw [List.length_map]; exact h1, h2, hz, fun i hi => ?_⟩
    rw [List.length_map] at hi
    obtain ⟨b, off, e', h'⟩ := h3 i hi
    refine ⟨b, off, e', ?_⟩
    rw [h', getD_lt _ _ _ hi, getD_lt _ _ _ (by simpa using hi)]; simp
  · rintro ⟨a, c, e, h1, h2, hz, h3⟩
    rw [List.length_map] at e h1 h3
    refine ⟨a, c, e, h1, h2, hz, fun i hi => ?_⟩
    obtain ⟨b, off, e', h'⟩ := h3 i hi
    refine ⟨b, off, e', ?_⟩
    rw [h', getD_lt _ _ _ hi, getD_lt _ _ _ (by simpa using hi)]; simp

/-- A slice of slices of values. -/
def Rows2 (w : World) (v : Value) (xss : List (List Value)) : Prop := ∃ vs : List Value, Vals w v vs ∧ vs.length = xss.length ∧ ∀ i, i < xss.length → Vals w (vs.getD i undef) (xss.getD i [])
theorem Rows2.bel {A B : World} (h : Bel A B) {v : Value} {xss : List (List Value)} (hx : Rows2 A v xss) : Rows2 B v xss := by
  obtain ⟨vs, h1, h2, h3⟩ := hx
  exact ⟨vs, h1.bel h, h2, fun i hi => (h3 i hi).bel h⟩

theorem Rnds.rows2 {w : World} {v : Value} {p : Rounds} (h : Rnds w v p) : Rows2 w v (p.map fun r => r.map fun (c : Nat) => Value.int .i64 (c : Int)) := by
  obtain ⟨a, c, rfl, h1, h2, hz, h3⟩ := h
  have h4 : ∀ i, ∃ rv, i < p.length → ∃ b off, a = some ⟨b, off, none⟩ ∧ w.cell? ⟨b, off + i, none⟩ = some rv ∧ Cols w rv (p.getD i []) := fun i => by
    by_cases hi : i < p.length
    · obtain ⟨b, off, rv, q⟩ := h3 i hi
      exact ⟨rv, fun _ => ⟨b, off, q⟩⟩
    · exact ⟨undef, fun h => absurd h hi⟩
  obtain ⟨f, hf⟩ := Classical.axiomOfChoice h4
  have hl : ((List.range p.length).map f).length = p.length := by simp
  have hg : ∀ i, i < p.length → ((List.range p.length).map f).getD i undef = f i := fun i hi => by
    rw [getD_lt _ _ _ (by rw [hl]; exact hi)]; simp
  refine ⟨(List.range p.length).map f, ⟨a, c, by rw [hl], by rw [hl]; exact h1, h2, hz, fun i hi => ?_⟩, by simp, fun i hi => ?_⟩
  · rw [hl] at hi
    obtain ⟨b, off, e, q, _⟩ := hf i hi
    exact ⟨b, off, e, by rw [hg i hi]; exact q⟩
  · rw [List.length_map] at hi
    obtain ⟨b, off, e, q, hc⟩ := hf i hi
    rw [hg i hi, getD_lt _ _ _ (by simpa using hi)]
    have h5 := Vals.ints.1 hc
    rw [List.map_map, getD_lt _ _ _ hi] at h5
    rw [List.getElem_map]
    exact h5

theorem Try.info3 : (Try.prog.info? 3).map (fun i => (i.zero, i.size, i.bytes)) = some (some (.int .i64 0), 1, 8) := by kernel_rfl
theorem Try.info32 : (Try.prog.info? 32).map (fun i => (i.zero, i.size, i.bytes)) = some (some (.slice none 0 0), 1, 24) := by kernel_rfl

set_option maxHeartbeats 400000 in
theorem index_any (v : Value) (l : List Nat) (x : Nat) (w : World) (h : Cols w v l) :
    Calls Try.prog 72 #[v, .int .i64 (x : Int)] w fun e w' => (∃ m, m ≤ l.length ∧ e = .returned (.int .i64 (foundAt l.length m)) ∧ (m < l.length ↔ x ∈ l)) ∧ w = w' := by
  obtain ⟨a, c, rfl, h1, h2, -, h3⟩ := h
  simp only [List.length_map] at h1 h3 ⊢
  unfold maxLen at h2
  go_enter Try.func72, Try.ntmps72
  go_wp2
  go_loop [5, 8] (fun _ i => ∃ k : Nat, k ≤ l.length ∧ i = .int .i64 k ∧ ∀ j, j < k → l.getD j 0 ≠ x) (fun _ i => l.length - (intOf i).toNat)
  case atStart => exact ⟨0, Nat.zero_le _, rfl, fun _ h => absurd h (Nat.not_lt_zero _)⟩
  case round =>
    obtain ⟨k, hk, rfl, hh⟩ := hrel
    have HH := Lib.hid hh
    clear hh
    by_cases hlt : k < l.length
    · obtain ⟨b, off, rfl, hcell⟩ := h3 k hlt
      rw [getD_map _ _ hlt] at hcell
      have hm : l.getD k 0 ∈ l := by rw [getD_lt _ _ _ hlt]; exact List.getElem_mem hlt
      have HM := Lib.hid hm
      clear h3 hm
      generalize hy : l.getD k 0 = y at *
      have HY := Lib.hid hy
      clear hy
      by_cases e : y = x
      · have E := Lib.hid e
        have hb : ((x : Int) == (y : Int)) = true := by rw [e]; exact beq_self_eq_true _
        clear e
        go_wp2
        go_ret
        refine ⟨⟨k, by omega, ret_int (foundAt_lt hlt).symm, fun _ => ?_, fun _ => hlt⟩, rfl⟩
        rw [← E.out]; exact HM.out
      · have hb : ((x : Int) == (y : Int)) = false := by rw [beq_eq_false_iff_ne]; omega
        have E := Lib.hid e
        clear e
        go_wp2
        go_round
        case rel =>
          refine ⟨k + 1, by omega, by go_num, fun j hj => ?_⟩
          by_cases e : j = k
          · rw [e, HY.out]; exact E.out
          · exact HH.out j (by omega)
        case measure => simp [intOf]; omega
    · go_wp2
      go_ret
      refine ⟨⟨k, by omega, ret_int (foundAt_ge hlt).symm, fun h => absurd h hlt, fun hm => ?_⟩, rfl⟩
      obtain ⟨j, hj, e⟩ := List.getElem_of_mem hm
      exact absurd (by rw [getD_lt _ _ _ hj]; exact e) (HH.out j (by omega))

set_option maxHeartbeats 400000 in
theorem contains_any (v : Value) (l : List Nat) (x : Nat) (w : World) (h : Cols w v l) :
    Calls Try.prog 45 #[v, .int .i64 (x : Int)] w fun e w' => e = .returned (.bool (l.contains x)) ∧ w = w' := by
  have hc := index_any v l x w h
  clear h
  go_enter Try.func45, Try.ntmps45
  go_wp2_with (go_at_call 72; refine hc.mono ?_; rintro e w1 ⟨⟨m, hm, rfl, h1⟩, rfl⟩; have H1 := Lib.hid h1; clear h1)
  go_ret
  refine ⟨ret_bool ?_, rfl⟩
  by_cases e : m < l.length
  · rw [foundAt_lt e]; simp [List.contains_eq_mem, H1.out.1 e]
  · rw [foundAt_ge e]; simp [List.contains_eq_mem, mt H1.out.2 e]

/-- The greatest of some numbers, the first of which is there. -/
def maxOf (l : List Int) : Int := (l.drop 1).foldl max (l.getD 0 0)

set_option maxHeartbeats 400000 in
theorem max_any (v : Value) (l : List Int) (w : World) (h : Ints w v l) (hne : l ≠ []) (hb : ∀ x, x ∈ l → 0 ≤ x ∧ x ≤ 1000000) :
    Calls Try.prog 65 #[v] w fun e w' => e = .returned (.int .i64 (maxOf l)) ∧ w = w' := by
  obtain ⟨a, c, rfl, h1, h2, -, h3⟩ := h
  unfold maxLen at h2
  have hl : 1 ≤ l.length := by rcases l with _ | ⟨y, l⟩; exact absurd rfl hne; simp
  obtain ⟨b, off, rfl, hc0⟩ := h3 0 (by omega)
  rw [Nat.add_zero] at hc0
  have hm : ∀ k, 1 ≤ k → k < l.length → ((l.take (k + 1)).drop 1).foldl max (l.getD 0 0) = max (((l.take k).drop 1).foldl max (l.getD 0 0)) (l.getD k 0) := fun k h1k hk => by
    rw [List.take_succ_eq_append_getElem hk, List.drop_append_of_le_length (by simp; omega), List.foldl_append, getD_lt _ k _ hk]; rfl
  have hbd : ∀ (m : List Int) (z : Int), 0 ≤ z → z ≤ 1000000 → (∀ x, x ∈ m → 0 ≤ x ∧ x ≤ 1000000) → 0 ≤ m.foldl max z ∧ m.foldl max z ≤ 1000000 := by
    intro m
    induction m with
    | nil => intro z h h' _; exact ⟨h, h'⟩
    | cons y m ih => intro z h h' hm; have := hm y (by simp); exact ih _ (by omega) (by omega) (fun x hx => hm x (by simp [hx]))
  have hb0 := hb (l.getD 0 0) (by rw [getD_lt _ _ _ (by omega)]; exact List.getElem_mem _)
  have HM := Lib.hid hm
  have HBD := Lib.hid hbd
  have HNE := Lib.hid hne
  have HB := Lib.hid hb
  clear hm hbd hne hb
  go_enter Try.func65, Try.ntmps65
  go_wp2
  go_loop [3, 4] (fun m i => ∃ k : Nat, 1 ≤ k ∧ k ≤ l.length ∧ i = .int .i64 k ∧ m = .int .i64 (((l.take k).drop 1).foldl max (l.getD 0 0))) (fun _ i => l.length - (intOf i).toNat)
  case atStart =>
    refine ⟨1, Nat.le_refl _, hl, rfl, ?_⟩
    cases l with
    | nil => simp at hl
    | cons y l => rfl
  case round =>
    obtain ⟨k, hk1, hk, rfl, rfl⟩ := hrel
    by_cases hlt : k < l.length
    · obtain ⟨b', off', e, hcell⟩ := h3 k hlt
      obtain ⟨rfl, rfl⟩ : b = b' ∧ off = off' := by injection e with e; injection e with e1 e2; exact ⟨e1, e2⟩
      have h4 := Lib.hid (HM.out k hk1 hlt)
      clear h3 e
      generalize l.getD k 0 = y at *
      generalize ((l.take k).drop 1).foldl max (l.getD 0 0) = z at *
      go_wp2
      all_goals
        go_round
        case rel => exact ⟨k + 1, by omega, by omega, by go_num, by rw [h4.out]⟩
        case measure => simp [intOf]; omega
    · obtain rfl : k = l.length := by omega
      clear h3
      go_wp2
      go_ret
      exact ⟨ret_int (by simp [maxOf]), rfl⟩

set_option maxHeartbeats 2000000 in
set_option maxRecDepth 100000 in
theorem grow_int (n : Nat) (hn : n ≤ 1000000) (w : World) :
    Calls Try.prog 73 #[.slice none 0 0, .int .i64 (n : Int)] w fun e w' => ∃ v, e = .returned v ∧ w'.ownsRow w.heap.size 3 1 v 0 [] ∧ Bel w w' := by
  obtain ⟨i0, hi, hz0, hz1, hz2⟩ := info_parts Try.info3
  by_cases h0 : n = 0
  · subst h0
    go_enter Try.func73, Try.ntmps73
    go_wp2
    go_ret
    exact ⟨_, rfl, World.ownsRow_nil _ _ _ _, Bel.refl w⟩
  · have hold : (Builtin.firstCells i0.size 0 (.slice none 0 0)).run Try.prog w.drew = .ok ([] : List Value).toArray w.drew := run_firstCells_none w.drew i0.size 0 0 0
    have hr := Lib.run_append_grow_zeros w 32 3 32 3 i0 (.int .i64 0) .i64 .i64 Try.underlying32 Try.underlying3 hi hz0 none 0 0 [] hold n (by omega) (by omega) (by omega) (by omega)
      (by rw [hz2]; omega) (growslice_fits (by omega) (by rw [hz2]; omega))
    rw [Nat.zero_add] at hr
    have hG := grownCap_ge w n 0 3
    have hG2 := grownCap_le_maxLen w n 0 3 (by unfold maxLen; omega)
    have hwrap : IntKind.i64.wrap (n : Int) = (n : Int) := by rw [IntKind.wrap_i64]; omega
    generalize grownCap w n 0 3 = G at *
    have hsz : ((#[] : Array Value) ++ Builtin.zeroCells ((.int .i64 0) : Value).cells n ++ Builtin.zeroCells ((.int .i64 0) : Value).cells (G - n)).size = G * 1 := by
      simp [Builtin.zeroCells, Value.cells]; omega
    have hown := World.ownsRow_made (base := w.heap.size) (e := 3) (size := 1) w.drew ((#[] : Array Value) ++ Builtin.zeroCells ((.int .i64 0) : Value).cells n ++ Builtin.zeroCells ((.int .i64 0) : Value).cells (G - n)) G (Nat.le_refl _) hG2 hsz
    have hbel : Bel w (w.drew.alloc (.cells ((#[] : Array Value) ++ Builtin.zeroCells ((.int .i64 0) : Value).cells n ++ Builtin.zeroCells ((.int .i64 0) : Value).cells (G - n)) 3)) := ((Bel.refl w).drew).alloc _
    unfold maxLen at hG2
    have HS := Lib.hid hown
    have HB := Lib.hid hbel
    clear hown hbel hsz hold
    have h1 : 1 ≤ n := by omega
    go_enter Try.func73, Try.ntmps73
    go_wp2_with (at_builtin; refine Lib.wpList_append_run _ rfl _ _ _ _ rfl _ _ rfl rfl _ _ hr ?_)
    go_ret
    exact ⟨_, rfl, by have h := HS.out; rw [Array.empty_append] at h; exact h, by have h := HB.out; rw [Array.empty_append] at h; exact h⟩

set_option maxHeartbeats 2000000 in
set_option maxRecDepth 100000 in
theorem grow_ints (n : Nat) (hn : n ≤ 1000000) (w : World) :
    Calls Try.prog 109 #[.slice none 0 0, .int .i64 (n : Int)] w fun e w' => ∃ v, e = .returned v ∧ w'.ownsRow w.heap.size 32 1 v 0 [] ∧ Bel w w' := by
  obtain ⟨i0, hi, hz0, hz1, hz2⟩ := info_parts Try.info32
  by_cases h0 : n = 0
  · subst h0
    go_enter Try.func109, Try.ntmps109
    go_wp2
    go_ret
    exact ⟨_, rfl, World.ownsRow_nil _ _ _ _, Bel.refl w⟩
  · have hold : (Builtin.firstCells i0.size 0 (.slice none 0 0)).run Try.prog w.drew = .ok ([] : List Value).toArray w.drew := run_firstCells_none w.drew i0.size 0 0 0
    have hr := Lib.run_append_grow_zeros w 35 3 35 32 i0 (.slice none 0 0) .i64 .i64 Try.underlying35 Try.underlying3 hi hz0 none 0 0 [] hold n (by omega) (by omega) (by omega) (by omega)
      (by rw [hz2]; omega) (growslice_fits (by omega) (by rw [hz2]; omega))
    rw [Nat.zero_add] at hr
    have hG := grownCap_ge w n 0 32
    have hG2 := grownCap_le_maxLen w n 0 32 (by unfold maxLen; omega)
    have hwrap : IntKind.i64.wrap (n : Int) = (n : Int) := by rw [IntKind.wrap_i64]; omega
    generalize grownCap w n 0 32 = G at *
    have hsz : ((#[] : Array Value) ++ Builtin.zeroCells ((.slice none 0 0) : Value).cells n ++ Builtin.zeroCells ((.slice none 0 0) : Value).cells (G - n)).size = G * 1 := by
      simp [Builtin.zeroCells, Value.cells]; omega
    have hown := World.ownsRow_made (base := w.heap.size) (e := 32) (size := 1) w.drew ((#[] : Array Value) ++ Builtin.zeroCells ((.slice none 0 0) : Value).cells n ++ Builtin.zeroCells ((.slice none 0 0) : Value).cells (G - n)) G (Nat.le_refl _) hG2 hsz
    have hbel : Bel w (w.drew.alloc (.cells ((#[] : Array Value) ++ Builtin.zeroCells ((.slice none 0 0) : Value).cells n ++ Builtin.zeroCells ((.slice none 0 0) : Value).cells (G - n)) 32)) := ((Bel.refl w).drew).alloc _
    unfold maxLen at hG2
    have HS := Lib.hid hown
    have HB := Lib.hid hbel
    clear hown hbel hsz hold
    have h1 : 1 ≤ n := by omega
    go_enter Try.func109, Try.ntmps109
    go_wp2_with (at_builtin; refine Lib.wpList_append_run _ rfl _ _ _ _ rfl _ _ rfl rfl _ _ hr ?_)
    go_ret
    exact ⟨_, rfl, by have h := HS.out; rw [Array.empty_append] at h; exact h, by have h := HB.out; rw [Array.empty_append] at h; exact h⟩

end Go.Proofs.Ytpkadofgmhninaa
