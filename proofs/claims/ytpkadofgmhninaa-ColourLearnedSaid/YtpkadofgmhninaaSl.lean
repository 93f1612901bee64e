/- The library's functions on slices: Index, Contains, Max, Grow, Concat, at the types of the seat. slices.Concat, at the two types of the seat. mapped, at two types; the heats and stretches of a set. The heats and the stretches of a set. -/
import Derived.Test.YtpkadofgmhninaaCheckA
import Derived.Lib.AppendZerosOnto
import Derived.Lib.Walk
import Derived.Lib.SliceRun
import Derived.Maps.AppendAt
import Derived.Laws.AppendOwnNone
namespace Go.Proofs.Ytpkadofgmhninaa
open Go.RowKit

/-- What the call owns from a block on reads as what it holds; nothing that lay before has turned. -/
theorem Bel.grown {w A B : World} {row : Option Nat} (h : Bel w A) (hg : A.grownBy B row) (hr : ∀ k, row = some k → w.heap.size ≤ k) : Bel w B :=
  Below.grown h hg h.size hr

theorem own_ints {w : World} {base : Nat} {v : Value} {xs : List Int} (h : w.ownsRow base 3 1 v xs.length (xs.map (Value.int .i64))) : Ints w v xs := by
  obtain ⟨_, ⟨rfl, h0⟩ | ⟨g, cap, cur, rfl, _, hh, h1, h2, h3, h4⟩⟩ := h
  · obtain rfl : xs = [] := List.length_eq_zero_iff.1 h0
    exact Ints.nil w
  · refine ⟨_, cap, rfl, h1, h2, nofun, fun i hi => ⟨g, 0, rfl, ?_⟩⟩
    have e : cur.toList[i]? = some (.int .i64 (xs.getD i 0)) := by
      have h5 : (cur.toList.take (xs.length * 1))[i]? = (xs.map (Value.int .i64))[i]? := by rw [h4]
      rw [List.getElem?_take_of_lt (by omega)] at h5
      rw [h5, List.getElem?_map, getD_lt _ _ _ hi, List.getElem?_eq_getElem hi]; rfl
    simp only [World.cell?, hh]
    simpa using e

theorem own_cols {w : World} {base : Nat} {v : Value} {l : List Nat} (h : w.ownsRow base 3 1 v l.length (l.map fun (c : Nat) => Value.int .i64 (c : Int))) : Cols w v l := by
  refine own_ints (base := base) ?_
  rw [List.length_map, List.map_map]
  exact h

/-- A slice whose cells are these values. -/
def Vals (w : World) (v : Value) (xs : List Value) : Prop :=
  ∃ (a : Option Addr) (c : Nat), v = .slice a xs.length c ∧ xs.length ≤ c ∧ c ≤ maxLen ∧ (a = none → c = 0) ∧
    ∀ i, i < xs.length → ∃ b off, a = some ⟨b, off, none⟩ ∧ w.cell? ⟨b, off + i, none⟩ = some (xs.getD i undef)
theorem Vals.bel {A B : World} (h : Bel A B) {v : Value} {xs : List Value} (hx : Vals A v xs) : Vals B v xs := by
  obtain ⟨a, c, e, h1, h2, hz, h3⟩ := hx
  refine ⟨a, c, e, h1, h2, hz, fun i hi => ?_⟩
  obtain ⟨b, off, e', h'⟩ := h3 i hi
  exact ⟨b, off, e', h.cell h'⟩
theorem own_vals {w : World} {base : Nat} {e : TypeId} {v : Value} {xs : List Value} (h : w.ownsRow base e 1 v xs.length xs) : Vals w v xs := by
  obtain ⟨_, ⟨rfl, h0⟩ | ⟨g, cap, cur, rfl, _, hh, h1, h2, h3, h4⟩⟩ := h
  · obtain rfl : xs = [] := List.length_eq_zero_iff.1 h0
    exact ⟨none, 0, rfl, Nat.le_refl _, Nat.zero_le _, fun _ => rfl, fun _ hi => absurd hi (Nat.not_lt_zero _)⟩
  · refine ⟨_, cap, rfl, h1, h2, nofun, fun i hi => ⟨g, 0, rfl, ?_⟩⟩
    have e : cur.toList[i]? = some (xs.getD i undef) := by
      have h5 : (cur.toList.take (xs.length * 1))[i]? = xs[i]? := by rw [h4]
      rw [List.getElem?_take_of_lt (by omega)] at h5
      rw [h5, getD_lt _ _ _ hi, List.getElem?_eq_getElem hi]
    simp only [World.cell?, hh]
    simpa using e
theorem Vals.ints {w : World} {v : Value} {xs : List Int} : Ints w v xs ↔ Vals w v (xs.map (Value.int .i64)) := by
  constructor
  · rintro ⟨a, c, e, h1, h2, hz, h3⟩
    refine ⟨a, c, by rw [List.length_map]; exact e, by rw [List.length_map]; exact h1, h2, hz, fun i hi => ?_⟩
    rw [List.length_map] at hi
    obtain ⟨b, off, e', h'⟩ := h3 i hi
    refine ⟨b, off, e', ?_⟩
    rw [h', getD_lt _ _ _ hi, getD_lt _ _ _ (by simpa using hi)]; simp
  · rintro ⟨a, c, e, h1, h2, hz, h3⟩
    rw [List.length_map] at e h1 h3
    refine ⟨a, c, e, h1, h2, hz, fun i hi => ?_⟩
    obtain ⟨b, off, e', h'⟩ := h3 i hi
    refine ⟨b, off, e', ?_⟩
    rw [h', getD_lt _ _ _ hi, getD_lt _ _ _ (by simpa using hi)]; simp

/-- A slice of slices of values. -/
def Rows2 (w : World) (v : Value) (xss : List (List Value)) : Prop := ∃ vs : List Value, Vals w v vs ∧ vs.length = xss.length ∧ ∀ i, i < xss.length → Vals w (vs.getD i undef) (xss.getD i [])
theorem Rows2.bel {A B : World} (h : Bel A B) {v : Value} {xss : List (List Value)} (hx : Rows2 A v xss) : Rows2 B v xss := by
  obtain ⟨vs, h1, h2, h3⟩ := hx
  exact ⟨vs, h1.bel h, h2, fun i hi => (h3 i hi).bel h⟩

theorem Rnds.rows2 {w : World} {v : Value} {p : Rounds} (h : Rnds w v p) : Rows2 w v (p.map fun r => r.map fun (c : Nat) => Value.int .i64 (c : Int)) := by
  obtain ⟨a, c, rfl, h1, h2, hz, h3⟩ := h
  have h4 : ∀ i, ∃ rv, i < p.length → ∃ b off, a = some ⟨b, off, none⟩ ∧ w.cell? ⟨b, off + i, none⟩ = some rv ∧ Cols w rv (p.getD i []) := fun i => by
    by_cases hi : i < p.length
    · obtain ⟨b, off, rv, q⟩ := h3 i hi
      exact ⟨rv, fun _ => ⟨b, off, q⟩⟩
    · exact ⟨undef, fun h => absurd h hi⟩
  obtain ⟨f, hf⟩ := Classical.axiomOfChoice h4
  have hl : ((List.range p.length).map f).length = p.length := by simp
  have hg : ∀ i, i < p.length → ((List.range p.length).map f).getD i undef = f i := fun i hi => by
    rw [getD_lt _ _ _ (by rw [hl]; exact hi)]; simp
  refine ⟨(List.range p.length).map f, ⟨a, c, by rw [hl], by rw [hl]; exact h1, h2, hz, fun i hi => ?_⟩, by simp, fun i hi => ?_⟩
  · rw [hl] at hi
    obtain ⟨b, off, e, q, _⟩ := hf i hi
    exact ⟨b, off, e, by rw [hg i hi]; exact q⟩
  · rw [List.length_map] at hi
    obtain ⟨b, off, e, q, hc⟩ := hf i hi
    rw [hg i hi, getD_lt _ _ _ (by simpa using hi)]
    have h5 := Vals.ints.1 hc
    rw [List.map_map, getD_lt _ _ _ hi] at h5
    rw [List.getElem_map]
    exact h5

theorem Try.info3 : (Try.prog.info? 3).map (fun i => (i.zero, i.size, i.bytes)) = some (some (.int .i64 0), 1, 8) := by kernel_rfl
theorem Try.info32 : (Try.prog.info? 32).map (fun i => (i.zero, i.size, i.bytes)) = some (some (.slice none 0 0), 1, 24) := by kernel_rfl

set_option maxHeartbeats 400000 in
theorem index_any (v : Value) (l : List Nat) (x : Nat) (w : World) (h : Cols w v l) :
    Calls Try.prog 72 #[v, .int .i64 (x : Int)] w fun e w' => (∃ m, m ≤ l.length ∧ e = .returned (.int .i64 (foundAt l.length m)) ∧ (m < l.length ↔ x ∈ l)) ∧ w = w' := by
  obtain ⟨a, c, rfl, h1, h2, -, h3⟩ := h
  simp only [List.length_map] at h1 h3 ⊢
  unfold maxLen at h2
  go_enter Try.func72, Try.ntmps72
  go_wp2
  go_loop [5, 8] (fun _ i => ∃ k : Nat, k ≤ l.length ∧ i = .int .i64 k ∧ ∀ j, j < k → l.getD j 0 ≠ x) (fun _ i => l.length - (intOf i).toNat)
  case atStart => exact ⟨0, Nat.zero_le _, rfl, fun _ h => absurd h (Nat.not_lt_zero _)⟩
  case round =>
    obtain ⟨k, hk, rfl, hh⟩ := hrel
    have HH := Lib.hid hh
    clear hh
    by_cases hlt : k < l.length
    · obtain ⟨b, off, rfl, hcell⟩ := h3 k hlt
      rw [getD_map _ _ hlt] at hcell
      have hm : l.getD k 0 ∈ l := by rw [getD_lt _ _ _ hlt]; exact List.getElem_mem hlt
      have HM := Lib.hid hm
      clear h3 hm
      generalize hy : l.getD k 0 = y at *
      have HY := Lib.hid hy
      clear hy
      by_cases e : y = x
      · have E := Lib.hid e
        have hb : ((x : Int) == (y : Int)) = true := by rw [e]; exact beq_self_eq_true _
        clear e
        go_wp2
        go_ret
        refine ⟨⟨k, by omega, ret_int (foundAt_lt hlt).symm, fun _ => ?_, fun _ => hlt⟩, rfl⟩
        rw [← E.out]; exact HM.out
      · have hb : ((x : Int) == (y : Int)) = false := by rw [beq_eq_false_iff_ne]; omega
        have E := Lib.hid e
        clear e
        go_wp2
        go_round
        case rel =>
          refine ⟨k + 1, by omega, by go_num, fun j hj => ?_⟩
          by_cases e : j = k
          · rw [e, HY.out]; exact E.out
          · exact HH.out j (by omega)
        case measure => simp [intOf]; omega
    · go_wp2
      go_ret
      refine ⟨⟨k, by omega, ret_int (foundAt_ge hlt).symm, fun h => absurd h hlt, fun hm => ?_⟩, rfl⟩
      obtain ⟨j, hj, e⟩ := List.getElem_of_mem hm
      exact absurd (by rw [getD_lt _ _ _ hj]; exact e) (HH.out j (by omega))

set_option maxHeartbeats 400000 in
theorem contains_any (v : Value) (l : List Nat) (x : Nat) (w : World) (h : Cols w v l) :
    Calls Try.prog 45 #[v, .int .i64 (x : Int)] w fun e w' => e = .returned (.bool (l.contains x)) ∧ w = w' := by
  have hc := index_any v l x w h
  clear h
  go_enter Try.func45, Try.ntmps45
  go_wp2_with (go_at_call 72; refine hc.mono ?_; rintro e w1 ⟨⟨m, hm, rfl, h1⟩, rfl⟩; have H1 := Lib.hid h1; clear h1)
  go_ret
  refine ⟨ret_bool ?_, rfl⟩
  by_cases e : m < l.length
  · rw [foundAt_lt e]; simp [List.contains_eq_mem, H1.out.1 e]
  · rw [foundAt_ge e]; simp [List.contains_eq_mem, mt H1.out.2 e]

/-- The greatest of some numbers, the first of which is there. -/
def maxOf (l : List Int) : Int := (l.drop 1).foldl max (l.getD 0 0)

set_option maxHeartbeats 400000 in
theorem max_any (v : Value) (l : List Int) (w : World) (h : Ints w v l) (hne : l ≠ []) (hb : ∀ x, x ∈ l → 0 ≤ x ∧ x ≤ 1000000) :
    Calls Try.prog 65 #[v] w fun e w' => e = .returned (.int .i64 (maxOf l)) ∧ w = w' := by
  obtain ⟨a, c, rfl, h1, h2, -, h3⟩ := h
  unfold maxLen at h2
  have hl : 1 ≤ l.length := by rcases l with _ | ⟨y, l⟩; exact absurd rfl hne; simp
  obtain ⟨b, off, rfl, hc0⟩ := h3 0 (by omega)
  rw [Nat.add_zero] at hc0
  have hm : ∀ k, 1 ≤ k → k < l.length → ((l.take (k + 1)).drop 1).foldl max (l.getD 0 0) = max (((l.take k).drop 1).foldl max (l.getD 0 0)) (l.getD k 0) := fun k h1k hk => by
    rw [List.take_succ_eq_append_getElem hk, List.drop_append_of_le_length (by simp; omega), List.foldl_append, getD_lt _ k _ hk]; rfl
  have hbd : ∀ (m : List Int) (z : Int), 0 ≤ z → z ≤ 1000000 → (∀ x, x ∈ m → 0 ≤ x ∧ x ≤ 1000000) → 0 ≤ m.foldl max z ∧ m.foldl max z ≤ 1000000 := by
    intro m
    induction m with
    | nil => intro z h h' _; exact ⟨h, h'⟩
    | cons y m ih => intro z h h' hm; have := hm y (by simp); exact ih _ (by omega) (by omega) (fun x hx => hm x (by simp [hx]))
  have hb0 := hb (l.getD 0 0) (by rw [getD_lt _ _ _ (by omega)]; exact List.getElem_mem _)
  have HM := Lib.hid hm
  have HBD := Lib.hid hbd
  have HNE := Lib.hid hne
  have HB := Lib.hid hb
  clear hm hbd hne hb
  go_enter Try.func65, Try.ntmps65
  go_wp2
  go_loop [3, 4] (fun m i => ∃ k : Nat, 1 ≤ k ∧ k ≤ l.length ∧ i = .int .i64 k ∧ m = .int .i64 (((l.take k).drop 1).foldl max (l.getD 0 0))) (fun _ i => l.length - (intOf i).toNat)
  case atStart =>
    refine ⟨1, Nat.le_refl _, hl, rfl, ?_⟩
    cases l with
    | nil => simp at hl
    | cons y l => rfl
  case round =>
    obtain ⟨k, hk1, hk, rfl, rfl⟩ := hrel
    by_cases hlt : k < l.length
    · obtain ⟨b', off', e, hcell⟩ := h3 k hlt
      obtain ⟨rfl, rfl⟩ : b = b' ∧ off = off' := by injection e with e; injection e with e1 e2; exact ⟨e1, e2⟩
      have h4 := Lib.hid (HM.out k hk1 hlt)
      clear h3 e
      generalize l.getD k 0 = y at *
      generalize ((l.take k).drop 1).foldl max (l.getD 0 0) = z at *
      go_wp2
      all_goals
        go_round
        case rel => exact ⟨k + 1, by omega, by omega, by go_num, by rw [h4.out]⟩
        case measure => simp [intOf]; omega
    · obtain rfl : k = l.length := by omega
      clear h3
      go_wp2
      go_ret
      exact ⟨ret_int (by simp [maxOf]), rfl⟩

set_option maxHeartbeats 2000000 in
set_option maxRecDepth 100000 in
theorem grow_int (n : Nat) (hn : n ≤ 1000000) (w : World) :
    Calls Try.prog 73 #[.slice none 0 0, .int .i64 (n : Int)] w fun e w' => ∃ v, e = .returned v ∧ w'.ownsRow w.heap.size 3 1 v 0 [] ∧ Bel w w' := by
  obtain ⟨i0, hi, hz0, hz1, hz2⟩ := info_parts Try.info3
  by_cases h0 : n = 0
  · subst h0
    go_enter Try.func73, Try.ntmps73
    go_wp2
    go_ret
    exact ⟨_, rfl, World.ownsRow_nil _ _ _ _, Bel.refl w⟩
  · have hold : (Builtin.firstCells i0.size 0 (.slice none 0 0)).run Try.prog w.drew = .ok ([] : List Value).toArray w.drew := run_firstCells_none w.drew i0.size 0 0 0
    have hr := Lib.run_append_grow_zeros w 32 3 32 3 i0 (.int .i64 0) .i64 .i64 Try.underlying32 Try.underlying3 hi hz0 none 0 0 [] hold n (by omega) (by omega) (by omega) (by omega)
      (by rw [hz2]; omega) (growslice_fits (by omega) (by rw [hz2]; omega))
    rw [Nat.zero_add] at hr
    have hG := grownCap_ge w n 0 3
    have hG2 := grownCap_le_maxLen w n 0 3 (by unfold maxLen; omega)
    have hwrap : IntKind.i64.wrap (n : Int) = (n : Int) := by rw [IntKind.wrap_i64]; omega
    generalize grownCap w n 0 3 = G at *
    have hsz : ((#[] : Array Value) ++ Builtin.zeroCells ((.int .i64 0) : Value).cells n ++ Builtin.zeroCells ((.int .i64 0) : Value).cells (G - n)).size = G * 1 := by
      simp [Builtin.zeroCells, Value.cells]; omega
    have hown := World.ownsRow_made (base := w.heap.size) (e := 3) (size := 1) w.drew ((#[] : Array Value) ++ Builtin.zeroCells ((.int .i64 0) : Value).cells n ++ Builtin.zeroCells ((.int .i64 0) : Value).cells (G - n)) G (Nat.le_refl _) hG2 hsz
    have hbel : Bel w (w.drew.alloc (.cells ((#[] : Array Value) ++ Builtin.zeroCells ((.int .i64 0) : Value).cells n ++ Builtin.zeroCells ((.int .i64 0) : Value).cells (G - n)) 3)) := ((Bel.refl w).drew).alloc _
    unfold maxLen at hG2
    have HS := Lib.hid hown
    have HB := Lib.hid hbel
    clear hown hbel hsz hold
    have h1 : 1 ≤ n := by omega
    go_enter Try.func73, Try.ntmps73
    go_wp2_with (at_builtin; refine Lib.wpList_append_run _ rfl _ _ _ _ rfl _ _ rfl rfl _ _ hr ?_)
    go_ret
    exact ⟨_, rfl, by have h := HS.out; rw [Array.empty_append] at h; exact h, by have h := HB.out; rw [Array.empty_append] at h; exact h⟩

set_option maxHeartbeats 2000000 in
set_option maxRecDepth 100000 in
theorem grow_ints (n : Nat) (hn : n ≤ 1000000) (w : World) :
    Calls Try.prog 109 #[.slice none 0 0, .int .i64 (n : Int)] w fun e w' => ∃ v, e = .returned v ∧ w'.ownsRow w.heap.size 32 1 v 0 [] ∧ Bel w w' := by
  obtain ⟨i0, hi, hz0, hz1, hz2⟩ := info_parts Try.info32
  by_cases h0 : n = 0
  · subst h0
    go_enter Try.func109, Try.ntmps109
    go_wp2
    go_ret
    exact ⟨_, rfl, World.ownsRow_nil _ _ _ _, Bel.refl w⟩
  · have hold : (Builtin.firstCells i0.size 0 (.slice none 0 0)).run Try.prog w.drew = .ok ([] : List Value).toArray w.drew := run_firstCells_none w.drew i0.size 0 0 0
    have hr := Lib.run_append_grow_zeros w 35 3 35 32 i0 (.slice none 0 0) .i64 .i64 Try.underlying35 Try.underlying3 hi hz0 none 0 0 [] hold n (by omega) (by omega) (by omega) (by omega)
      (by rw [hz2]; omega) (growslice_fits (by omega) (by rw [hz2]; omega))
    rw [Nat.zero_add] at hr
    have hG := grownCap_ge w n 0 32
    have hG2 := grownCap_le_maxLen w n 0 32 (by unfold maxLen; omega)
    have hwrap : IntKind.i64.wrap (n : Int) = (n : Int) := by rw [IntKind.wrap_i64]; omega
    generalize grownCap w n 0 32 = G at *
    have hsz : ((#[] : Array Value) ++ Builtin.zeroCells ((.slice none 0 0) : Value).cells n ++ Builtin.zeroCells ((.slice none 0 0) : Value).cells (G - n)).size = G * 1 := by
      simp [Builtin.zeroCells, Value.cells]; omega
    have hown := World.ownsRow_made (base := w.heap.size) (e := 32) (size := 1) w.drew ((#[] : Array Value) ++ Builtin.zeroCells ((.slice none 0 0) : Value).cells n ++ Builtin.zeroCells ((.slice none 0 0) : Value).cells (G - n)) G (Nat.le_refl _) hG2 hsz
    have hbel : Bel w (w.drew.alloc (.cells ((#[] : Array Value) ++ Builtin.zeroCells ((.slice none 0 0) : Value).cells n ++ Builtin.zeroCells ((.slice none 0 0) : Value).cells (G - n)) 32)) := ((Bel.refl w).drew).alloc _
    unfold maxLen at hG2
    have HS := Lib.hid hown
    have HB := Lib.hid hbel
    clear hown hbel hsz hold
    have h1 : 1 ≤ n := by omega
    go_enter Try.func109, Try.ntmps109
    go_wp2_with (at_builtin; refine Lib.wpList_append_run _ rfl _ _ _ _ rfl _ _ rfl rfl _ _ hr ?_)
    go_ret
    exact ⟨_, rfl, by have h := HS.out; rw [Array.empty_append] at h; exact h, by have h := HB.out; rw [Array.empty_append] at h; exact h⟩

end Go.Proofs.Ytpkadofgmhninaa
namespace Go.Proofs.Ytpkadofgmhninaa
open Go.RowKit

theorem addr_add (b o j : Nat) : (⟨b, o, none⟩ : Addr).add j = ⟨b, o + j, none⟩ := by cases j <;> simp [Addr.add]
theorem flat_len (xss : List (List Value)) (k : Nat) (hk : k < xss.length) : (xss.take (k + 1)).flatten.length = (xss.take k).flatten.length + (xss.getD k []).length := by
  rw [List.take_succ_eq_append_getElem hk, List.flatten_append, getD_lt _ _ _ hk]; simp
theorem flat_snoc (xss : List (List Value)) (k : Nat) (hk : k < xss.length) : (xss.take (k + 1)).flatten = (xss.take k).flatten ++ xss.getD k [] := by
  rw [List.take_succ_eq_append_getElem hk, List.flatten_append, getD_lt _ _ _ hk]; simp
theorem flat_le (xss : List (List Value)) (k : Nat) : (xss.take k).flatten.length ≤ xss.flatten.length := by
  conv => rhs; rw [← List.take_append_drop k xss, List.flatten_append, List.length_append]
  omega

set_option maxHeartbeats 800000 in
set_option maxRecDepth 100000 in
theorem concat_int (v : Value) (xss : List (List Value)) (w : World) (h : Rows2 w v xss) (hone : ∀ xs, xs ∈ xss → ∀ u, u ∈ xs → u.oneCell' = true) (hlen : xss.flatten.length ≤ 1000000) :
    Calls Try.prog 46 #[v] w fun e w' => ∃ r, e = .returned r ∧ w'.ownsRow w.heap.size 3 1 r xss.flatten.length xss.flatten ∧ Bel w w' := by
  obtain ⟨i0, hi, hz0, hz1, hz2⟩ := info_parts Try.info3
  obtain ⟨vs, ⟨a, c, rfl, h1, h2, -, h3⟩, hvl, hrows⟩ := h
  rw [hvl] at h1 h3 ⊢
  unfold maxLen at h2
  have hel : ∀ k, k < xss.length → ∃ b off ea ec, a = some ⟨b, off, none⟩ ∧ w.cell? ⟨b, off + k, none⟩ = some (.slice ea (xss.getD k []).length ec) ∧ (xss.getD k []).length ≤ ec ∧ (ea = none → ec = 0) ∧
      (∀ W, Bel w W → ∀ ad, ea = some ad → ∀ j u, (xss.getD k [])[j]? = some u → W.cell? (ad.add j) = some u) ∧ (∀ u, u ∈ xss.getD k [] → u.oneCell' = true) := by
    intro k hk
    obtain ⟨b, off, e, q⟩ := h3 k hk
    obtain ⟨ea, ec, e2, q1, q2, q3, q4⟩ := hrows k hk
    refine ⟨b, off, ea, ec, e, by rw [q, e2], q1, q3, fun W hW ad hea j u hj => ?_, hone _ (by rw [getD_lt _ _ _ hk]; exact List.getElem_mem hk)⟩
    obtain ⟨hjl, hju⟩ := List.getElem?_eq_some_iff.1 hj
    obtain ⟨b', off', e', q'⟩ := q4 j hjl
    rw [hea] at e'
    injection e' with e'
    subst e'
    rw [getD_lt _ _ _ hjl] at q'
    have h9 := hW.cell q'
    rw [hju] at h9
    rw [addr_add]
    exact h9
  have HEL := Lib.hid hel
  have HFL := Lib.hid (flat_len xss)
  have HFS := Lib.hid (flat_snoc xss)
  have HLE := Lib.hid (flat_le xss)
  have HLEN := Lib.hid hlen
  clear h3 hrows hvl hone hel hlen
  go_enter Try.func46, Try.ntmps46
  go_wp2_with fail
  go_loop [3, 11] (fun s i => ∃ k : Nat, k ≤ xss.length ∧ i = .int .i64 k ∧ s = .int .i64 (((xss.take k).flatten.length : Nat) : Int)) (fun _ i => xss.length - (intOf i).toNat)
  case atStart => exact ⟨0, Nat.zero_le _, rfl, by simp⟩
  case round =>
    obtain ⟨k, hk, rfl, rfl⟩ := hrel
    by_cases hlt : k < xss.length
    · obtain ⟨b, off, ea, ec, rfl, hcell, q1, q2, q3, q4⟩ := HEL.out k hlt
      have hl1 := HFL.out k hlt
      have hl2 := HLE.out (k + 1)
      have hl3 := HLEN.out
      have HL := Lib.hid hl1
      have hb1 : (xss.take k).flatten.length + (xss.getD k []).length ≤ 1000000 := by omega
      clear hl1 hl2 hl3 q2 q3 q4
      generalize xss.getD k [] = xs at *
      generalize hsz : (xss.take k).flatten.length = m at *
      clear hsz
      go_wp2_with fail
      go_round
      case rel => exact ⟨k + 1, by omega, by go_num, by rw [HL.out]; go_num⟩
      case measure => simp [intOf]; omega
    · obtain rfl : k = xss.length := by omega
      have hN : (List.map List.length xss).sum ≤ 1000000 := by have := HLEN.out; rw [List.length_flatten] at this; exact this
      have hg := grow_int _ hN w
      have HG := Lib.hid hg
      clear hg hlt
      go_wp2_with fail
      generalize (List.map List.length xss).sum = N at *
      refine HG.out.mono ?_
      rintro e w1 ⟨v1, rfl, ho1, hb1⟩
      have HB1 := Lib.hid hb1
      have HO1 := Lib.hid ho1
      clear hb1 ho1
      go_wp2_with fail
      go_loopw [6, 27] (fun r i wr => ∃ k : Nat, k ≤ xss.length ∧ i = .int .i64 k ∧ wr.ownsRow w.heap.size 3 1 r (xss.take k).flatten.length (xss.take k).flatten ∧ Bel w wr) (fun _ i _ => xss.length - (intOf i).toNat)
      case atStart => exact ⟨0, Nat.zero_le _, rfl, by simpa using HO1.out, HB1.out⟩
      case round =>
        obtain ⟨k, hk2, rfl, ho, hb⟩ := hrel
        by_cases hlt : k < xss.length
        · obtain ⟨b, off, ea, ec, rfl, hcell, q1, q2, q3, q4⟩ := HEL.out k hlt
          have hl1 := HFL.out k hlt
          have hl2 := HLE.out (k + 1)
          have hl3 := HLEN.out
          have HL := Lib.hid hl1
          have HS := Lib.hid (HFS.out k hlt)
          have hb1 : (xss.take k).flatten.length + (xss.getD k []).length ≤ 1000000 := by omega
          have hcell2 := hb.cell hcell
          have q3' := q3 wr hb
          have hbs := hb.size
          have HO := Lib.hid ho
          have HB := Lib.hid hb
          have Q3 := Lib.hid q3'
          have Q4 := Lib.hid q4
          clear hl1 hl2 hl3 q3 q4 ho hb q3' hcell
          generalize xss.getD k [] = xs at *
          generalize (xss.take k).flatten = pre at *
          cases ea with
          | none =>
            have h0 := q2 rfl
            subst h0
            have hx0 : xs = [] := List.length_eq_zero_iff.1 (by omega)
            subst hx0
            go_wp2_with (at_builtin; refine wpList_append_own_none rfl _ _ 32 rfl w.heap.size 3 i0 1 Try.underlying32 hi _ _ _ rfl HO.out rfl ?_)
            go_roundw
            case rel => exact ⟨k + 1, by omega, by go_num, by rw [HS.out, List.append_nil]; exact HO.out, HB.out⟩
            case measure => simp [intOf]; omega
          | some ad =>
            have hm1 : pre.length + xs.length ≤ maxLen := by unfold maxLen; omega
            have hm2 : (pre.length + xs.length) * 8 ≤ 140737488355328 := by omega
            go_wp2_with (at_builtin; refine wpList_append_own _ rfl _ _ 32 rfl w.heap.size 3 i0 (.int .i64 0) 1 8 Try.underlying32 hi hz0 hz1 hz2 rfl (by decide) _ _ _ rfl HO.out ad xs.length ec xs rfl (by simp) (Q3.out ad rfl) Q4.out hm1 hm2 hbs ?_; intro v' w2 hown2 hgrow _; have HO2 := Lib.hid hown2; have HB2 := Lib.hid (HB.out.grown hgrow (fun k hk => (HO.out.lt k hk).1)); clear hown2 hgrow)
            go_roundw
            case rel => exact ⟨k + 1, by omega, by go_num, by rw [HS.out, List.length_append]; exact HO2.out, HB2.out⟩
            case measure => simp [intOf]; omega
        · obtain rfl : k = xss.length := by omega
          have HT := Lib.hid (show xss.take xss.length = xss from List.take_length)
          have HO := Lib.hid ho
          have HB := Lib.hid hb
          clear ho hb hlt
          go_wp2_with fail
          go_ret
          exact ⟨_, rfl, by have h := HO.out; rw [HT.out] at h; exact h, HB.out⟩

set_option maxHeartbeats 800000 in
set_option maxRecDepth 100000 in
theorem concat_ints (v : Value) (xss : List (List Value)) (w : World) (h : Rows2 w v xss) (hone : ∀ xs, xs ∈ xss → ∀ u, u ∈ xs → u.oneCell' = true) (hlen : xss.flatten.length ≤ 1000000) :
    Calls Try.prog 104 #[v] w fun e w' => ∃ r, e = .returned r ∧ w'.ownsRow w.heap.size 32 1 r xss.flatten.length xss.flatten ∧ Bel w w' := by
  obtain ⟨i0, hi, hz0, hz1, hz2⟩ := info_parts Try.info32
  obtain ⟨vs, ⟨a, c, rfl, h1, h2, -, h3⟩, hvl, hrows⟩ := h
  rw [hvl] at h1 h3 ⊢
  unfold maxLen at h2
  have hel : ∀ k, k < xss.length → ∃ b off ea ec, a = some ⟨b, off, none⟩ ∧ w.cell? ⟨b, off + k, none⟩ = some (.slice ea (xss.getD k []).length ec) ∧ (xss.getD k []).length ≤ ec ∧ (ea = none → ec = 0) ∧
      (∀ W, Bel w W → ∀ ad, ea = some ad → ∀ j u, (xss.getD k [])[j]? = some u → W.cell? (ad.add j) = some u) ∧ (∀ u, u ∈ xss.getD k [] → u.oneCell' = true) := by
    intro k hk
    obtain ⟨b, off, e, q⟩ := h3 k hk
    obtain ⟨ea, ec, e2, q1, q2, q3, q4⟩ := hrows k hk
    refine ⟨b, off, ea, ec, e, by rw [q, e2], q1, q3, fun W hW ad hea j u hj => ?_, hone _ (by rw [getD_lt _ _ _ hk]; exact List.getElem_mem hk)⟩
    obtain ⟨hjl, hju⟩ := List.getElem?_eq_some_iff.1 hj
    obtain ⟨b', off', e', q'⟩ := q4 j hjl
    rw [hea] at e'
    injection e' with e'
    subst e'
    rw [getD_lt _ _ _ hjl] at q'
    have h9 := hW.cell q'
    rw [hju] at h9
    rw [addr_add]
    exact h9
  have HEL := Lib.hid hel
  have HFL := Lib.hid (flat_len xss)
  have HFS := Lib.hid (flat_snoc xss)
  have HLE := Lib.hid (flat_le xss)
  have HLEN := Lib.hid hlen
  clear h3 hrows hvl hone hel hlen
  go_enter Try.func104, Try.ntmps104
  go_wp2_with fail
  go_loop [3, 11] (fun s i => ∃ k : Nat, k ≤ xss.length ∧ i = .int .i64 k ∧ s = .int .i64 (((xss.take k).flatten.length : Nat) : Int)) (fun _ i => xss.length - (intOf i).toNat)
  case atStart => exact ⟨0, Nat.zero_le _, rfl, by simp⟩
  case round =>
    obtain ⟨k, hk, rfl, rfl⟩ := hrel
    by_cases hlt : k < xss.length
    · obtain ⟨b, off, ea, ec, rfl, hcell, q1, q2, q3, q4⟩ := HEL.out k hlt
      have hl1 := HFL.out k hlt
      have hl2 := HLE.out (k + 1)
      have hl3 := HLEN.out
      have HL := Lib.hid hl1
      have hb1 : (xss.take k).flatten.length + (xss.getD k []).length ≤ 1000000 := by omega
      clear hl1 hl2 hl3 q2 q3 q4
      generalize xss.getD k [] = xs at *
      generalize hsz : (xss.take k).flatten.length = m at *
      clear hsz
      go_wp2_with fail
      go_round
      case rel => exact ⟨k + 1, by omega, by go_num, by rw [HL.out]; go_num⟩
      case measure => simp [intOf]; omega
    · obtain rfl : k = xss.length := by omega
      have hN : (List.map List.length xss).sum ≤ 1000000 := by have := HLEN.out; rw [List.length_flatten] at this; exact this
      have hg := grow_ints _ hN w
      have HG := Lib.hid hg
      clear hg hlt
      go_wp2_with fail
      generalize (List.map List.length xss).sum = N at *
      refine HG.out.mono ?_
      rintro e w1 ⟨v1, rfl, ho1, hb1⟩
      have HB1 := Lib.hid hb1
      have HO1 := Lib.hid ho1
      clear hb1 ho1
      go_wp2_with fail
      go_loopw [6, 27] (fun r i wr => ∃ k : Nat, k ≤ xss.length ∧ i = .int .i64 k ∧ wr.ownsRow w.heap.size 32 1 r (xss.take k).flatten.length (xss.take k).flatten ∧ Bel w wr) (fun _ i _ => xss.length - (intOf i).toNat)
      case atStart => exact ⟨0, Nat.zero_le _, rfl, by simpa using HO1.out, HB1.out⟩
      case round =>
        obtain ⟨k, hk2, rfl, ho, hb⟩ := hrel
        by_cases hlt : k < xss.length
        · obtain ⟨b, off, ea, ec, rfl, hcell, q1, q2, q3, q4⟩ := HEL.out k hlt
          have hl1 := HFL.out k hlt
          have hl2 := HLE.out (k + 1)
          have hl3 := HLEN.out
          have HL := Lib.hid hl1
          have HS := Lib.hid (HFS.out k hlt)
          have hb1 : (xss.take k).flatten.length + (xss.getD k []).length ≤ 1000000 := by omega
          have hcell2 := hb.cell hcell
          have q3' := q3 wr hb
          have hbs := hb.size
          have HO := Lib.hid ho
          have HB := Lib.hid hb
          have Q3 := Lib.hid q3'
          have Q4 := Lib.hid q4
          clear hl1 hl2 hl3 q3 q4 ho hb q3' hcell
          generalize xss.getD k [] = xs at *
          generalize (xss.take k).flatten = pre at *
          cases ea with
          | none =>
            have h0 := q2 rfl
            subst h0
            have hx0 : xs = [] := List.length_eq_zero_iff.1 (by omega)
            subst hx0
            go_wp2_with (at_builtin; refine wpList_append_own_none rfl _ _ 35 rfl w.heap.size 32 i0 1 Try.underlying35 hi _ _ _ rfl HO.out rfl ?_)
            go_roundw
            case rel => exact ⟨k + 1, by omega, by go_num, by rw [HS.out, List.append_nil]; exact HO.out, HB.out⟩
            case measure => simp [intOf]; omega
          | some ad =>
            have hm1 : pre.length + xs.length ≤ maxLen := by unfold maxLen; omega
            have hm2 : (pre.length + xs.length) * 24 ≤ 140737488355328 := by omega
            go_wp2_with (at_builtin; refine wpList_append_own _ rfl _ _ 35 rfl w.heap.size 32 i0 (.slice none 0 0) 1 24 Try.underlying35 hi hz0 hz1 hz2 rfl (by decide) _ _ _ rfl HO.out ad xs.length ec xs rfl (by simp) (Q3.out ad rfl) Q4.out hm1 hm2 hbs ?_; intro v' w2 hown2 hgrow _; have HO2 := Lib.hid hown2; have HB2 := Lib.hid (HB.out.grown hgrow (fun k hk => (HO.out.lt k hk).1)); clear hown2 hgrow)
            go_roundw
            case rel => exact ⟨k + 1, by omega, by go_num, by rw [HS.out, List.length_append]; exact HO2.out, HB2.out⟩
            case measure => simp [intOf]; omega
        · obtain rfl : k = xss.length := by omega
          have HT := Lib.hid (show xss.take xss.length = xss from List.take_length)
          have HO := Lib.hid ho
          have HB := Lib.hid hb
          clear ho hb hlt
          go_wp2_with fail
          go_ret
          exact ⟨_, rfl, by have h := HO.out; rw [HT.out] at h; exact h, HB.out⟩

end Go.Proofs.Ytpkadofgmhninaa
namespace Go.Proofs.Ytpkadofgmhninaa
open Go.RowKit

theorem ownsRow_bel {w A B : World} {e : TypeId} {size n : Nat} {v : Value} {xs : List Value} (h : A.ownsRow w.heap.size e size v n xs) (hb : Bel A B) : B.ownsRow w.heap.size e size v n xs := by
  obtain ⟨h1, h2 | ⟨g, cap, cur, r1, r2, r3, r⟩⟩ := h
  · exact ⟨h1, .inl h2⟩
  · exact ⟨h1, .inr ⟨g, cap, cur, r1, r2, (hb.block g (Array.getElem?_eq_some_iff.1 r3).1).trans r3, r⟩⟩

theorem take_map_snoc {α : Type} (f : α → List Value) (xs : List α) (k : Nat) (hk : k < xs.length) : (xs.take (k + 1)).flatMap f = (xs.take k).flatMap f ++ f xs[k] := by
  rw [List.take_succ_eq_append_getElem hk, List.flatMap_append]; simp

set_option maxHeartbeats 800000 in
set_option maxRecDepth 100000 in
theorem mapped_int (g : FuncId) (lb : Array Value) (eg : ∀ args w, (callFunc g args).run Try.prog w = .ok (.enter g args) w) (v : Value) (xs : List Int) (f : Int → Int) (w : World) (h : Ints w v xs) (hlen : xs.length ≤ 1000000)
    (hf : ∀ x, x ∈ xs → ∀ W, Bel w W → Calls Try.prog g (#[.int .i64 x] ++ lb) W fun e W' => e = .returned (.int .i64 (f x)) ∧ Bel W W') :
    Calls Try.prog 66 #[v, .func (.func g) #[] lb] w fun e w' => ∃ r, e = .returned r ∧ Ints w' r (xs.map f) ∧ Bel w w' := by
  obtain ⟨i0, hi, hz0, hz1, hz2⟩ := info_parts Try.info3
  obtain ⟨a, c, rfl, h1, h2, -, h3⟩ := h
  unfold maxLen at h2
  have hst : ∀ k, k < xs.length → (xs.take (k + 1)).map (fun x => Value.int .i64 (f x)) = (xs.take k).map (fun x => Value.int .i64 (f x)) ++ [.int .i64 (f (xs.getD k 0))] := fun k hk => by
    rw [List.take_succ_eq_append_getElem hk, List.map_append, getD_lt _ _ _ hk]; rfl
  have HST := Lib.hid hst
  have HF := Lib.hid hf
  clear hst hf
  have m1 : i0.bytes * xs.length ≤ 281474976710656 := by rw [hz2]; omega
  have m2 : xs.length ≤ maxLen := by unfold maxLen; omega
  go_enter Try.func66, Try.ntmps66
  go_wp2_with (at_make; refine wpList_make_own _ rfl _ _ 32 rfl w.heap.size 3 i0 (.int .i64 0) 1 Try.underlying32 hi hz0 hz1 _ _ _ xs.length rfl rfl rfl m1 m2 (Nat.le_refl _) ?_; intro w1 ho1 hg1; have HO1 := Lib.hid ho1; have HB1 := Lib.hid ((Bel.refl w).grown hg1 (fun _ e => by cases e)); clear ho1 hg1)
  go_loopw [5, 13] (fun r i wr => ∃ k : Nat, k ≤ xs.length ∧ i = .int .i64 k ∧ wr.ownsRow w.heap.size 3 1 r k ((xs.take k).map (fun x => Value.int .i64 (f x))) ∧ Bel w wr) (fun _ i _ => xs.length - (intOf i).toNat)
  case atStart => exact ⟨0, Nat.zero_le _, rfl, HO1.out, HB1.out⟩
  case round =>
    obtain ⟨k, hk, rfl, ho, hb⟩ := hrel
    by_cases hlt : k < xs.length
    · obtain ⟨b, off, rfl, hcell⟩ := h3 k hlt
      have hcell' := hb.cell hcell
      have hc := HF.out (xs.getD k 0) (by rw [getD_lt _ _ _ hlt]; exact List.getElem_mem hlt) wr hb
      have HS := Lib.hid (HST.out k hlt)
      have HO := Lib.hid ho
      have HB := Lib.hid hb
      clear h3 hcell ho hb
      generalize xs.getD k 0 = x at *
      go_wp2_with fail
      refine hc.mono ?_
      rintro e w2 ⟨rfl, hb2⟩
      have HB2 := Lib.hid hb2
      clear hb2 hc
      have hm1 : k + 1 ≤ maxLen := by unfold maxLen; omega
      have hm2 : (k + 1) * 8 ≤ 140737488355328 := by omega
      have hm3 : w.heap.size ≤ (w2.alloc (.cells #[.int .i64 (f x)] 3)).heap.size := by have := HB.out.size; have := HB2.out.size; simp; omega
      go_wp2_with (at_builtin; refine wpList_append_own _ rfl _ _ 32 rfl w.heap.size 3 i0 (.int .i64 0) 1 8 Try.underlying32 hi hz0 hz1 hz2 rfl (by decide) _ _ _ rfl ((ownsRow_bel HO.out HB2.out).alloc _) ⟨w2.heap.size, 0, none⟩ 1 1 [.int .i64 (f x)] rfl rfl (cell_one_new _ _ _) (by simp [Value.oneCell']) hm1 hm2 hm3 ?_; intro v' w3 hown2 hgrow _; have HO2 := Lib.hid hown2; have HB3 := Lib.hid (((HB.out.trans HB2.out).alloc _).grown hgrow (fun k hk => (HO.out.lt k hk).1)); clear hown2 hgrow)
      go_roundw
      case rel => exact ⟨k + 1, by omega, by go_num, by rw [HS.out]; exact HO2.out, HB3.out⟩
      case measure => simp [intOf]; omega
    · obtain rfl : k = xs.length := by omega
      have HO := Lib.hid ho
      have HB := Lib.hid hb
      clear ho hb h3 hlt
      go_wp2
      go_ret
      refine ⟨_, rfl, ?_, HB.out⟩
      have h := HO.out
      rw [List.take_length] at h
      exact own_ints (base := w.heap.size) (by rw [List.length_map, List.map_map]; exact h)

end Go.Proofs.Ytpkadofgmhninaa
namespace Go.Proofs.Ytpkadofgmhninaa
open Go.RowKit

/-- A slice of spans. -/
def Spans (w : World) (v : Value) (n : Nat) (lo hi : Nat → Int) : Prop :=
  ∃ (a : Option Addr) (c : Nat), v = .slice a n c ∧ n ≤ c ∧ c ≤ maxLen ∧ (a = none → c = 0) ∧
    ∀ i, i < n → ∃ b off, a = some ⟨b, off, none⟩ ∧ w.cell? ⟨b, off + i * 2, none⟩ = some (.int .i64 (lo i)) ∧ w.cell? ⟨b, off + i * 2 + 1, none⟩ = some (.int .i64 (hi i))
theorem Spans.bel {A B : World} (h : Bel A B) {v : Value} {n : Nat} {lo hi : Nat → Int} (hx : Spans A v n lo hi) : Spans B v n lo hi := by
  obtain ⟨a, c, e, h1, h2, hz, h3⟩ := hx
  refine ⟨a, c, e, h1, h2, hz, fun i hi => ?_⟩
  obtain ⟨b, off, e', k0, k1⟩ := h3 i hi
  exact ⟨b, off, e', h.cell k0, h.cell k1⟩

def spanCells (lo hi : Nat → Int) (n : Nat) : List Value := (List.range n).flatMap fun i => [.int .i64 (lo i), .int .i64 (hi i)]
theorem spanCells_len (lo hi : Nat → Int) (n : Nat) : (spanCells lo hi n).length = n * 2 := by
  unfold spanCells; induction n with
  | zero => rfl
  | succ n ih => rw [List.range_succ, List.flatMap_append, List.length_append, ih]; simp; omega
theorem spanCells_succ (lo hi : Nat → Int) (n : Nat) : spanCells lo hi (n + 1) = spanCells lo hi n ++ [.int .i64 (lo n), .int .i64 (hi n)] := by
  unfold spanCells; rw [List.range_succ, List.flatMap_append]; simp
theorem spanCells_get (lo hi : Nat → Int) (n i : Nat) (h : i < n) : (spanCells lo hi n)[i * 2]? = some (.int .i64 (lo i)) ∧ (spanCells lo hi n)[i * 2 + 1]? = some (.int .i64 (hi i)) := by
  induction n with
  | zero => omega
  | succ n ih =>
    rw [spanCells_succ]
    by_cases e : i = n
    · subst e
      rw [List.getElem?_append_right (by rw [spanCells_len]; omega), List.getElem?_append_right (by rw [spanCells_len]; omega), spanCells_len]
      simp
    · rw [List.getElem?_append_left (by rw [spanCells_len]; omega), List.getElem?_append_left (by rw [spanCells_len]; omega)]
      exact ih (by omega)
theorem own_spans {w : World} {base : Nat} {v : Value} {n : Nat} {lo hi : Nat → Int} (h : w.ownsRow base 54 2 v n (spanCells lo hi n)) : Spans w v n lo hi := by
  obtain ⟨_, ⟨rfl, h0⟩ | ⟨g, cap, cur, rfl, _, hh, h1, h2, h3, h4⟩⟩ := h
  · subst h0
    exact ⟨none, 0, rfl, Nat.le_refl _, Nat.zero_le _, fun _ => rfl, fun _ hi => absurd hi (Nat.not_lt_zero _)⟩
  · refine ⟨_, cap, rfl, h1, h2, nofun, fun i hi' => ⟨g, 0, rfl, ?_⟩⟩
    obtain ⟨q0, q1⟩ := spanCells_get lo hi n i hi'
    rw [← h4] at q0 q1
    rw [List.getElem?_take_of_lt (by omega)] at q0 q1
    simp only [World.cell?, hh]
    constructor
    · simpa using q0
    · simpa using q1

theorem Try.info54 : (Try.prog.info? 54).map (fun i => (i.zero, i.size, i.bytes)) = some (some (.agg #[.int .i64 0, .int .i64 0]), 2, 16) := by kernel_rfl

set_option maxHeartbeats 800000 in
set_option maxRecDepth 100000 in
theorem heats1_any (p : Paint) (w : World) :
    Calls Try.prog 83 #[.agg #[.int .i64 p.hl, .int .i64 p.hh, .int .i64 p.sl, .int .i64 p.sh, .int .i64 p.coats, .int .i64 p.most]] w fun e w' => e = .returned (.agg #[.int .i64 p.hl, .int .i64 p.hh]) ∧ Bel w w' := by
  have hb : ∀ o1 o2, Bel w ((w.alloc o1).alloc o2) := fun _ _ => ((Bel.refl w).alloc _).alloc _
  go_enter Try.func83, Try.ntmps83
  go_wp2
  exact bodyPost_ret (v := .agg #[.int .i64 p.hl, .int .i64 p.hh]) (by simp [results, Try.results83, go_sem]) rfl ⟨rfl, hb _ _⟩

set_option maxHeartbeats 800000 in
set_option maxRecDepth 100000 in
theorem stretches1_any (p : Paint) (w : World) :
    Calls Try.prog 84 #[.agg #[.int .i64 p.hl, .int .i64 p.hh, .int .i64 p.sl, .int .i64 p.sh, .int .i64 p.coats, .int .i64 p.most]] w fun e w' => e = .returned (.agg #[.int .i64 p.sl, .int .i64 p.sh]) ∧ Bel w w' := by
  have hb : ∀ o1 o2, Bel w ((w.alloc o1).alloc o2) := fun _ _ => ((Bel.refl w).alloc _).alloc _
  go_enter Try.func84, Try.ntmps84
  go_wp2
  exact bodyPost_ret (v := .agg #[.int .i64 p.sl, .int .i64 p.sh]) (by simp [results, Try.results84, go_sem]) rfl ⟨rfl, hb _ _⟩

theorem two_new (w : World) (x y : Value) (t : TypeId) : ∀ j u, [x, y][j]? = some u → (w.alloc (.cells #[x, y] t)).cell? ((⟨w.heap.size, 0, none⟩ : Addr).add j) = some u := by
  intro j u h
  obtain ⟨c0, c1⟩ := C2.new w x y t
  rw [addr_add]
  have : j = 0 ∨ j = 1 := by
    rcases j with _ | _ | j
    · exact .inl rfl
    · exact .inr rfl
    · simp at h
  rcases this with rfl | rfl
  · simp at h; rw [← h]; exact c0
  · simp at h; rw [← h]; exact c1

set_option maxHeartbeats 800000 in
set_option maxRecDepth 100000 in
theorem mapped_paint (g : FuncId) (eg : ∀ args w, (callFunc g args).run Try.prog w = .ok (.enter g args) w) (v : Value) (ps : List Paint) (lo hi : Paint → Int) (w : World) (h : Paints w v ps) (hlen : ps.length ≤ 1000000)
    (hf : ∀ (p : Paint) W, Calls Try.prog g #[.agg #[.int .i64 p.hl, .int .i64 p.hh, .int .i64 p.sl, .int .i64 p.sh, .int .i64 p.coats, .int .i64 p.most]] W fun e W' => e = .returned (.agg #[.int .i64 (lo p), .int .i64 (hi p)]) ∧ Bel W W') :
    Calls Try.prog 82 #[v, .func (.func g) #[] #[]] w fun e w' => ∃ r, e = .returned r ∧ Spans w' r ps.length (fun i => lo (ps.getD i ⟨0, 0, 0, 0, 0, 0⟩)) (fun i => hi (ps.getD i ⟨0, 0, 0, 0, 0, 0⟩)) ∧ Bel w w' := by
  obtain ⟨i0, hi0, hz0, hz1, hz2⟩ := info_parts Try.info54
  obtain ⟨a, c, rfl, h1, h2, -, h3⟩ := h
  unfold maxLen at h2
  have HF := Lib.hid hf
  clear hf
  have m1 : i0.bytes * ps.length ≤ 281474976710656 := by rw [hz2]; omega
  have m2 : ps.length ≤ maxLen := by unfold maxLen; omega
  go_enter Try.func82, Try.ntmps82
  go_wp2_with (at_make; refine wpList_make_own _ rfl _ _ 42 rfl w.heap.size 54 i0 (.agg #[.int .i64 0, .int .i64 0]) 2 Try.underlying42 hi0 hz0 hz1 _ _ _ ps.length rfl rfl rfl m1 m2 (Nat.le_refl _) ?_; intro w1 ho1 hg1; have HO1 := Lib.hid ho1; have HB1 := Lib.hid ((Bel.refl w).grown hg1 (fun _ e => by cases e)); clear ho1 hg1)
  go_loopw [5, 13] (fun r i wr => ∃ k : Nat, k ≤ ps.length ∧ i = .int .i64 k ∧ wr.ownsRow w.heap.size 54 2 r k (spanCells (fun i => lo (ps.getD i ⟨0, 0, 0, 0, 0, 0⟩)) (fun i => hi (ps.getD i ⟨0, 0, 0, 0, 0, 0⟩)) k) ∧ Bel w wr) (fun _ i _ => ps.length - (intOf i).toNat)
  case atStart => exact ⟨0, Nat.zero_le _, rfl, HO1.out, HB1.out⟩
  case round =>
    obtain ⟨k, hk, rfl, ho, hb⟩ := hrel
    by_cases hlt : k < ps.length
    · obtain ⟨b, off, rfl, q0, q1, q2, q3, q4, q5⟩ := h3 k hlt
      have d0 := hb.cell q0
      have d1 := hb.cell q1
      have d2 := hb.cell q2
      have d3 := hb.cell q3
      have d4 := hb.cell q4
      have d5 := hb.cell q5
      have hss := spanCells_succ (fun i => lo (ps.getD i ⟨0, 0, 0, 0, 0, 0⟩)) (fun i => hi (ps.getD i ⟨0, 0, 0, 0, 0, 0⟩)) k
      have HS := Lib.hid hss
      have HO := Lib.hid ho
      have HB := Lib.hid hb
      clear h3 q0 q1 q2 q3 q4 q5 ho hb hss
      generalize ps.getD k ⟨0, 0, 0, 0, 0, 0⟩ = p at *
      go_wp2_with fail
      refine (HF.out p _).mono ?_
      rintro e w2 ⟨rfl, hb2⟩
      have HB2 := Lib.hid (((Bel.refl wr).alloc _).trans hb2)
      clear hb2 d0 d1 d2 d3 d4 d5
      have hm1 : k + 1 ≤ maxLen := by unfold maxLen; omega
      have hm2 : (k + 1) * 16 ≤ 140737488355328 := by omega
      have hm3 : w.heap.size ≤ (w2.alloc (.cells #[.int .i64 (lo p), .int .i64 (hi p)] 54)).heap.size := by have := HB.out.size; have := HB2.out.size; simp; omega
      go_wp2_with (at_builtin; refine wpList_append_own _ rfl _ _ 42 rfl w.heap.size 54 i0 (.agg #[.int .i64 0, .int .i64 0]) 2 16 Try.underlying42 hi0 hz0 hz1 hz2 rfl (by decide) _ _ _ rfl ((ownsRow_bel HO.out HB2.out).alloc _) ⟨w2.heap.size, 0, none⟩ 1 1 [.int .i64 (lo p), .int .i64 (hi p)] rfl rfl (two_new _ _ _ _) (by simp [Value.oneCell']) hm1 hm2 hm3 ?_; intro v' w3 hown2 hgrow _; have HO2 := Lib.hid hown2; have HB3 := Lib.hid (((HB.out.trans HB2.out).alloc _).grown hgrow (fun k hk => (HO.out.lt k hk).1)); clear hown2 hgrow)
      go_roundw
      case rel => exact ⟨k + 1, by omega, by go_num, by rw [HS.out]; exact HO2.out, HB3.out⟩
      case measure => simp [intOf]; omega
    · obtain rfl : k = ps.length := by omega
      have HO := Lib.hid ho
      have HB := Lib.hid hb
      clear ho hb h3 hlt
      go_wp2
      go_ret
      exact ⟨_, rfl, own_spans HO.out, HB.out⟩

end Go.Proofs.Ytpkadofgmhninaa
