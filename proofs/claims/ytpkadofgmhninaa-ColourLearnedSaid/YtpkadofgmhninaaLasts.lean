/- Whether nothing is eaten and nothing is fired too often. -/
import Derived.Test.YtpkadofgmhninaaFirings
namespace Go.Proofs.Ytpkadofgmhninaa
open Go.RowKit

theorem eaten_eq (p : Rounds) (a b : Nat) : CSet.eaten p (a, b) = (decide (0 ≤ roundAt p b) && decide (roundAt p b < roundAt p a)) := by
  unfold CSet.eaten roundAt
  cases h1 : CSet.roundOf p b with
  | none => simp
  | some e =>
    cases h2 : CSet.roundOf p a with
    | none => simp
    | some r => simp

theorem roundAt_bound (p : Rounds) (c : Nat) (hp : p.length ≤ 5) : -1 ≤ roundAt p c ∧ roundAt p c ≤ 5 := by
  unfold roundAt
  cases h : CSet.roundOf p c with
  | none => simp only; omega
  | some i =>
    have := (List.findIdx?_eq_some_iff_getElem.1 h).1
    simp only; omega

set_option maxRecDepth 100000 in
set_option maxHeartbeats 1000000 in
theorem eaten_any (nr gv : Int) (pv ev rv : Value) (p : Rounds) (a b : Nat) (w : World) (hr : Rnds w rv p) (hp : p.length ≤ 5) :
    Calls Try.prog 86 #[.agg #[pv, .int .i64 nr, .int .i64 gv, ev, rv], .agg #[.int .i64 (a : Int), .int .i64 (b : Int)]] w fun e w' => e = .returned (.bool (CSet.eaten p (a, b))) ∧ Bel w w' := by
  have hk1 := fun W (hW : Bel w W) => roundOf_any nr gv pv ev rv p b W (hr.bel hW)
  have hk2 := fun W (hW : Bel w W) => roundOf_any nr gv pv ev rv p a W (hr.bel hW)
  have hE := eaten_eq p a b
  have hbb := roundAt_bound p b hp
  have hba := roundAt_bound p a hp
  have c5 := (C5.new w pv (.int .i64 nr) (.int .i64 gv) ev rv 95).bel ((Bel.refl _).alloc (.cells #[.int .i64 (a : Int), .int .i64 (b : Int)] 85))
  have c2 := C2.new (w.alloc (.cells #[pv, .int .i64 nr, .int .i64 gv, ev, rv] 95)) (.int .i64 (a : Int)) (.int .i64 (b : Int)) 85
  rw [World.size_alloc] at c2
  have b0 := ((Bel.refl w).alloc (.cells #[pv, .int .i64 nr, .int .i64 gv, ev, rv] 95)).alloc (.cells #[.int .i64 (a : Int), .int .i64 (b : Int)] 85)
  obtain ⟨a0, c, rfl, h1, h2, -, -⟩ := hr
  generalize roundAt p b = rb at *
  generalize roundAt p a = ra at *
  generalize CSet.eaten p (a, b) = R at *
  have K1 := Lib.hid hk1
  have K2 := Lib.hid hk2
  have HE := Lib.hid hE
  have C5' := Lib.hid c5
  have C2' := Lib.hid c2
  have B0 := Lib.hid b0
  clear hk1 hk2 hE b0
  obtain ⟨q0, q1, q2, q3, q4⟩ := c5
  obtain ⟨d0, d1⟩ := c2
  by_cases h0 : 0 ≤ rb
  · go_enter Try.func86, Try.ntmps86
    go_wp2_with fail
    refine (K1.out _ B0.out).mono ?_
    rintro e w1 ⟨rfl, hb⟩
    have C51 := Lib.hid (C5'.out.bel hb)
    have C21 := Lib.hid (C2'.out.bel hb)
    have B1 := Lib.hid (B0.out.trans hb)
    clear q0 q1 q2 q3 q4 d0 d1 hb
    obtain ⟨q0, q1, q2, q3, q4⟩ := C51.out
    obtain ⟨d0, d1⟩ := C21.out
    go_wp2_with fail
    refine (K2.out _ B1.out).mono ?_
    rintro e w2 ⟨rfl, hb⟩
    have B2 := Lib.hid (B1.out.trans hb)
    clear q0 q1 q2 q3 q4 d0 d1 hb
    go_wp2
    go_ret
    exact ⟨ret_bool (by rw [HE.out]; simp [h0]), B2.out⟩
  · have hd : decide (0 ≤ rb) = false := by simpa using h0
    go_enter Try.func86, Try.ntmps86
    go_wp2_with fail
    refine (K1.out _ B0.out).mono ?_
    rintro e w1 ⟨rfl, hb⟩
    have B1 := Lib.hid (B0.out.trans hb)
    clear q0 q1 q2 q3 q4 d0 d1 hb
    go_wp2
    go_ret
    exact ⟨ret_bool (by rw [HE.out, hd]; rfl), B1.out⟩

theorem any_of {α : Type} (l : List α) (d : α) (P : α → Bool) (m : Nat) (hm : m ≤ l.length) (h1 : ∀ i, i < m → P (l.getD i d) = false) (h2 : m < l.length → P (l.getD m d) = true) : decide (m < l.length) = l.any P := by
  by_cases e : m < l.length
  · simp only [e, decide_true]
    symm
    rw [List.any_eq_true]
    have := h2 e
    rw [getD_lt _ _ _ e] at this
    exact ⟨_, List.getElem_mem e, this⟩
  · simp only [e, decide_false]
    symm
    rw [List.any_eq_false]
    intro x hx
    obtain ⟨i, hi, rfl⟩ := List.getElem_of_mem hx
    have := h1 i (by omega)
    rw [getD_lt _ _ _ hi] at this
    simp [this]

set_option maxRecDepth 100000 in
set_option maxHeartbeats 1000000 in
theorem lasts_any (s : CSet) (hs : s.Ok) (pv ev rv : Value) (p : Rounds) (w : World) (hf : Fd w pv ev rv s p) (hp : PlanOk s.paints.length p) :
    Calls Try.prog 58 #[.agg #[pv, .int .i64 s.near, .int .i64 s.give, ev, rv]] w fun e w' => e = .returned (.bool (s.lasts p)) ∧ Bel w w' := by
  have hk1 := fun W (hW : Bel w W) => firings_any s hs pv ev rv p W (hf.bel hW) hp
  have hn5 := hs.n5
  have hlen := Nat.le_trans hp.len hn5
  have hfb := fire_bound s hs p (fun r hr => (hp.asc r hr).1)
  have c5 := C5.new w pv (.int .i64 s.near) (.int .i64 s.give) ev rv 95
  have b0 := (Bel.refl w).alloc (.cells #[pv, .int .i64 s.near, .int .i64 s.give, ev, rv] 95)
  have hpp := hf.paints
  obtain ⟨pa, pc, rfl, hp1, hp2, -, hp3⟩ := hf.paints
  obtain ⟨ea, ec, rfl, he1, he2, -, he3⟩ := hf.pairs
  have hk2 := fun W0 (hW0 : Bel w W0) => contFunc_pairm 86 (.agg #[.slice pa s.paints.length pc, .int .i64 s.near, .int .i64 s.give, .slice ea s.eats.length ec, rv]) (enters_of Try.func86 (by kernel_rfl) rfl) ea s.eats.length ec
    (fun k => ((s.eats.getD k (0, 0)).1 : Int)) (fun k => ((s.eats.getD k (0, 0)).2 : Int)) (fun k => CSet.eaten p (s.eats.getD k (0, 0))) (fun _ W => Bel W0 W) (by omega)
    (fun k W hk h => by
      obtain ⟨b, off, e, q0, q1⟩ := he3 k hk
      have hw := hW0.trans h
      exact ⟨b, off, e, hw.cell q0, hw.cell q1⟩)
    (fun k W hk h => (eaten_any s.near s.give _ _ rv p (s.eats.getD k (0, 0)).1 (s.eats.getD k (0, 0)).2 W (hf.rounds.bel (hW0.trans h)) hlen).mono (fun e W' ⟨he, hw⟩ => ⟨he, h.trans hw⟩))
    W0 (Bel.refl W0)
  have K1 := Lib.hid hk1
  have K2 := Lib.hid hk2
  have C5' := Lib.hid c5
  have B0 := Lib.hid b0
  have HP3 := Lib.hid hp3
  clear hk1 hk2 b0 hp3 he3 hpp hf
  unfold maxLen at hp2 he2
  obtain ⟨q0, q1, q2, q3, q4⟩ := c5
  go_enter Try.func58, Try.ntmps58
  go_wp2_with fail
  refine (K1.out _ B0.out).mono ?_
  rintro e w1 ⟨ga, gb, rfl, hg1, hg2, hg3, hb⟩
  have C51 := Lib.hid (C5'.out.bel hb)
  have B1 := Lib.hid (B0.out.trans hb)
  have HG3 := Lib.hid hg3
  clear q0 q1 q2 q3 q4 hb hg3
  obtain ⟨q0, q1, q2, q3, q4⟩ := C51.out
  unfold maxLen at hg2
  have hl1 : ∀ c, c < s.paints.length → (s.paint c).most < (s.fire p).1 c → s.lasts p = false := fun c hc h => by
    unfold CSet.lasts
    have : (List.range s.paints.length).all (fun c => decide ((s.fire p).1 c ≤ (s.paint c).most)) = false := by
      rw [List.all_eq_false]
      exact ⟨c, by simpa using hc, by simpa using h⟩
    rw [this]; rfl
  have hl2 : (∀ c, c < s.paints.length → (s.fire p).1 c ≤ (s.paint c).most) → s.lasts p = !(s.eats.any (CSet.eaten p)) := fun h => by
    unfold CSet.lasts
    have : (List.range s.paints.length).all (fun c => decide ((s.fire p).1 c ≤ (s.paint c).most)) = true := by
      rw [List.all_eq_true]
      intro c hc
      simpa using h c (by simpa using hc)
    rw [this]; rfl
  have HL1 := Lib.hid hl1
  have HL2 := Lib.hid hl2
  clear hl1 hl2
  go_wp2_with fail
  go_loop [14] (fun i => ∃ k : Nat, k ≤ s.paints.length ∧ i = .int .i64 k ∧ ∀ c, c < k → (s.fire p).1 c ≤ (s.paint c).most) (fun i => s.paints.length - (intOf i).toNat)
  case atStart => exact ⟨0, Nat.zero_le _, rfl, fun _ h => absurd h (Nat.not_lt_zero _)⟩
  case round =>
    obtain ⟨k, hk, rfl, hh⟩ := hrel
    have HH := Lib.hid hh
    clear hh
    by_cases hlt : k < s.paints.length
    · have hcell := HG3.out k hlt
      obtain ⟨b, off, rfl, p0, p1, p2, p3, p4, p5⟩ := HP3.out k hlt
      have e5 := B1.out.cell p5
      have HL1' := Lib.hid (HL1.out k hlt)
      have hfk : (s.fire p).1 k = (s.fire p).1 k := rfl
      clear p0 p1 p2 p3 p4 p5 hfk
      by_cases hc : (s.fire p).1 k ≤ (s.paint k).most
      · have HC := Lib.hid hc
        have hc : (s.fire p).1 k ≤ (s.paints.getD k ⟨0, 0, 0, 0, 0, 0⟩).most := hc
        generalize s.paints.getD k ⟨0, 0, 0, 0, 0, 0⟩ = P at *
        generalize hF : (s.fire p).1 k = F at *
        have HF := Lib.hid hF
        clear hF
        go_wp2_with fail
        go_round
        case rel =>
          refine ⟨k + 1, by omega, by go_num, fun c hc' => ?_⟩
          by_cases e : c = k
          · rw [e, HF.out]; exact HC.out
          · exact HH.out c (by omega)
        case measure => simp [intOf]; omega
      · have HR := Lib.hid (HL1'.out (by omega))
        have hc : ¬ (s.fire p).1 k ≤ (s.paints.getD k ⟨0, 0, 0, 0, 0, 0⟩).most := hc
        generalize s.paints.getD k ⟨0, 0, 0, 0, 0, 0⟩ = P at *
        generalize hF : (s.fire p).1 k = F at *
        clear hF
        go_wp2_with fail
        go_ret
        exact ⟨ret_bool HR.out.symm, B1.out⟩
    · have HR := Lib.hid (HL2.out (fun c hc => HH.out c (by omega)))
      go_wp2_with fail
      refine (K2.out _ B1.out).mono ?_
      rintro e w2 ⟨m, hm, rfl, h1, h2, hb⟩
      have H1 := Lib.hid h1
      have H2 := Lib.hid h2
      have B2 := Lib.hid (B1.out.trans hb)
      clear h1 h2 hb q0 q1 q2 q3 q4
      go_wp2
      go_ret
      refine ⟨ret_bool ?_, B2.out⟩
      rw [HR.out, ← any_of s.eats (0, 0) (CSet.eaten p) m hm H1.out H2.out]

end Go.Proofs.Ytpkadofgmhninaa
