/- Rounds from the last one on. -/
import Derived.Test.YtpkadofgmhninaaRf
namespace Go.Proofs.Ytpkadofgmhninaa
open Go.RowKit
attribute [local go_sem] Oper.semAt_some

theorem drop_rev (p : Rounds) (k : Nat) (hk : k < p.length) : (p.drop k).reverse = (p.drop (k + 1)).reverse ++ [p.getD k []] := by
  rw [List.drop_eq_getElem_cons hk, List.reverse_cons, getD_lt _ _ _ hk]
theorem drop_rev_prefix (p : Rounds) (k : Nat) : (p.drop k).reverse <+: p.reverse := by
  conv => rhs; rw [← List.take_append_drop k p, List.reverse_append]
  exact List.prefix_append _ _

/-- v is what a slice of rounds holds of its round x. -/
def Elt (rv : Value) (p : Rounds) (W : World) (v : Value) (x : List Nat) : Prop :=
  ∃ k a c b off, k < p.length ∧ x = p.getD k [] ∧ rv = .slice a p.length c ∧ a = some ⟨b, off, none⟩ ∧ W.cell? ⟨b, off + k, none⟩ = some v
theorem Elt.cols {rv v : Value} {p : Rounds} {w W : World} {x : List Nat} (h : Elt rv p W v x) (hr : Rnds w rv p) (hb : Bel w W) : Cols w v x := by
  obtain ⟨k, a, c, b, off, hk, rfl, rfl, rfl, hc⟩ := h
  obtain ⟨a', c', e, _, _, _, h3⟩ := hr
  injection e with e1 e2 e3
  subst e1
  obtain ⟨b', off', v', e4, hc', hcol⟩ := h3 k hk
  injection e4 with e4
  injection e4 with e5 e6
  subst e5 e6
  have := hb.cell hc'
  rw [hc] at this
  injection this with this
  subst this
  exact hcol
def EBack (rv : Value) (p : Rounds) (W : World) (vs : Array Value) (x : List Nat) : Prop := ∃ (i : Int) (v : Value), vs = #[.int .i64 i, v] ∧ Elt rv p W v x

set_option maxRecDepth 100000 in
set_option maxHeartbeats 1000000 in
theorem backward1_seq (B : Nat) (rv : Value) (p : Rounds) :
    SeqQ 87 #[] #[.pointer (some ⟨B, 0, none⟩)] (EBack rv p) p.reverse (fun W => Boxed W B 35 rv ∧ Rnds W rv p) := by
  intro l J Jx W hD hJ hJx hY h0
  obtain ⟨hb, hr⟩ := hD
  have hr0 := Lib.hid hr
  obtain ⟨a, c, rfl, h1, h2, -, -⟩ := hr
  unfold maxLen at h2
  have hc := hb.cell
  refine (callsIn_wide (n := 0)).1 (callsIn_of_wp Try.func87 rfl trivial ?_ rfl)
  simp only [Try.ntmps87, List.size_toArray, List.length_cons, List.length_nil, Nat.reduceAdd, Nat.reduceSub, Array.replicate_succ, Array.replicate_zero, List.push_toArray, List.append_toArray, List.nil_append, List.cons_append]
  gi_wp2
  gi_loopw [3] (fun i wr => ∃ k : Nat, k ≤ p.length ∧ i = .int .i64 ((k : Int) - 1) ∧ J (p.drop k).reverse wr ∧ Boxed wr B 35 (.slice a p.length c) ∧ Rnds wr (.slice a p.length c) p) (fun i _ => (intOf i + 1).toNat)
  case atStart => exact ⟨p.length, Nat.le_refl _, rfl, by simpa using h0, hb, hr0.out⟩
  case round =>
    obtain ⟨k, hk, rfl, hj, hb1, hr1⟩ := hrel
    have HR := Lib.hid hr1
    cases k with
    | zero =>
      have hfin : (p.drop 0).reverse = p.reverse := by simp
      rw [hfin] at hj
      have HJ := Lib.hid hj
      have HB := Lib.hid hb1
      clear hj hb1 hr1 hY hJ hJx hb hc hfin
      gi_wp2
      go_end0
      exact ⟨⟨_, rfl⟩, ⟨HB.out, HR.out⟩, .inl HJ.out⟩
    | succ k =>
      have hlt : k < p.length := by omega
      have e1 : ((k + 1 : Nat) : Int) - 1 = (k : Int) := by omega
      rw [e1]
      have hdr := Lib.hid (drop_rev p k hlt)
      have hpf := drop_rev_prefix p k
      have hc1 := hb1.cell
      obtain ⟨a', c', e2, _, _, _, h3⟩ := hr1
      injection e2 with e2 e3 e4
      subst e2
      subst e4
      obtain ⟨b, off, v, rfl, hcell, hcols⟩ := h3 k hlt
      have hy := hY (p.drop (k + 1)).reverse (p.getD k []) #[.int .i64 (k : Int), v] wr hj ⟨hb1, HR.out⟩ (by rw [← hdr.out]; exact hpf) ⟨_, v, rfl, k, _, _, b, off, hlt, rfl, rfl, rfl, hcell⟩
      rw [← hdr.out] at hy
      obtain ⟨fn, tmps, assign, body, hyr, hR⟩ := hy
      have HPF := Lib.hid hpf
      have HJ := Lib.hid hJ
      clear hj hb1 h3 hY hJ hJx hb hc hpf hcols e1 hdr
      generalize p.getD k [] = x at *
      gi_wp2
      refine ⟨rfl, hR.mono ?_⟩
      rintro e W3 ⟨⟨hb3, hr3⟩, _, (⟨rfl, hJ3⟩ | ⟨rfl, hJx3⟩)⟩
      · have H1 := Lib.hid hb3
        have H2 := Lib.hid hr3
        have H3 := Lib.hid hJ3
        have hc3 := hb3.cell
        clear hb3 hr3 hJ3 hR hyr
        gi_wp2
        go_roundw
        case rel => exact ⟨k, by omega, rfl, H3.out, H1.out, H2.out⟩
        case measure => simp [intOf]
      · have H1 := Lib.hid hb3
        have H2 := Lib.hid hr3
        have H3 := Lib.hid hJx3
        clear hb3 hr3 hJx3 hR hyr
        gi_wp2
        refine bodyPost_ret (results_none rfl _ _ _) rfl ?_
        exact ⟨⟨_, rfl⟩, ⟨H1.out, H2.out⟩, .inr ⟨_, HPF.out, H3.out⟩⟩

end Go.Proofs.Ytpkadofgmhninaa
