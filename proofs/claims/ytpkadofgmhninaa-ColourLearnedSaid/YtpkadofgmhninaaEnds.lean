/- The ends of the spans by the bits of a number. -/
import Derived.Test.YtpkadofgmhninaaMade
import Derived.Sort.BigQuietIn
namespace Go.Proofs.Ytpkadofgmhninaa
open Go.RowKit
attribute [local go_sem] Oper.semAt_some

def endH (s : CSet) (y c : Nat) : Nat := (if y / 2 ^ c % 2 = 1 then (s.paint c).hh else (s.paint c).hl).toNat
def endT (s : CSet) (y c : Nat) : Nat := (if y / 2 ^ (5 + c) % 2 = 1 then (s.paint c).sh else (s.paint c).sl).toNat
def endsH (s : CSet) (y k : Nat) : List Nat := (List.range k).map (endH s y)
def endsT (s : CSet) (y k : Nat) : List Nat := (List.range k).map (endT s y)
theorem endsH_succ (s : CSet) (y k : Nat) : endsH s y (k + 1) = endsH s y k ++ [endH s y k] := by unfold endsH; rw [List.range_succ, List.map_append]; rfl
theorem endsT_succ (s : CSet) (y k : Nat) : endsT s y (k + 1) = endsT s y k ++ [endT s y k] := by unfold endsT; rw [List.range_succ, List.map_append]; rfl
theorem endsH_len (s : CSet) (y k : Nat) : (endsH s y k).length = k := by simp [endsH]
theorem endsT_len (s : CSet) (y k : Nat) : (endsT s y k).length = k := by simp [endsT]
theorem bit64_and1 : ∀ a : Fin 1024, bits BinOp.and IntKind.i64 ((a.val : Nat) : Int) 1 = ((a.val % 2 : Nat) : Int) := by decide +kernel
theorem bit64_at (y c : Nat) (hy : y < 1024) : bits BinOp.and IntKind.i64 ((y : Int) / 2 ^ c) 1 = ((y / 2 ^ c % 2 : Nat) : Int) := by
  have h : (y : Int) / 2 ^ c = ((y / 2 ^ c : Nat) : Int) := by push_cast; rfl
  have hl : y / 2 ^ c < 1024 := Nat.lt_of_le_of_lt (Nat.div_le_self _ _) hy
  rw [h]
  exact bit64_and1 ⟨_, hl⟩
theorem bit64_yes {y c : Nat} (hy : y < 1024) (h : y / 2 ^ c % 2 = 1) : (bits BinOp.and IntKind.i64 ((y : Int) / 2 ^ c) 1 == 1) = true := by rw [bit64_at y c hy, h]; rfl
theorem bit64_no {y c : Nat} (hy : y < 1024) (h : ¬ y / 2 ^ c % 2 = 1) : (bits BinOp.and IntKind.i64 ((y : Int) / 2 ^ c) 1 == 1) = false := by
  have h0 : y / 2 ^ c % 2 = 0 := by omega
  rw [bit64_at y c hy, h0]; rfl

/-- The first ends. -/
structure EndI (W0 : World) (s : CSet) (y k1 k2 : Nat) (hv tv : Value) (W : World) : Prop where
  heats : W.ownsRow W0.heap.size 3 1 hv k1 (valsOf (endsH s y k1))
  stretches : W.ownsRow W0.heap.size 3 1 tv k2 (valsOf (endsT s y k2))
  apart : Apart hv tv
  bel : Bel W0 W
namespace EndI
variable {W0 A B : World} {s : CSet} {y k1 k2 : Nat} {hv tv : Value}
theorem more (h : EndI W0 s y k1 k2 hv tv A) (q : Bel A B) : EndI W0 s y k1 k2 hv tv B := ⟨ownsRow_bel h.heats q, ownsRow_bel h.stretches q, h.apart, h.bel.trans q⟩
theorem heat (h : EndI W0 s y k1 k2 hv tv A) {v : Value} {z : Int} (hz : z = (endH s y k1 : Int)) (ho : B.ownsRow W0.heap.size 3 1 v (k1 + 1) (valsOf (endsH s y k1) ++ [.int .i64 z])) (q : A.grownBy B hv.ownBlock) (hw : v.ownBlock = hv.ownBlock ∨ v.ownBlock = some A.heap.size) : EndI W0 s y (k1 + 1) k2 v tv B := by
  obtain ⟨t1, t2⟩ := own_apart' h.stretches q h.apart.symm hw
  subst hz
  exact ⟨by rw [endsH_succ]; simpa [valsOf] using ho, t1, t2.symm, h.bel.grown q (fun k hk => (h.heats.lt k hk).1)⟩
theorem stretch (h : EndI W0 s y k1 k2 hv tv A) {v : Value} {z : Int} (hz : z = (endT s y k2 : Int)) (ho : B.ownsRow W0.heap.size 3 1 v (k2 + 1) (valsOf (endsT s y k2) ++ [.int .i64 z])) (q : A.grownBy B tv.ownBlock) (hw : v.ownBlock = tv.ownBlock ∨ v.ownBlock = some A.heap.size) : EndI W0 s y k1 (k2 + 1) hv v B := by
  obtain ⟨t1, t2⟩ := own_apart' h.heats q h.apart hw
  subst hz
  exact ⟨t1, by rw [endsT_succ]; simpa [valsOf] using ho, t2, h.bel.grown q (fun k hk => (h.stretches.lt k hk).1)⟩
end EndI

theorem Paints.cells' {W : World} {a : Option Addr} {n c : Nat} {ps : List Paint} (h : Paints W (.slice a n c) ps) {i : Nat} (hi : i < ps.length) : ∃ b off, a = some ⟨b, off, none⟩ ∧ W.cell? ⟨b, off + i * 6, none⟩ = some (.int .i64 (ps.getD i ⟨0, 0, 0, 0, 0, 0⟩).hl) ∧ W.cell? ⟨b, off + i * 6 + 1, none⟩ = some (.int .i64 (ps.getD i ⟨0, 0, 0, 0, 0, 0⟩).hh) ∧
      W.cell? ⟨b, off + i * 6 + 2, none⟩ = some (.int .i64 (ps.getD i ⟨0, 0, 0, 0, 0, 0⟩).sl) ∧ W.cell? ⟨b, off + i * 6 + 3, none⟩ = some (.int .i64 (ps.getD i ⟨0, 0, 0, 0, 0, 0⟩).sh) ∧
      W.cell? ⟨b, off + i * 6 + 4, none⟩ = some (.int .i64 (ps.getD i ⟨0, 0, 0, 0, 0, 0⟩).coats) ∧ W.cell? ⟨b, off + i * 6 + 5, none⟩ = some (.int .i64 (ps.getD i ⟨0, 0, 0, 0, 0, 0⟩).most) := by
  obtain ⟨a', c', e, _, _, _, h3⟩ := h
  injection e with e1 e2 e3
  subst e1
  exact h3 i hi

set_option maxRecDepth 100000 in
set_option maxHeartbeats 16000000 in
theorem ends_any (s : CSet) (hs : s.Ok) (v : Value) (y : Nat) (hy : y < 1024) (w : World) (hsv : SetV w v s) :
    Calls Try.prog 16 #[v, .int .i64 (y : Int)] w fun e w' => ∃ hv tv, e = .returned (.tuple #[hv, tv]) ∧ Cols w' hv (endsH s y s.paints.length) ∧ Cols w' tv (endsT s y s.paints.length) ∧ Bel w w' := by
  obtain ⟨i0, hi, hz0, hz1, hz2⟩ := info_parts Try.info3
  obtain ⟨pv, ev, rfl, h1, h2⟩ := hsv
  have HP := Lib.hid h1
  have HS := Lib.hid hs
  obtain ⟨pa, pc, rfl, -, -, -, -⟩ := h1
  obtain ⟨ea, ec, rfl, -, -, -, -⟩ := h2
  clear hs
  have HC0 := Lib.hid (C4.new w (.slice pa s.paints.length pc) (.int .i64 s.near) (.int .i64 s.give) (.slice ea s.eats.length ec) 31)
  have HB0 := Lib.hid ((Bel.refl w).alloc (.cells #[.slice pa s.paints.length pc, .int .i64 s.near, .int .i64 s.give, .slice ea s.eats.length ec] 31))
  refine (callsIn_wide (n := 0)).1 (callsIn_of_wp Try.func16 rfl trivial ?_ rfl)
  simp only [Try.ntmps16, List.size_toArray, List.length_cons, List.length_nil, Nat.reduceAdd, Nat.reduceSub, Array.replicate_succ, Array.replicate_zero, List.push_toArray, List.append_toArray, List.nil_append, List.cons_append]
  gi_wp2_with fail
  generalize w.alloc (.cells #[.slice pa s.paints.length pc, .int .i64 s.near, .int .i64 s.give, .slice ea s.eats.length ec] 31) = W0 at *
  gi_loopw [4, 5, 6] (fun hv tv iv wr => ∃ k : Nat, k ≤ s.paints.length ∧ iv = .int .i64 k ∧ EndI W0 s y k k hv tv wr) (fun _ _ iv _ => s.paints.length - (intOf iv).toNat)
  case atStart => exact ⟨0, Nat.zero_le _, rfl, ⟨rfl, .inl ⟨rfl, rfl⟩⟩, ⟨rfl, .inl ⟨rfl, rfl⟩⟩, nofun, Bel.refl _⟩
  case round =>
    obtain ⟨k, hk, rfl, hI⟩ := hrel
    obtain ⟨c0, c1, c2, c3⟩ := HC0.out.bel hI.bel
    have HI := Lib.hid hI
    have hn5 := HS.out.n5
    clear hI
    by_cases hlt : k < s.paints.length
    · have h0 : decide (k < s.paints.length) = true := decide_eq_true hlt
      obtain ⟨pb, poff, rfl, p0, p1, p2, p3, p4, p5⟩ := (HP.out.bel (HB0.out.trans HI.out.bel)).cells' hlt
      have hok := HS.out.paints k hlt
      have hpd : s.paints.getD k ⟨0, 0, 0, 0, 0, 0⟩ = s.paint k := rfl
      rw [hpd] at p0 p1 p2 p3 p4 p5
      clear hpd
      have HEH := Lib.hid (show endH s y k = (if y / 2 ^ k % 2 = 1 then (s.paint k).hh else (s.paint k).hl).toNat from rfl)
      have HET := Lib.hid (show endT s y k = (if y / 2 ^ (5 + k) % 2 = 1 then (s.paint k).sh else (s.paint k).sl).toNat from rfl)
      obtain ⟨⟨hl, hh, sl, sh, co, mo⟩, hpe⟩ : ∃ p, p = s.paint k := ⟨_, rfl⟩
      rw [← hpe] at p0 p1 p2 p3 p4 p5 hok HEH HET
      simp only at p0 p1 p2 p3 p4 p5 hok HEH HET
      have HOK := Lib.hid hok
      clear hpe hok
      have HN := Lib.hid (NewRow.new wr [.int .i64 hl, .int .i64 hh, .int .i64 sl, .int .i64 sh, .int .i64 co, .int .i64 mo] 56)
      have r0 := HN.out 0 _ rfl
      have r1 := HN.out 1 _ rfl
      have r2 := HN.out 2 _ rfl
      have r3 := HN.out 3 _ rfl
      simp only [addr_add, Nat.zero_add] at r0 r1 r2 r3
      have hm1 : k + 1 ≤ maxLen := by unfold maxLen; omega
      have hm2 : (k + 1) * 8 ≤ 140737488355328 := by omega
      by_cases b1 : y / 2 ^ k % 2 = 1
      · by_cases b2 : y / 2 ^ (5 + k) % 2 = 1
        · have q1 := bit64_yes hy b1
          have q2 := bit64_yes hy b2
          have e1 : hh = (endH s y k : Int) := by rw [HEH.out, if_pos b1]; have := HOK.out; omega
          have e2 : sh = (endT s y k : Int) := by rw [HET.out, if_pos b2]; have := HOK.out; omega
          have E1 := Lib.hid e1
          have E2 := Lib.hid e2
          have Q1 := Lib.hid b1
          clear e1 e2 b1 b2 HEH HET
          gi_wp2_with fail
          gi_big_quiet (fail)
          have HX := Lib.hid ((HI.out.more ((Bel.refl _).alloc (.cells #[.int .i64 hl, .int .i64 hh, .int .i64 sl, .int .i64 sh, .int .i64 co, .int .i64 mo] 56))).more (bel_drewN _ nq))
          obtain ⟨X, hX⟩ : ∃ X, (wr.alloc (.cells #[.int .i64 hl, .int .i64 hh, .int .i64 sl, .int .i64 sh, .int .i64 co, .int .i64 mo] 56)).drewN nq = X := ⟨_, rfl⟩
          rw [hX] at HX ⊢
          have s1 : X.cell? ⟨wr.heap.size, 1, none⟩ = some (.int .i64 hh) := by rw [← hX]; exact r1
          have s3 : X.cell? ⟨wr.heap.size, 3, none⟩ = some (.int .i64 sh) := by rw [← hX]; exact r3
          clear hX r0 r1 r2 r3 HN HI
          have hm3 : W0.heap.size ≤ (X.alloc (.cells #[.int .i64 hh] 3)).heap.size := by have := HX.out.bel.size; simp; omega
          gi_wp2_with (gi_at_builtin; first | (refine wpListIn_append_own2 rfl _ _ 32 rfl W0.heap.size 3 i0 (.int .i64 0) 1 8 Try.underlying32 hi hz0 hz1 hz2 rfl (by decide) _ _ _ rfl (HX.out.more ((Bel.refl _).alloc (.cells #[.int .i64 hh] 3))).heats ⟨X.heap.size, 0, none⟩ 1 1 [.int .i64 hh] rfl rfl (one_new _ _ _) (by simp [Value.oneCell']) hm1 hm2 hm3 ?_; intro v1 w4 ho1 hg1 hw1; have HX4 := Lib.hid ((HX.out.more ((Bel.refl _).alloc _)).heat E1.out ho1 hg1 hw1); clear ho1 hg1 hw1 hm3; have hm3 : W0.heap.size ≤ (w4.alloc (.cells #[.int .i64 sh] 3)).heap.size := by have := HX4.out.bel.size; simp; omega) | (refine wpListIn_append_own2 rfl _ _ 32 rfl W0.heap.size 3 i0 (.int .i64 0) 1 8 Try.underlying32 hi hz0 hz1 hz2 rfl (by decide) _ _ _ rfl (HX4.out.more ((Bel.refl _).alloc (.cells #[.int .i64 sh] 3))).stretches ⟨w4.heap.size, 0, none⟩ 1 1 [.int .i64 sh] rfl rfl (one_new _ _ _) (by simp [Value.oneCell']) hm1 hm2 hm3 ?_; intro v2 w5 ho1 hg1 hw1; have HX5 := Lib.hid ((HX4.out.more ((Bel.refl _).alloc _)).stretch E2.out ho1 hg1 hw1); clear ho1 hg1 hw1 hm3))
          go_roundw
          case rel => exact ⟨k + 1, by omega, by go_num, HX5.out⟩
          case measure => simp [intOf]; omega
        · have q1 := bit64_yes hy b1
          have q2 := bit64_no hy b2
          have e1 : hh = (endH s y k : Int) := by rw [HEH.out, if_pos b1]; have := HOK.out; omega
          have e2 : sl = (endT s y k : Int) := by rw [HET.out, if_neg b2]; have := HOK.out; omega
          have E1 := Lib.hid e1
          have E2 := Lib.hid e2
          have Q1 := Lib.hid b1
          clear e1 e2 b1 b2 HEH HET
          gi_wp2_with fail
          gi_big_quiet (fail)
          have HX := Lib.hid ((HI.out.more ((Bel.refl _).alloc (.cells #[.int .i64 hl, .int .i64 hh, .int .i64 sl, .int .i64 sh, .int .i64 co, .int .i64 mo] 56))).more (bel_drewN _ nq))
          obtain ⟨X, hX⟩ : ∃ X, (wr.alloc (.cells #[.int .i64 hl, .int .i64 hh, .int .i64 sl, .int .i64 sh, .int .i64 co, .int .i64 mo] 56)).drewN nq = X := ⟨_, rfl⟩
          rw [hX] at HX ⊢
          have s1 : X.cell? ⟨wr.heap.size, 1, none⟩ = some (.int .i64 hh) := by rw [← hX]; exact r1
          have s3 : X.cell? ⟨wr.heap.size, 3, none⟩ = some (.int .i64 sh) := by rw [← hX]; exact r3
          clear hX r0 r1 r2 r3 HN HI
          have hm3 : W0.heap.size ≤ (X.alloc (.cells #[.int .i64 hh] 3)).heap.size := by have := HX.out.bel.size; simp; omega
          gi_wp2_with (gi_at_builtin; first | (refine wpListIn_append_own2 rfl _ _ 32 rfl W0.heap.size 3 i0 (.int .i64 0) 1 8 Try.underlying32 hi hz0 hz1 hz2 rfl (by decide) _ _ _ rfl (HX.out.more ((Bel.refl _).alloc (.cells #[.int .i64 hh] 3))).heats ⟨X.heap.size, 0, none⟩ 1 1 [.int .i64 hh] rfl rfl (one_new _ _ _) (by simp [Value.oneCell']) hm1 hm2 hm3 ?_; intro v1 w4 ho1 hg1 hw1; have HX4 := Lib.hid ((HX.out.more ((Bel.refl _).alloc _)).heat E1.out ho1 hg1 hw1); clear ho1 hg1 hw1 hm3; have hm3 : W0.heap.size ≤ (w4.alloc (.cells #[.int .i64 sl] 3)).heap.size := by have := HX4.out.bel.size; simp; omega) | (refine wpListIn_append_own2 rfl _ _ 32 rfl W0.heap.size 3 i0 (.int .i64 0) 1 8 Try.underlying32 hi hz0 hz1 hz2 rfl (by decide) _ _ _ rfl (HX4.out.more ((Bel.refl _).alloc (.cells #[.int .i64 sl] 3))).stretches ⟨w4.heap.size, 0, none⟩ 1 1 [.int .i64 sl] rfl rfl (one_new _ _ _) (by simp [Value.oneCell']) hm1 hm2 hm3 ?_; intro v2 w5 ho1 hg1 hw1; have HX5 := Lib.hid ((HX4.out.more ((Bel.refl _).alloc _)).stretch E2.out ho1 hg1 hw1); clear ho1 hg1 hw1 hm3))
          go_roundw
          case rel => exact ⟨k + 1, by omega, by go_num, HX5.out⟩
          case measure => simp [intOf]; omega
      · by_cases b2 : y / 2 ^ (5 + k) % 2 = 1
        · have q1 := bit64_no hy b1
          have q2 := bit64_yes hy b2
          have e1 : hl = (endH s y k : Int) := by rw [HEH.out, if_neg b1]; have := HOK.out; omega
          have e2 : sh = (endT s y k : Int) := by rw [HET.out, if_pos b2]; have := HOK.out; omega
          have E1 := Lib.hid e1
          have E2 := Lib.hid e2
          have Q1 := Lib.hid b1
          clear e1 e2 b1 b2 HEH HET
          gi_wp2_with fail
          gi_big_quiet (fail)
          have HX := Lib.hid ((HI.out.more ((Bel.refl _).alloc (.cells #[.int .i64 hl, .int .i64 hh, .int .i64 sl, .int .i64 sh, .int .i64 co, .int .i64 mo] 56))).more (bel_drewN _ nq))
          obtain ⟨X, hX⟩ : ∃ X, (wr.alloc (.cells #[.int .i64 hl, .int .i64 hh, .int .i64 sl, .int .i64 sh, .int .i64 co, .int .i64 mo] 56)).drewN nq = X := ⟨_, rfl⟩
          rw [hX] at HX ⊢
          have s1 : X.cell? ⟨wr.heap.size, 1, none⟩ = some (.int .i64 hh) := by rw [← hX]; exact r1
          have s3 : X.cell? ⟨wr.heap.size, 3, none⟩ = some (.int .i64 sh) := by rw [← hX]; exact r3
          clear hX r0 r1 r2 r3 HN HI
          have hm3 : W0.heap.size ≤ (X.alloc (.cells #[.int .i64 hl] 3)).heap.size := by have := HX.out.bel.size; simp; omega
          gi_wp2_with (gi_at_builtin; first | (refine wpListIn_append_own2 rfl _ _ 32 rfl W0.heap.size 3 i0 (.int .i64 0) 1 8 Try.underlying32 hi hz0 hz1 hz2 rfl (by decide) _ _ _ rfl (HX.out.more ((Bel.refl _).alloc (.cells #[.int .i64 hl] 3))).heats ⟨X.heap.size, 0, none⟩ 1 1 [.int .i64 hl] rfl rfl (one_new _ _ _) (by simp [Value.oneCell']) hm1 hm2 hm3 ?_; intro v1 w4 ho1 hg1 hw1; have HX4 := Lib.hid ((HX.out.more ((Bel.refl _).alloc _)).heat E1.out ho1 hg1 hw1); clear ho1 hg1 hw1 hm3; have hm3 : W0.heap.size ≤ (w4.alloc (.cells #[.int .i64 sh] 3)).heap.size := by have := HX4.out.bel.size; simp; omega) | (refine wpListIn_append_own2 rfl _ _ 32 rfl W0.heap.size 3 i0 (.int .i64 0) 1 8 Try.underlying32 hi hz0 hz1 hz2 rfl (by decide) _ _ _ rfl (HX4.out.more ((Bel.refl _).alloc (.cells #[.int .i64 sh] 3))).stretches ⟨w4.heap.size, 0, none⟩ 1 1 [.int .i64 sh] rfl rfl (one_new _ _ _) (by simp [Value.oneCell']) hm1 hm2 hm3 ?_; intro v2 w5 ho1 hg1 hw1; have HX5 := Lib.hid ((HX4.out.more ((Bel.refl _).alloc _)).stretch E2.out ho1 hg1 hw1); clear ho1 hg1 hw1 hm3))
          go_roundw
          case rel => exact ⟨k + 1, by omega, by go_num, HX5.out⟩
          case measure => simp [intOf]; omega
        · have q1 := bit64_no hy b1
          have q2 := bit64_no hy b2
          have e1 : hl = (endH s y k : Int) := by rw [HEH.out, if_neg b1]; have := HOK.out; omega
          have e2 : sl = (endT s y k : Int) := by rw [HET.out, if_neg b2]; have := HOK.out; omega
          have E1 := Lib.hid e1
          have E2 := Lib.hid e2
          have Q1 := Lib.hid b1
          clear e1 e2 b1 b2 HEH HET
          gi_wp2_with fail
          gi_big_quiet (fail)
          have HX := Lib.hid ((HI.out.more ((Bel.refl _).alloc (.cells #[.int .i64 hl, .int .i64 hh, .int .i64 sl, .int .i64 sh, .int .i64 co, .int .i64 mo] 56))).more (bel_drewN _ nq))
          obtain ⟨X, hX⟩ : ∃ X, (wr.alloc (.cells #[.int .i64 hl, .int .i64 hh, .int .i64 sl, .int .i64 sh, .int .i64 co, .int .i64 mo] 56)).drewN nq = X := ⟨_, rfl⟩
          rw [hX] at HX ⊢
          have s1 : X.cell? ⟨wr.heap.size, 1, none⟩ = some (.int .i64 hh) := by rw [← hX]; exact r1
          have s3 : X.cell? ⟨wr.heap.size, 3, none⟩ = some (.int .i64 sh) := by rw [← hX]; exact r3
          clear hX r0 r1 r2 r3 HN HI
          have hm3 : W0.heap.size ≤ (X.alloc (.cells #[.int .i64 hl] 3)).heap.size := by have := HX.out.bel.size; simp; omega
          gi_wp2_with (gi_at_builtin; first | (refine wpListIn_append_own2 rfl _ _ 32 rfl W0.heap.size 3 i0 (.int .i64 0) 1 8 Try.underlying32 hi hz0 hz1 hz2 rfl (by decide) _ _ _ rfl (HX.out.more ((Bel.refl _).alloc (.cells #[.int .i64 hl] 3))).heats ⟨X.heap.size, 0, none⟩ 1 1 [.int .i64 hl] rfl rfl (one_new _ _ _) (by simp [Value.oneCell']) hm1 hm2 hm3 ?_; intro v1 w4 ho1 hg1 hw1; have HX4 := Lib.hid ((HX.out.more ((Bel.refl _).alloc _)).heat E1.out ho1 hg1 hw1); clear ho1 hg1 hw1 hm3; have hm3 : W0.heap.size ≤ (w4.alloc (.cells #[.int .i64 sl] 3)).heap.size := by have := HX4.out.bel.size; simp; omega) | (refine wpListIn_append_own2 rfl _ _ 32 rfl W0.heap.size 3 i0 (.int .i64 0) 1 8 Try.underlying32 hi hz0 hz1 hz2 rfl (by decide) _ _ _ rfl (HX4.out.more ((Bel.refl _).alloc (.cells #[.int .i64 sl] 3))).stretches ⟨w4.heap.size, 0, none⟩ 1 1 [.int .i64 sl] rfl rfl (one_new _ _ _) (by simp [Value.oneCell']) hm1 hm2 hm3 ?_; intro v2 w5 ho1 hg1 hw1; have HX5 := Lib.hid ((HX4.out.more ((Bel.refl _).alloc _)).stretch E2.out ho1 hg1 hw1); clear ho1 hg1 hw1 hm3))
          go_roundw
          case rel => exact ⟨k + 1, by omega, by go_num, HX5.out⟩
          case measure => simp [intOf]; omega
    · obtain rfl : k = s.paints.length := by omega
      have hfin : Cols wr u4 (endsH s y s.paints.length) ∧ Cols wr u5 (endsT s y s.paints.length) := by
        refine ⟨own_cols (base := W0.heap.size) ?_, own_cols (base := W0.heap.size) ?_⟩
        · rw [endsH_len]; exact HI.out.heats
        · rw [endsT_len]; exact HI.out.stretches
      have HF := Lib.hid hfin
      have HBF := Lib.hid (HB0.out.trans HI.out.bel)
      clear hfin
      gi_wp2_with fail
      exact bodyPost_ret (v := .tuple #[u4, u5]) (by simp [results, Try.results16, go_sem]) rfl ⟨_, _, rfl, HF.out.1, HF.out.2, HBF.out⟩

end Go.Proofs.Ytpkadofgmhninaa
