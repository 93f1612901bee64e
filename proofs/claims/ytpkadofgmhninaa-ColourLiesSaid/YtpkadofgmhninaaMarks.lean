/- A function that ranges over functions again and again leaves with many marks. -/
import Derived.Test.YtpkadofgmhninaaHeats
namespace Go.Proofs.Ytpkadofgmhninaa
open Go.RowKit

def mark (d : Nat) : Deferred := { target := .collected d, args := #[] }
def Marks (n : Nat) (ds : List Nat) (w : World) : Prop := ds.Nodup ∧ ∀ d, d ∈ ds → n ≤ d ∧ w.heap[d]? = some (.deferred (some []))

theorem leaves_marks {F : Fence} {m : Nat} {fn : Func} {tmps : Array Value} {R : Ending → World → Prop} (n : Nat) : ∀ (ds : List Nat) (w : World), Marks n ds w →
    (∀ W, Quiet n w W → LeavesIn F m Try.prog fn tmps R [] .returning W) → LeavesInM F m Try.prog fn tmps R (ds.map mark) .returning w
  | [], w, _, h => h w (Quiet.refl _ _)
  | d :: ds, w, hm, h => by
    obtain ⟨hn, hd⟩ := hm
    obtain ⟨h1, h2⟩ := hd d (by simp)
    have hnd := List.nodup_cons.1 hn
    refine ⟨by simp, .inl ⟨d, _, rfl, run_takeDeferred h2, ?_⟩⟩
    have hq : Quiet n w (w.putObj d (.deferred none)) := Quiet.putObj _ h2 rfl h1
    refine leaves_marks n ds _ ⟨hnd.2, fun e he => ?_⟩ (fun W hW => h W (hq.trans hW))
    obtain ⟨h3, h4⟩ := hd e (by simp [he])
    refine ⟨h3, ?_⟩
    rw [World.putObj_heap_other (by intro e'; subst e'; exact hnd.1 he)]
    exact h4
theorem leaves_out {F : Fence} {m : Nat} {fn : Func} {tmps : Array Value} {R : Ending → World → Prop} {w : World} (hr : (results fn tmps).run Try.prog w = .ok (.tuple #[]) w) (h : R (.returned (.tuple #[])) w) :
    LeavesIn F m Try.prog fn tmps R [] .returning w := by
  exact ⟨.tuple #[], hr, h⟩
theorem Marks.keep {n : Nat} {ds : List Nat} {A B : World} (h : Marks n ds A) (k : KeepFrom n A B) : Marks n ds B :=
  ⟨h.1, fun d hd => ⟨(h.2 d hd).1, (k.2 d (h.2 d hd).1 (Array.getElem?_eq_some_iff.1 (h.2 d hd).2).1).trans (h.2 d hd).2⟩⟩
theorem Marks.quiet {n m : Nat} {ds : List Nat} {A B : World} (h : Marks n ds A) (k : Quiet m A B) (hm : A.heap.size ≤ m) : Marks n ds B :=
  ⟨h.1, fun d hd => ⟨(h.2 d hd).1, k.same _ _ (h.2 d hd).2 (.inl (by have := (Array.getElem?_eq_some_iff.1 (h.2 d hd).2).1; omega))⟩⟩
theorem Marks.bel {n : Nat} {ds : List Nat} {A B : World} (h : Marks n ds A) (k : Bel A B) : Marks n ds B := h.keep (k.keep n)
theorem Marks.cons {n d : Nat} {ds : List Nat} {w : World} (h : Marks n ds w) (hd : n ≤ d) (hn : d ∉ ds) (hw : w.heap[d]? = some (.deferred (some []))) : Marks n (d :: ds) w :=
  ⟨List.nodup_cons.2 ⟨hn, h.1⟩, fun e he => by
    rcases List.mem_cons.1 he with rfl | he
    · exact ⟨hd, hw⟩
    · exact h.2 e he⟩
theorem Marks.lt {n : Nat} {ds : List Nat} {w : World} (h : Marks n ds w) {d : Nat} (hd : d ∈ ds) : d < w.heap.size := (Array.getElem?_eq_some_iff.1 (h.2 d hd).2).1

end Go.Proofs.Ytpkadofgmhninaa
