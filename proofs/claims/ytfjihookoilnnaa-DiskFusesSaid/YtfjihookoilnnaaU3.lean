/- DiskFuses' second loop: its relation. -/
import Derived.Test.YtfjihookoilnnaaU1
namespace Go.Proofs.Ytfjihookoilnnaa
open Go.Conc Go.RowKit

/-- DiskFuses' second loop: v8 is where its counter lies. -/
def Playing (f c X len1 : Nat) (a1 : Option Addr) (cap1 : Nat) (w0 : World) (v8 : Value) (wr : World) : Prop :=
  ∃ (j I : Nat) (A : List Ft) (v : Value), v8 = .pointer (some ⟨I, 0, none⟩) ∧ X < I ∧ I < wr.heap.size ∧ wr.cell? ⟨I, 0, none⟩ = some (.int .i64 j) ∧ wr.frozen? ⟨I, 0, none⟩ = false ∧ j ≤ 40 ∧ Holds f c A wr ∧ A.length ≤ 16 ∧ (∀ x ∈ A, Ft.Fits x) ∧
    wr.cell? ⟨X, 0, none⟩ = some v ∧ wr.frozen? ⟨X, 0, none⟩ = false ∧ Sl wr (X + 1) 2 v A.length (ftc A) ∧ wr.cell? ⟨w0.heap.size, 0, none⟩ = some (.slice a1 len1 cap1) ∧ X + 1 ≤ wr.heap.size ∧ Below w0.heap.size w0 wr
def jOf (v8 : Value) (wr : World) : Nat := match v8 with | .pointer (some a) => (match wr.cell? a with | some (.int _ n) => n.toNat | _ => 0) | _ => 0
theorem tryL_len : ∀ A : List Ft, (tryL A).2.length ≤ A.length
  | [] => Nat.le_refl _
  | x :: A => by
    simp only [tryL]
    split <;> simp
theorem tryL_fits (A : List Ft) (h : ∀ x ∈ A, Ft.Fits x) : ∀ x ∈ (tryL A).2, Ft.Fits x := by
  match A, h with
  | [], _ => intro x hx; cases hx
  | y :: A, h =>
    intro x hx
    simp only [tryL] at hx
    split at hx
    · rename_i hp
      rcases List.mem_cons.1 hx with rfl | hx
      · have := h y List.mem_cons_self
        unfold Ft.Fits at this ⊢
        simp only
        omega
      · exact h x (List.mem_cons_of_mem _ hx)
    · exact h x (List.mem_cons_of_mem _ hx)
theorem playing_next (f c X len1 cap1 j I : Nat) (a1 : Option Addr) (A' : List Ft) (va : Option Addr) (vc : Nat) (w0 W2 W3 W4 W5 : World) (b3 : Below W2.heap.size W2 W3) (hH : Holds f c A' W2) (hs3 : Sl W3 (X + 1) 2 (.slice va A'.length vc) A'.length (ftc A'))
    {u : Value} (kX4 : W4.cell? ⟨X, 0, none⟩ = some u) (hW4 : W4 = W3.alloc (.cells #[.slice va A'.length vc] 28)) (hW5 : W5 = W4.setCell ⟨X, 0, none⟩ (.slice va A'.length vc))
    (kO3 : W3.cell? ⟨w0.heap.size, 0, none⟩ = some (.slice a1 len1 cap1)) (fX3 : W3.frozen? ⟨X, 0, none⟩ = false) (hX3 : X < W2.heap.size) (hfX : f < X) (hcX : c < X) (h0X : w0.heap.size < X) (hj : j + 1 ≤ 40) (hlA : A'.length ≤ 16) (hfA : ∀ x ∈ A', Ft.Fits x) (bE : Below w0.heap.size w0 W2)
    (wr : World) (hjO : jOf (.pointer (some ⟨I, 0, none⟩)) wr = j) :
    Playing f c X len1 a1 cap1 w0 (.pointer (some ⟨W3.heap.size + 1, 0, none⟩)) (W5.alloc (.cells #[.int .i64 ((j : Int) + 1)] 3)) ∧
      40 - jOf (.pointer (some ⟨W3.heap.size + 1, 0, none⟩)) (W5.alloc (.cells #[.int .i64 ((j : Int) + 1)] 3)) < 40 - jOf (.pointer (some ⟨I, 0, none⟩)) wr := by
  have hz3 := b3.size
  have b4 : Below W3.heap.size W3 W4 := by rw [hW4]; exact (Below.refl _ _).alloc (Nat.le_refl _) _
  have z4 : W4.heap.size = W3.heap.size + 1 := by rw [hW4]; simp
  have z5 : W5.heap.size = W3.heap.size + 1 := by rw [hW5]; simpa [World.setCell] using z4
  have o5 : ∀ k, k < W3.heap.size → k ≠ X → W5.heap[k]? = W3.heap[k]? := fun k h1 h2 => by rw [hW5, Below.heap_setCell _ _ _ _ h2]; exact b4.block k h1
  obtain ⟨W7, hW7⟩ : ∃ W7, W7 = W5.alloc (.cells #[.int .i64 ((j : Int) + 1)] 3) := ⟨_, rfl⟩
  have hI7 := heap_alloc_new W5 (.cells #[.int .i64 ((j : Int) + 1)] 3)
  rw [← hW7, z5] at hI7
  have b7 : Below W5.heap.size W5 W7 := by rw [hW7]; exact (Below.refl _ _).alloc (Nat.le_refl _) _
  have z7 : W7.heap.size = W3.heap.size + 2 := by rw [hW7]; simp; omega
  have kI7 : W7.cell? ⟨W3.heap.size + 1, 0, none⟩ = some (.int .i64 ((j : Int) + 1)) := by rw [cell_of_row _ _ 0 _ _ _ hI7]; rfl
  have fI7 : W7.frozen? ⟨W3.heap.size + 1, 0, none⟩ = false := by simp only [World.frozen?, hI7]; rfl
  have kX5 : W5.cell? ⟨X, 0, none⟩ = some (.slice va A'.length vc) := by rw [hW5]; exact cell_setCell_same _ _ _ _ (by rw [kX4]; rfl)
  have fX5 : W5.frozen? ⟨X, 0, none⟩ = false := by rw [hW5, frozen_setCell]; exact (b4.frozen (p := ⟨X, 0, none⟩) (by simp only; omega)).trans fX3
  have kX7 := (b7.cell (p := ⟨X, 0, none⟩) (by simp only; omega)).trans kX5
  have fX7 := (b7.frozen (p := ⟨X, 0, none⟩) (by simp only; omega)).trans fX5
  have o7 : ∀ k, k < W3.heap.size → k ≠ X → W7.heap[k]? = W3.heap[k]? := fun k h1 h2 => (b7.block k (by omega)).trans (o5 k h1 h2)
  have hH7 : Holds f c A' W7 := by
    obtain ⟨L5, a5, n5, hF5, hv5⟩ := hH
    have h1 := hF5.lt; have h2 := hF5.clt
    exact ⟨L5, a5, n5, hF5.same (by omega) ((o7 f (by omega) (by omega)).trans (b3.block f h1)) ((o7 c (by omega) (by omega)).trans (b3.block c h2)), hv5⟩
  have hs7 : Sl W7 (X + 1) 2 (.slice va A'.length vc) A'.length (ftc A') := hs3.same (by omega) (fun k hk => by have := hs3.lt k hk; exact o7 k this.2 (by omega))
  have kO7 := (World.cell?_of_block (a := ⟨w0.heap.size, 0, none⟩) (o7 w0.heap.size (by omega) (by omega))).trans kO3
  have bE7 : Below w0.heap.size w0 W7 := by
    have h3 := bE.trans (b3.mono (by have := bE.size; omega))
    have hos : W7.os = W3.os := by rw [hW7, hW5, hW4]; rfl
    have htp : W7.tape = W3.tape := by rw [hW7, hW5, hW4]; rfl
    have hou : W7.output = W3.output := by rw [hW7, hW5, hW4]; rfl
    exact h3.trans ⟨hos, htp, hou, by omega, fun k hk => o7 k (by have := bE.size; omega) (by omega)⟩
  rw [← hW7]
  refine ⟨⟨j + 1, W3.heap.size + 1, A', _, rfl, by omega, by omega, by rw [kI7]; simp, fI7, hj, hH7, hlA, hfA, kX7, fX7, hs7, kO7, by omega, bE7⟩, ?_⟩
  have h1 : jOf (.pointer (some ⟨W3.heap.size + 1, 0, none⟩)) W7 = j + 1 := by simp [jOf, kI7]
  rw [h1, hjO]
  omega
end Go.Proofs.Ytfjihookoilnnaa
