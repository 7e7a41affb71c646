/- Layer 1's other readers, walked. -/
import Derived.Test.YtkialkjhjenkhaaMY2
namespace Go.Proofs.Ytkialkjhjenkhaa
set_option maxRecDepth 100000
open Go.RowKit Go.Lib

namespace Leb
def takeI (l : List UInt8) : Int × List UInt8 × Nat := if (takeU l).2.2 ≠ 0 then (0, [], (takeU l).2.2) else (unfoldN (takeU l).1, (takeU l).2.1, 0)
theorem takeI_ok {l : List UInt8} {u : Nat} {r : List UInt8} (h : takeU l = (u, r, 0)) : takeI l = (unfoldN u, r, 0) := by unfold takeI; rw [h]; simp
theorem takeI_no {l : List UInt8} {u er : Nat} {r : List UInt8} (h : takeU l = (u, r, er)) (he : er ≠ 0) : takeI l = (0, [], er) := by unfold takeI; rw [h]; simp [he]
theorem takeM_no {l : List UInt8} {most : Int} {u er : Nat} {r : List UInt8} (h : takeU l = (u, r, er)) (he : er ≠ 0) : takeM l most = (0, [], er) := by unfold takeM; rw [h]; simp [he]
theorem takeM_big {l : List UInt8} {most : Int} {u : Nat} {r : List UInt8} (h : takeU l = (u, r, 0)) (he : (u : Int) > max most 0) : takeM l most = (0, [], 16) := by
  unfold takeM; rw [h, if_neg (by simp), if_pos (by simp only; omega)]
theorem takeM_ok {l : List UInt8} {most : Int} {u : Nat} {r : List UInt8} (h : takeU l = (u, r, 0)) (he : ¬ (u : Int) > max most 0) : takeM l most = (u, r, 0) := by
  unfold takeM; rw [h, if_neg (by simp), if_neg (by simp only; omega)]
theorem takeT_no {l : List UInt8} {most : Int} {u er : Nat} {r : List UInt8} (h : takeM l most = (u, r, er)) (he : er ≠ 0) : takeT l most = ([], [], er) := by unfold takeT; rw [h]; simp [he]
theorem takeT_end {l : List UInt8} {most : Int} {u : Nat} {r : List UInt8} (h : takeM l most = (u, r, 0)) (he : u > r.length) : takeT l most = ([], [], 2) := by unfold takeT; rw [h]; simp [he]
theorem takeT_ok {l : List UInt8} {most : Int} {u : Nat} {r : List UInt8} (h : takeM l most = (u, r, 0)) (he : ¬ u > r.length) : takeT l most = (r.take u, r.drop u, 0) := by unfold takeT; rw [h]; simp [he]
theorem takeU_none {l : List UInt8} {u er : Nat} {r : List UInt8} (h : takeU l = (u, r, er)) (he : er ≠ 0) : u = 0 ∧ r = [] := by
  have := dec_err l 0 0 (by show (takeU l).2.2 ≠ 0; rw [h]; exact he)
  have e1 : dec 0 0 l = (u, r, er) := h
  rw [e1] at this
  exact this
theorem takeU_small {l : List UInt8} {u er : Nat} {r : List UInt8} (h : takeU l = (u, r, er)) : er ≤ 3 ∧ u < 18446744073709551616 ∧ r.length ≤ l.length := by
  have h1 := dec_errs l 0 0
  have h2 := takeU_lt l
  have h3 := dec_left l 0 0
  have e1 : dec 0 0 l = (u, r, er) := h
  rw [h] at h2
  rw [e1] at h1 h3
  unfold two64 at h2
  simp only at h1 h2 h3
  omega
theorem takeM_small {l : List UInt8} {most : Int} {u er : Nat} {r : List UInt8} (h : takeM l most = (u, r, er)) (hm : most ≤ 9223372036854775807) : er ≤ 16 ∧ u ≤ 9223372036854775807 ∧ r.length ≤ l.length ∧ (er = 0 → (u : Int) ≤ max most 0) ∧ (er ≠ 0 → u = 0 ∧ r = []) := by
  obtain ⟨u', r', er', hT⟩ : ∃ u' r' er', takeU l = (u', r', er') := ⟨_, _, _, rfl⟩
  obtain ⟨b1, b2, b3⟩ := takeU_small hT
  by_cases he : er' = 0
  · subst he
    by_cases hb : (u' : Int) > max most 0
    · rw [takeM_big hT hb] at h; simp only [Prod.mk.injEq] at h; obtain ⟨rfl, rfl, rfl⟩ := h; simp
    · rw [takeM_ok hT hb] at h; simp only [Prod.mk.injEq] at h; obtain ⟨rfl, rfl, rfl⟩ := h; simp; omega
  · rw [takeM_no hT he] at h; simp only [Prod.mk.injEq] at h; obtain ⟨rfl, rfl, rfl⟩ := h; simp; omega
end Leb

def tupI (r : Int × List UInt8 × Nat) : Value := .tuple #[.int .i64 r.1, .string (bs r.2.1), .int .i64 r.2.2]
def tupM (r : Nat × List UInt8 × Nat) : Value := .tuple #[.int .i64 r.1, .string (bs r.2.1), .int .i64 r.2.2]
def tupT (r : List UInt8 × List UInt8 × Nat) : Value := .tuple #[.string (bs r.1), .string (bs r.2.1), .int .i64 r.2.2]

/-- The answer is a new slice of the bytes xs, n of them. -/
def Made (w : World) (xs : List UInt8) (n : Nat) (e : Ending) (w' : World) : Prop :=
  ∃ a cap, e = .returned (.slice a n cap) ∧ Sl w' w.heap.size 1 (.slice a n cap) n (cb xs) ∧ Below w.heap.size w w'

theorem made_of {w w' : World} {xs : List UInt8} {n : Nat} {e : Ending} (hn : xs.length = n) (h : Wrote w.heap.size w (.slice none 0 0) 0 [] xs e w') : Made w xs n e w' := by
  obtain ⟨v', rfl, hx⟩ := h
  have hb := hx.below (Nat.le_refl _) (Nat.le_refl _)
  have := hx.now
  rw [Nat.zero_add, List.nil_append, hn] at this
  obtain ⟨a, cap, rfl⟩ := this.slice
  exact ⟨a, cap, rfl, this, hb⟩

/-- .. of which there is one at least. -/
def MadeAt (w : World) (xs : List UInt8) (n : Nat) (e : Ending) (w' : World) : Prop :=
  ∃ g off cap, e = .returned (.slice (some ⟨g, off, none⟩) n cap) ∧ n ≤ cap ∧ cap ≤ maxLen ∧ Sl w' w.heap.size 1 (.slice (some ⟨g, off, none⟩) n cap) n (cb xs) ∧ Below w.heap.size w w'
theorem madeAt_of {w w' : World} {xs : List UInt8} {n : Nat} {e : Ending} (hn : 0 < n) (h : Made w xs n e w') : MadeAt w xs n e w' := by
  obtain ⟨a, cap, rfl, h, hb⟩ := h
  rcases h.2 with ⟨h0, h1⟩ | ⟨g', off', cap', he, hbg, hg, hnc, hcm, _⟩
  · omega
  · cases he
    exact ⟨g', off', cap, rfl, hnc, hcm, h, hb⟩

end Go.Proofs.Ytkialkjhjenkhaa
