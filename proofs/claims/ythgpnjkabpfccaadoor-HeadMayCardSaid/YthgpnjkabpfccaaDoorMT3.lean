/- Layer 12: picked, Less, walked. Layer 12: lists cloned; Both, walked. -/
import Derived.Test.YthgpnjkabpfccaaDoorMT1
namespace Go.Proofs.YthgpnjkabpfccaaDoor
open Go.RowKit Go.Lib

/-- A list of numbers within its capacity, only read. -/
def Nc (w : World) (v : Value) (l : List Int) : Prop := l.length ≤ 100000 ∧ ∃ a cap g off, v = .slice a l.length cap ∧ l.length ≤ cap ∧ (0 < l.length → a = some ⟨g, off, none⟩ ∧ g < w.heap.size) ∧ ∀ j x, l[j]? = some x → w.cell? ⟨g, off + j, none⟩ = some (.int .i64 x)
theorem Nc.on {w w' : World} {v : Value} {l : List Int} (h : Nc w v l) (b : Below w.heap.size w w') : Nc w' v l := by
  obtain ⟨hl, a, cap, g, off, hv, hc, h1, h2⟩ := h
  refine ⟨hl, a, cap, g, off, hv, hc, fun hn => ⟨(h1 hn).1, Nat.lt_of_lt_of_le (h1 hn).2 b.size⟩, fun j x hx => ?_⟩
  have hn : 0 < l.length := by have := (List.getElem?_eq_some_iff.1 hx).1; omega
  exact (b.cell (p := ⟨g, off + j, none⟩) (h1 hn).2).trans (h2 j x hx)
theorem Nc.of_sl {w : World} {base : Nat} {v : Value} {l : List Int} (h : Sl w base 1 v l.length (ic l)) (hl : l.length ≤ 100000) : Nc w v l := by
  refine ⟨hl, ?_⟩
  rcases h.2 with ⟨rfl, h0⟩ | ⟨g, off, cap, rfl, h1, h2, h3, _, _, h4⟩
  · exact ⟨none, 0, 0, 0, by rw [h0], by omega, fun h => absurd h (by omega), fun j x hx => by rw [List.eq_nil_of_length_eq_zero h0] at hx; simp at hx⟩
  · refine ⟨_, cap, g, off, rfl, h3, fun _ => ⟨rfl, h2⟩, fun j x hx => ?_⟩
    have hj := (List.getElem?_eq_some_iff.1 hx).1
    rw [h4 j (by omega)]
    exact ic_at l j x hx
/-- Its first one off. -/
theorem nc_tail {w : World} {v : Value} {x : Int} {l : List Int} (h : Nc w v (x :: l)) : ∃ v', (∀ W, (Instr.slice 56 v (some (.int .i64 1)) none none).run Tryd.prog W = .ok v' W) ∧ Nc w v' l := by
  obtain ⟨hl, a, cap, g, off, rfl, hc, h1, h2⟩ := h
  obtain ⟨rfl, hg⟩ := h1 (by simp)
  have hu := run_underlying Tryd.underlying56
  have hz := Tryd.sizeOf3
  rw [List.length_cons] at hc hl
  have q1 : (1 : Int) ≤ ((l.length + 1 : Nat) : Int) := by omega
  have q2 : ((l.length + 1 : Nat) : Int) ≤ (cap : Int) := by omega
  by_cases hcap : cap = 1
  · have hl0 : l = [] := List.eq_nil_of_length_eq_zero (by omega)
    subst hcap hl0
    refine ⟨.slice (some ⟨g, off, none⟩) 0 0, fun W => ?_, by simp, _, 0, g, off, rfl, by simp, fun h => absurd h (by simp), fun j x hx => by simp at hx⟩
    simp [Instr.slice, Instr.sliceBounds, go_sem, hu, hz, Addr.add]
  · refine ⟨.slice (some ⟨g, off + 1, none⟩) l.length (cap - 1), fun W => ?_, by omega, _, cap - 1, g, off + 1, rfl, by omega, fun _ => ⟨rfl, hg⟩, fun j y hy => ?_⟩
    · simp [Instr.slice, Instr.sliceBounds, go_sem, hu, hz, hcap, Addr.add]
      omega
    · rw [Nat.add_assoc, Nat.add_comm 1 j]
      exact h2 (j + 1) y (by simpa using hy)

theorem pickZ_snoc (l o : List Int) (b : Bool) (x : Int) : pickZ (l ++ [x]) o b = pickZ l o b ++ (if (decide (x ∈ o) == b) = true then [x] else []) := by
  unfold pickZ
  rw [List.filter_append]
  congr 1
  cases hb : (decide (x ∈ o) == b) <;> simp [hb]
theorem nc_form {w : World} {v : Value} {l : List Int} (h : Nc w v l) : ∃ a cap, v = .slice a l.length cap := by
  obtain ⟨_, a, cap, _, _, hv, _⟩ := h
  exact ⟨a, cap, hv⟩

end Go.Proofs.YthgpnjkabpfccaaDoor

namespace Go.Proofs.YthgpnjkabpfccaaDoor
open Go.RowKit Go.Lib

theorem run_isnil12 (a : Option Addr) (n c : Nat) (w : World) : (binOp BinOp.eql 56 (.slice a n c) (.slice none 0 0)).run Tryd.prog w = .ok (.bool a.isNone) w := by
  have hu := run_underlying Tryd.underlying56
  have he : (Op.equal 56 (.slice a n c) (.slice none 0 0)).run Tryd.prog w = .ok a.isNone w := by
    show (Op.equalIn (9999 + 1) _ _ _).run _ _ = _
    unfold Op.equalIn
    simp only [Sem.run_bind, hu, Result.andThen]
    cases a <;> rfl
  simp [binOp, go_sem, he]

theorem addr_add (g off j : Nat) : (⟨g, off, none⟩ : Addr).add j = ⟨g, off + j, none⟩ := by
  unfold Addr.add
  split
  · rename_i h; subst h; rfl
  · rfl

/-- Lists within their capacities, only read, in a slice. -/
def Ncs (w : World) (v : Value) (ls : List (List Int)) : Prop := ls.length ≤ 100000 ∧ ∃ a cap g off, v = .slice a ls.length cap ∧ ls.length ≤ cap ∧ (0 < ls.length → a = some ⟨g, off, none⟩ ∧ g < w.heap.size) ∧ ∀ j l, ls[j]? = some l → ∃ x, w.cell? ⟨g, off + j, none⟩ = some x ∧ Nc w x l
theorem Ncs.on {w w' : World} {v : Value} {ls : List (List Int)} (h : Ncs w v ls) (b : Below w.heap.size w w') : Ncs w' v ls := by
  obtain ⟨hl, a, cap, g, off, hv, hc, h1, h2⟩ := h
  refine ⟨hl, a, cap, g, off, hv, hc, fun hn => ⟨(h1 hn).1, Nat.lt_of_lt_of_le (h1 hn).2 b.size⟩, fun j l hx => ?_⟩
  have hn : 0 < ls.length := by have := (List.getElem?_eq_some_iff.1 hx).1; omega
  obtain ⟨x, hx1, hx2⟩ := h2 j l hx
  exact ⟨x, (b.cell (p := ⟨g, off + j, none⟩) (h1 hn).2).trans hx1, hx2.on b⟩
/-- What the first so many leave. -/
def accZ (l : List Int) (ls : List (List Int)) : List Int := ls.foldl (fun acc o => pickZ acc o true) l
theorem accZ_snoc (l : List Int) (ls : List (List Int)) (o : List Int) : accZ l (ls ++ [o]) = pickZ (accZ l ls) o true := by simp [accZ, List.foldl_append]
theorem accZ_len : ∀ (ls : List (List Int)) (l : List Int), (accZ l ls).length ≤ l.length
  | [], l => Nat.le_refl _
  | o :: ls, l => by
    have h1 := accZ_len ls (pickZ l o true)
    have h2 : (pickZ l o true).length ≤ l.length := List.length_filter_le _ _
    show (accZ (pickZ l o true) ls).length ≤ _
    omega

end Go.Proofs.YthgpnjkabpfccaaDoor
