/- Layer 6: unlike; the statement LabelAnyOrder walked. Layer 6: a pair, a set taken from bytes. -/
import Derived.Test.YteheojiokbdgmaaGreatDoorMLD
import Derived.Deep.RegionHeld3
import Derived.Deep.QuietTactic
import Derived.BigQuiet
namespace Go.Proofs.YteheojiokbdgmaaGreatDoor
open Go.RowKit Go.Lib

/-- A truth, whichever. -/
def SomeB (w : World) (e : Ending) (w' : World) : Prop := ∃ b n, e = .returned (.bool b) ∧ w' = w.drewN n

theorem Sl.upto {w : World} {base size g off n cap : Nat} {xs : List Value} (h : Sl w base size (.slice (some ⟨g, off, none⟩) n cap) n xs) (i : Nat) (hi : i ≤ n) :
    Sl w base size (.slice (some ⟨g, off, none⟩) i cap) i (xs.take (i * size)) := by
  refine ⟨by rw [List.length_take, h.1]; exact Nat.min_eq_left (Nat.mul_le_mul_right _ hi), ?_⟩
  rcases h.2 with ⟨h0, _⟩ | ⟨g', off', cap', he, hb, hg, hnc, hcm, hf, hc⟩
  · cases h0
  · cases he
    refine .inr ⟨g, off, cap, rfl, hb, hg, by omega, hcm, hf, fun j hj => ?_⟩
    rw [List.getElem?_take, if_pos hj]
    exact hc j (Nat.lt_of_lt_of_le hj (Nat.mul_le_mul_right _ hi))
theorem Sl.from {w : World} {base size g off n cap : Nat} {xs : List Value} (h : Sl w base size (.slice (some ⟨g, off, none⟩) n cap) n xs) (i : Nat) (hi : i ≤ n) :
    Sl w base size (.slice (some ⟨g, off + i * size, none⟩) (n - i) (cap - i)) (n - i) (xs.drop (i * size)) := by
  refine ⟨by rw [List.length_drop, h.1, Nat.sub_mul], ?_⟩
  rcases h.2 with ⟨h0, _⟩ | ⟨g', off', cap', he, hb, hg, hnc, hcm, hf, hc⟩
  · cases h0
  · cases he
    refine .inr ⟨g, off + i * size, cap - i, rfl, hb, hg, by omega, by omega, fun j hj => ?_, fun j hj => ?_⟩
    · rw [Nat.add_assoc]
      rw [Nat.sub_mul] at hj
      exact hf _ (by have := Nat.mul_le_mul_right size (show i ≤ cap by omega); omega)
    · rw [Nat.add_assoc, List.getElem?_drop]
      rw [Nat.sub_mul] at hj
      exact hc _ (by have := Nat.mul_le_mul_right size hi; omega)

theorem prc_take : ∀ (ds : List Pr) (k : Nat), (prc ds).take (k * 2) = prc (ds.take k)
  | [], k => by simp [prc]
  | x :: ds, 0 => by simp [prc]
  | x :: ds, k + 1 => by
    rw [show (k + 1) * 2 = k * 2 + 1 + 1 by omega, prc_cons, List.take_succ_cons, prc_cons, ← prc_take ds k]
    rfl
theorem prc_drop : ∀ (ds : List Pr) (k : Nat), (prc ds).drop (k * 2) = prc (ds.drop k)
  | [], k => by simp [prc]
  | x :: ds, 0 => by simp
  | x :: ds, k + 1 => by
    rw [show (k + 1) * 2 = k * 2 + 1 + 1 by omega, prc_cons, List.drop_succ_cons, ← prc_drop ds k]
    rfl
theorem run_cutP (g off N k uc : Nat) (hk : k ≤ uc) (W : World) : (Instr.slice 52 (.slice (some ⟨g, off, none⟩) N uc) none (some (.int .i64 (k : Int))) none).run Tryz.prog W = .ok (.slice (some ⟨g, off, none⟩) k uc) W := by
  have hu := run_underlying Tryz.underlying52
  have hz := Tryz.sizeOf58
  have h1 : (0 : Int) ≤ k := by omega
  have h2 : (k : Int) ≤ uc := by omega
  simp [Instr.slice, Instr.sliceBounds, go_sem, hu, hz, h2, Addr.add]
theorem run_fromP (g off N k uc : Nat) (hk : k ≤ N) (hu' : k < uc) (W : World) : (Instr.slice 52 (.slice (some ⟨g, off, none⟩) N uc) (some (.int .i64 (k : Int))) none none).run Tryz.prog W = .ok (.slice (some ⟨g, off + k * 2, none⟩) (N - k) (uc - k)) W := by
  have hu := run_underlying Tryz.underlying52
  have hz := Tryz.sizeOf58
  have h1 : (0 : Int) ≤ k := by omega
  have h2 : (k : Int) ≤ N := by omega
  have h3 : ¬ uc = k := by omega
  simp [Instr.slice, Instr.sliceBounds, go_sem, hu, hz, h2, h3, Addr.add]
theorem run_tail (w : World) (base g off N k uc : Nat) (xs : List Value) (hk : k ≤ N) (hs : Sl w base 2 (.slice (some ⟨g, off, none⟩) N uc) N xs) :
    ∃ T, (∀ W, (Instr.slice 52 (.slice (some ⟨g, off, none⟩) N uc) (some (.int .i64 (k : Int))) none none).run Tryz.prog W = .ok (.slice (some ⟨g, T, none⟩) (N - k) (uc - k)) W) ∧ Sl w base 2 (.slice (some ⟨g, T, none⟩) (N - k) (uc - k)) (N - k) (xs.drop (k * 2)) := by
  have hnc : N ≤ uc := by
    rcases hs.2 with ⟨h0, _⟩ | ⟨_, _, _, he, _, _, h, _⟩
    · cases h0
    · cases he; exact h
  by_cases hku : k < uc
  · exact ⟨off + k * 2, fun W => run_fromP g off N k uc hk hku W, hs.from k hk⟩
  · have e1 : N - k = 0 := by omega
    have e2 : uc - k = 0 := by omega
    refine ⟨off, fun W => ?_, ?_⟩
    · have hu := run_underlying Tryz.underlying52
      have hz := Tryz.sizeOf58
      have h2 : (k : Int) ≤ N := by omega
      have h3 : uc = k := by omega
      simp [Instr.slice, Instr.sliceBounds, go_sem, hu, hz, h2, h3, Addr.add]
    · have h := hs.from k hk
      refine ⟨h.1, ?_⟩
      rcases h.2 with ⟨h0, _⟩ | ⟨g', off', cap', he, hb, hg, _, hcm, _, _⟩
      · cases h0
      · cases he
        exact .inr ⟨g, off, uc - k, rfl, hb, hg, by omega, hcm, fun j hj => by omega, fun j hj => by omega⟩
/-- 'append(v, x..)', x nil, in a region that draws its order. -/
theorem step_append_nil {P : Program} {ops : Array Oper} {o : Oper} {a : Act} {w : World} {K : Act → World → Prop} {Q : Exit → Act → World → Prop} {E : Prop} (hgd : o.guard = none) (s x : Operand) (t : TypeId)
    (ho : o.op = .call { callee := .builtin .append, args := #[s, x], argTypes := #[t, t] })
    (base : Nat) (e : TypeId) (i : TypeInfo) (size : Nat) (ht : P.underlying t = some (.slice e)) (hi : P.info? e = some i)
    (v : Value) (n : Nat) (xs : List Value) (hs : a.eval s = v) (hown : Sl w base size v n xs) (hx : a.eval x = .slice none 0 0)
    (h : K (a.put o.dst v) w) :
    if Region.wanted o (yielded ops a.tmps) = true then Oper.wp P o a w K Q else E := by
  have hw : Region.wanted o (yielded ops a.tmps) = true := by simp [Region.wanted, hgd]
  rw [if_pos hw]
  have hr := run_append_none_sl (P := P) w base t o.type e i size ht hi v n xs hown
  unfold Oper.wp execOp
  simp only [ho, resolve, invoke, builtin, Sem.run_bind, Sem.run_pure, Result.andThen_ok, List.map_toArray, List.map_cons, List.map_nil, hs, hx, hr]
  exact h
theorem run_nil1 (W : World) : (Instr.slice 52 (.slice none 0 0) (some (.int .i64 0)) none none).run Tryz.prog W = .ok (.slice none 0 0) W := by
  have hu := run_underlying Tryz.underlying52
  have hz := Tryz.sizeOf58
  simp [Instr.slice, Instr.sliceBounds, go_sem, hu, hz]
theorem run_nil2 (W : World) : (Instr.slice 52 (.slice none 0 0) none (some (.int .i64 0)) none).run Tryz.prog W = .ok (.slice none 0 0) W := by
  have hu := run_underlying Tryz.underlying52
  have hz := Tryz.sizeOf58
  simp [Instr.slice, Instr.sliceBounds, go_sem, hu, hz]

theorem made_same (a b : List Pr) (h : a.Perm b) : sortP a = sortP b := (sortP_of ((sortP_perm a).trans h) (sortP_rising a))

end Go.Proofs.YteheojiokbdgmaaGreatDoor

namespace Go.Proofs.YteheojiokbdgmaaGreatDoor
open Go.RowKit Go.Lib

/-- The pair at the beginning of bytes, what is left, the error. -/
def tkP (l : List UInt8) : Pr × List UInt8 × Nat :=
  if (Leb.takeT l 40).2.2 ≠ 0 then (⟨[], []⟩, [], (Leb.takeT l 40).2.2)
  else if (Leb.takeT (Leb.takeT l 40).2.1 40).2.2 ≠ 0 then (⟨[], []⟩, [], (Leb.takeT (Leb.takeT l 40).2.1 40).2.2)
  else (⟨(Leb.takeT l 40).1, (Leb.takeT (Leb.takeT l 40).2.1 40).1⟩, (Leb.takeT (Leb.takeT l 40).2.1 40).2.1, 0)
def TakenP (w : World) (r : Pr × List UInt8 × Nat) (e : Ending) (w' : World) : Prop := e = .returned (.tuple #[prV r.1, .string (bs r.2.1), .int .i64 r.2.2]) ∧ Below w.heap.size w w'

theorem takeT_left (l : List UInt8) (most : Int) : (Leb.takeT l most).2.1.length ≤ l.length := by
  unfold Leb.takeT
  split
  · simp
  · split
    · simp
    · have : (Leb.takeM l most).2.1.length ≤ l.length := by
        unfold Leb.takeM
        split
        · simp
        · split
          · simp
          · exact Leb.dec_left l 0 0
      simp only [List.length_drop]
      omega

theorem box2 (w : World) (x y a b : Value) (t : TypeId) (k : Nat) :
    ((((w.alloc (.cells #[x, y] t)).drewN k).setCell ⟨w.heap.size, 0, none⟩ a).setCell ⟨w.heap.size, 1, none⟩ b).cell? ⟨w.heap.size, 0, none⟩ = some a ∧
    ((((w.alloc (.cells #[x, y] t)).drewN k).setCell ⟨w.heap.size, 0, none⟩ a).setCell ⟨w.heap.size, 1, none⟩ b).cell? ⟨w.heap.size, 1, none⟩ = some b ∧
    Below w.heap.size w ((((w.alloc (.cells #[x, y] t)).drewN k).setCell ⟨w.heap.size, 0, none⟩ a).setCell ⟨w.heap.size, 1, none⟩ b) := by
  have hh : ((w.alloc (.cells #[x, y] t)).drewN k).heap[w.heap.size]? = some (.cells #[x, y] t) := by rw [World.heap_drewN]; exact heap_alloc_new w _
  have c0 : ((w.alloc (.cells #[x, y] t)).drewN k).cell? ⟨w.heap.size, 0, none⟩ = some x := by rw [Lib.cell_of_heap hh]; rfl
  have c1 : ((w.alloc (.cells #[x, y] t)).drewN k).cell? ⟨w.heap.size, 1, none⟩ = some y := by rw [Lib.cell_of_heap hh]; rfl
  refine ⟨?_, ?_, ?_⟩
  · rw [cell_setCell_other _ _ _ _ _ (.inr (by simp))]
    exact cell_setCell_same _ _ _ _ (by rw [c0]; rfl)
  · exact cell_setCell_same _ _ _ _ (by rw [cell_setCell_other _ _ _ _ _ (.inr (by simp)), c1]; rfl)
  · exact (((below_draw ((Below.refl _ _).alloc (Nat.le_refl _) _) _).setCell (Nat.le_refl _) _).setCell (Nat.le_refl _) _)

end Go.Proofs.YteheojiokbdgmaaGreatDoor
