/- Layer 10: marks in a map; maps.Copy. -/
import Derived.Test.YtkialkjhjenkhaaMPL0
import Derived.Handy
import Derived.Laws.IdiomRangeMap
namespace Go.Proofs.Ytkialkjhjenkhaa
open Go.RowKit Go.Lib
set_option linter.unusedVariables false

/-- A mark. -/
structure KEn where
  x : List UInt8
  v : Int
  born : Nat
def KEn.en (e : KEn) : En := ⟨bs e.x, .int .i64 e.v, e.born⟩
/-- The marks in a map. -/
structure MkL (m : Nat) (es : List KEn) (ck : Nat) (w : World) : Prop where
  map : MapIs m (es.map KEn.en) ck w
  old : ∀ e ∈ es, e.born < ck
  bn : (es.map KEn.born).Nodup
  xn : (es.map KEn.x).Nodup
theorem MkL.turn {S : Nat → Prop} {m ck : Nat} {es : List KEn} {w w' : World} (h : MkL m es ck w) (t : Turn S w w') (hS : ¬ S m) : MkL m es ck w' := ⟨h.map.turn t hS, h.old, h.bn, h.xn⟩
theorem MkL.lt {m ck : Nat} {es : List KEn} {w : World} (h : MkL m es ck w) : m < w.heap.size := mapIs_lt h.map
theorem put_born (x : List UInt8) (v : Int) (ck : Nat) : ∀ es : List KEn, (putK KEn.x x (fun e => { e with v := v }) ⟨x, v, ck⟩ es).map KEn.born = if (lookK KEn.x x es).isSome then es.map KEn.born else es.map KEn.born ++ [ck]
  | [] => by simp [putK, lookK]
  | c :: l => by
    unfold putK lookK
    by_cases e : x = c.x
    · rw [if_pos e, if_pos e]; simp
    · rw [if_neg e, if_neg e, List.map_cons, put_born x v ck l]
      split <;> simp
theorem mem_born {l : List KEn} {e : KEn} (h : e ∈ l) : e.born ∈ l.map KEn.born := List.mem_map_of_mem h
/-- A mark laid. -/
theorem MkL.store {m ck : Nat} {es : List KEn} {w : World} (h : MkL m es ck w) (x : List UInt8) (v : Int) :
    ∃ es' ck' W, (Instr.mapUpdate 24 (.map (some m)) (.string (bs x)) (.int .i64 v)).run Try.prog w = .ok () W ∧ Turn (fun k => k = m) w W ∧ MkL m es' ck' W ∧ ∀ y, y ∈ es'.map KEn.x ↔ y = x ∨ y ∈ es.map KEn.x := by
  have st := run_store (P := Try.prog) Try.underlying24 Try.underlying9 h.map (bs x) (.int .i64 v)
  rw [lookE_map KEn.x KEn.en (fun _ => rfl), setE_map KEn.x KEn.en (fun _ => rfl) x (.int .i64 v) ck (fun e => { e with v := v }) ⟨x, v, ck⟩ rfl es (fun a ha e => rfl)] at st
  have hk := putK_keys KEn.x (k := x) (f := fun e => { e with v := v }) (b := ⟨x, v, ck⟩) (fun _ => rfl) rfl es
  have hb := put_born x v ck es
  refine ⟨_, _, _, st, turn_put (S := fun k => k = m) rfl _ _, ⟨mapIs_put h.lt _ _, ?_, ?_, putK_nodup KEn.x (k := x) (f := fun e => { e with v := v }) (b := ⟨x, v, ck⟩) (fun _ => rfl) rfl h.xn⟩, fun y => ?_⟩
  · intro e he
    have h1 := mem_born he
    rw [hb] at h1
    rw [Option.isSome_map]
    split at h1
    · rename_i hs
      rw [if_pos hs]
      obtain ⟨e', he', e2⟩ := List.mem_map.1 h1
      have := h.old e' he'
      omega
    · rename_i hs
      rw [if_neg hs]
      rcases List.mem_append.1 h1 with h1 | h1
      · obtain ⟨e', he', e2⟩ := List.mem_map.1 h1
        have := h.old e' he'
        omega
      · have := List.mem_singleton.1 h1
        omega
  · rw [hb]
    split
    · exact h.bn
    · rw [List.nodup_append]
      refine ⟨h.bn, by simp, fun a ha b hb' e => ?_⟩
      rw [List.mem_singleton] at hb'
      obtain ⟨e', he', e2⟩ := List.mem_map.1 ha
      have := h.old e' he'
      omega
  · rw [hk]
    split
    · rename_i hs
      refine ⟨.inr, fun h1 => ?_⟩
      rcases h1 with rfl | h1
      · obtain ⟨e, he⟩ := Option.isSome_iff_exists.1 hs
        have := lookK_mem KEn.x he
        rw [← this.2]; exact List.mem_map_of_mem this.1
      · exact h1
    · rw [List.mem_append, List.mem_singleton]
      exact Or.comm
/-- A mark looked up. -/
theorem MkL.look {m ck : Nat} {es : List KEn} {w : World} (h : MkL m es ck w) (x : List UInt8) (K : List (List UInt8)) (hK : ∀ y, y ∈ es.map KEn.x ↔ y ∈ K) :
    ∃ v, (Instr.lookup 24 (.map (some m)) (.string (bs x)) true).run Try.prog w = .ok (.tuple #[v, .bool (decide (x ∈ K))]) w := by
  have l1 := run_look (P := Try.prog) Try.underlying24 Try.underlying9 (.int .i64 0) zv_int h.map (bs x) true
  rw [lookE_map KEn.x KEn.en (fun _ => rfl)] at l1
  have hx : ((lookK KEn.x x es).map KEn.en).isSome = decide (x ∈ K) := by
    rw [Option.isSome_map]
    cases e : lookK KEn.x x es with
    | none =>
      have := (lookK_none KEn.x).1 e
      have hx : x ∉ K := fun hx => by
        obtain ⟨a, ha, e2⟩ := List.mem_map.1 ((hK x).2 hx)
        exact this a ha e2
      simp [hx]
    | some a =>
      have := lookK_mem KEn.x e
      have hx : x ∈ K := (hK x).1 (by rw [← this.2]; exact List.mem_map_of_mem this.1)
      simp [hx]
  rw [if_pos rfl, hx] at l1
  exact ⟨_, l1⟩
/-- A map whose keys are these. -/
def MarkM (m : Nat) (K : List (List UInt8)) (w : World) : Prop := ∃ es ck, MkL m es ck w ∧ ∀ y, y ∈ es.map KEn.x ↔ y ∈ K
theorem MarkM.turn {S : Nat → Prop} {m : Nat} {K : List (List UInt8)} {w w' : World} (h : MarkM m K w) (t : Turn S w w') (hS : ¬ S m) : MarkM m K w' := by
  obtain ⟨es, ck, h1, h2⟩ := h
  exact ⟨es, ck, h1.turn t hS, h2⟩
theorem MarkM.lt {m : Nat} {K : List (List UInt8)} {w : World} (h : MarkM m K w) : m < w.heap.size := by obtain ⟨es, ck, h1, h2⟩ := h; exact h1.lt
theorem MarkM.new {m : Nat} {w : World} (h : MapIs m [] 0 w) : MarkM m [] w := ⟨[], 0, ⟨h, by simp, by simp, by simp⟩, by simp⟩
theorem MarkM.look {m : Nat} {K : List (List UInt8)} {w : World} (h : MarkM m K w) (x : List UInt8) :
    ∃ v, (Instr.lookup 24 (.map (some m)) (.string (bs x)) true).run Try.prog w = .ok (.tuple #[v, .bool (decide (x ∈ K))]) w := by
  obtain ⟨es, ck, h1, h2⟩ := h
  exact h1.look x K h2
theorem MarkM.store {m : Nat} {K : List (List UInt8)} {w : World} (h : MarkM m K w) (x : List UInt8) (v : Int) :
    ∃ W, (Instr.mapUpdate 24 (.map (some m)) (.string (bs x)) (.int .i64 v)).run Try.prog w = .ok () W ∧ Turn (fun k => k = m) w W ∧ MarkM m (K ++ [x]) W := by
  obtain ⟨es, ck, h1, h2⟩ := h
  obtain ⟨es', ck', W, e1, t, h3, h4⟩ := h1.store x v
  exact ⟨W, e1, t, es', ck', h3, fun y => by rw [h4, h2, List.mem_append, List.mem_singleton]; exact Or.comm⟩
end Go.Proofs.Ytkialkjhjenkhaa
