/- Layer 10: marks in a map; maps.Copy. Layer 10: maps.Copy. -/
import Derived.Test.YtkialkjhjenkhaaMPL0
import Derived.Handy
import Derived.Laws.IdiomRangeMap
namespace Go.Proofs.Ytkialkjhjenkhaa
open Go.RowKit Go.Lib
set_option linter.unusedVariables false

/-- A mark. -/
structure KEn where
  x : List UInt8
  v : Int
  born : Nat
def KEn.en (e : KEn) : En := ⟨bs e.x, .int .i64 e.v, e.born⟩
/-- The marks in a map. -/
structure MkL (m : Nat) (es : List KEn) (ck : Nat) (w : World) : Prop where
  map : MapIs m (es.map KEn.en) ck w
  old : ∀ e ∈ es, e.born < ck
  bn : (es.map KEn.born).Nodup
  xn : (es.map KEn.x).Nodup
theorem MkL.turn {S : Nat → Prop} {m ck : Nat} {es : List KEn} {w w' : World} (h : MkL m es ck w) (t : Turn S w w') (hS : ¬ S m) : MkL m es ck w' := ⟨h.map.turn t hS, h.old, h.bn, h.xn⟩
theorem MkL.lt {m ck : Nat} {es : List KEn} {w : World} (h : MkL m es ck w) : m < w.heap.size := mapIs_lt h.map
theorem put_born (x : List UInt8) (v : Int) (ck : Nat) : ∀ es : List KEn, (putK KEn.x x (fun e => { e with v := v }) ⟨x, v, ck⟩ es).map KEn.born = if (lookK KEn.x x es).isSome then es.map KEn.born else es.map KEn.born ++ [ck]
  | [] => by simp [putK, lookK]
  | c :: l => by
    unfold putK lookK
    by_cases e : x = c.x
    · rw [if_pos e, if_pos e]; simp
    · rw [if_neg e, if_neg e, List.map_cons, put_born x v ck l]
      split <;> simp
theorem mem_born {l : List KEn} {e : KEn} (h : e ∈ l) : e.born ∈ l.map KEn.born := List.mem_map_of_mem h
/-- A mark laid. -/
theorem MkL.store {m ck : Nat} {es : List KEn} {w : World} (h : MkL m es ck w) (x : List UInt8) (v : Int) :
    ∃ es' ck' W, (Instr.mapUpdate 24 (.map (some m)) (.string (bs x)) (.int .i64 v)).run Try.prog w = .ok () W ∧ Turn (fun k => k = m) w W ∧ MkL m es' ck' W ∧ ∀ y, y ∈ es'.map KEn.x ↔ y = x ∨ y ∈ es.map KEn.x := by
  have st := run_store (P := Try.prog) Try.underlying24 Try.underlying9 h.map (bs x) (.int .i64 v)
  rw [lookE_map KEn.x KEn.en (fun _ => rfl), setE_map KEn.x KEn.en (fun _ => rfl) x (.int .i64 v) ck (fun e => { e with v := v }) ⟨x, v, ck⟩ rfl es (fun a ha e => rfl)] at st
  have hk := putK_keys KEn.x (k := x) (f := fun e => { e with v := v }) (b := ⟨x, v, ck⟩) (fun _ => rfl) rfl es
  have hb := put_born x v ck es
  refine ⟨_, _, _, st, turn_put (S := fun k => k = m) rfl _ _, ⟨mapIs_put h.lt _ _, ?_, ?_, putK_nodup KEn.x (k := x) (f := fun e => { e with v := v }) (b := ⟨x, v, ck⟩) (fun _ => rfl) rfl h.xn⟩, fun y => ?_⟩
  · intro e he
    have h1 := mem_born he
    rw [hb] at h1
    rw [Option.isSome_map]
    split at h1
    · rename_i hs
      rw [if_pos hs]
      obtain ⟨e', he', e2⟩ := List.mem_map.1 h1
      have := h.old e' he'
      omega
    · rename_i hs
      rw [if_neg hs]
      rcases List.mem_append.1 h1 with h1 | h1
      · obtain ⟨e', he', e2⟩ := List.mem_map.1 h1
        have := h.old e' he'
        omega
      · have := List.mem_singleton.1 h1
        omega
  · rw [hb]
    split
    · exact h.bn
    · rw [List.nodup_append]
      refine ⟨h.bn, by simp, fun a ha b hb' e => ?_⟩
      rw [List.mem_singleton] at hb'
      obtain ⟨e', he', e2⟩ := List.mem_map.1 ha
      have := h.old e' he'
      omega
  · rw [hk]
    split
    · rename_i hs
      refine ⟨.inr, fun h1 => ?_⟩
      rcases h1 with rfl | h1
      · obtain ⟨e, he⟩ := Option.isSome_iff_exists.1 hs
        have := lookK_mem KEn.x he
        rw [← this.2]; exact List.mem_map_of_mem this.1
      · exact h1
    · rw [List.mem_append, List.mem_singleton]
      exact Or.comm
/-- A mark looked up. -/
theorem MkL.look {m ck : Nat} {es : List KEn} {w : World} (h : MkL m es ck w) (x : List UInt8) (K : List (List UInt8)) (hK : ∀ y, y ∈ es.map KEn.x ↔ y ∈ K) :
    ∃ v, (Instr.lookup 24 (.map (some m)) (.string (bs x)) true).run Try.prog w = .ok (.tuple #[v, .bool (decide (x ∈ K))]) w := by
  have l1 := run_look (P := Try.prog) Try.underlying24 Try.underlying9 (.int .i64 0) zv_int h.map (bs x) true
  rw [lookE_map KEn.x KEn.en (fun _ => rfl)] at l1
  have hx : ((lookK KEn.x x es).map KEn.en).isSome = decide (x ∈ K) := by
    rw [Option.isSome_map]
    cases e : lookK KEn.x x es with
    | none =>
      have := (lookK_none KEn.x).1 e
      have hx : x ∉ K := fun hx => by
        obtain ⟨a, ha, e2⟩ := List.mem_map.1 ((hK x).2 hx)
        exact this a ha e2
      simp [hx]
    | some a =>
      have := lookK_mem KEn.x e
      have hx : x ∈ K := (hK x).1 (by rw [← this.2]; exact List.mem_map_of_mem this.1)
      simp [hx]
  rw [if_pos rfl, hx] at l1
  exact ⟨_, l1⟩
/-- A map whose keys are these. -/
def MarkM (m : Nat) (K : List (List UInt8)) (w : World) : Prop := ∃ es ck, MkL m es ck w ∧ ∀ y, y ∈ es.map KEn.x ↔ y ∈ K
theorem MarkM.turn {S : Nat → Prop} {m : Nat} {K : List (List UInt8)} {w w' : World} (h : MarkM m K w) (t : Turn S w w') (hS : ¬ S m) : MarkM m K w' := by
  obtain ⟨es, ck, h1, h2⟩ := h
  exact ⟨es, ck, h1.turn t hS, h2⟩
theorem MarkM.lt {m : Nat} {K : List (List UInt8)} {w : World} (h : MarkM m K w) : m < w.heap.size := by obtain ⟨es, ck, h1, h2⟩ := h; exact h1.lt
theorem MarkM.new {m : Nat} {w : World} (h : MapIs m [] 0 w) : MarkM m [] w := ⟨[], 0, ⟨h, by simp, by simp, by simp⟩, by simp⟩
theorem MarkM.look {m : Nat} {K : List (List UInt8)} {w : World} (h : MarkM m K w) (x : List UInt8) :
    ∃ v, (Instr.lookup 24 (.map (some m)) (.string (bs x)) true).run Try.prog w = .ok (.tuple #[v, .bool (decide (x ∈ K))]) w := by
  obtain ⟨es, ck, h1, h2⟩ := h
  exact h1.look x K h2
theorem MarkM.store {m : Nat} {K : List (List UInt8)} {w : World} (h : MarkM m K w) (x : List UInt8) (v : Int) :
    ∃ W, (Instr.mapUpdate 24 (.map (some m)) (.string (bs x)) (.int .i64 v)).run Try.prog w = .ok () W ∧ Turn (fun k => k = m) w W ∧ MarkM m (K ++ [x]) W := by
  obtain ⟨es, ck, h1, h2⟩ := h
  obtain ⟨es', ck', W, e1, t, h3, h4⟩ := h1.store x v
  exact ⟨W, e1, t, es', ck', h3, fun y => by rw [h4, h2, List.mem_append, List.mem_singleton]; exact Or.comm⟩
end Go.Proofs.Ytkialkjhjenkhaa

namespace Go.Proofs.Ytkialkjhjenkhaa
open Go.RowKit Go.Lib
open Go.ChangeMaps (setBlock)
set_option linter.unusedVariables false

def leftAt (es : Array MapEntry) (r : Nat) (w : World) : Nat := match w.heap[r]? with | some (.mapIter _ _ seen _) => (leftOf es seen).size | _ => 0
theorem leftAt_is {es : Array MapEntry} {r : Nat} {w : World} {m : Option Nat} {s c : Nat} {seen : Array Nat} (h : w.heap[r]? = some (.mapIter m s seen c)) : leftAt es r w = (leftOf es seen).size := by unfold leftAt; rw [h]
def kents (es : List KEn) : Array MapEntry := ((es.map KEn.en).map En.ent).toArray
theorem MkL.heap {m ck : Nat} {es : List KEn} {w : World} (h : MkL m es ck w) : w.heap[m]? = some (.map (kents es) ck) := h.map
theorem born_inj : ∀ (es : List KEn), (es.map KEn.born).Nodup → ∀ a ∈ es, ∀ b ∈ es, a.born = b.born → a = b
  | [], _, a, ha, _, _, _ => by simp at ha
  | x :: l, h, a, ha, b, hb, e => by
    rw [List.map_cons, List.nodup_cons] at h
    rcases List.mem_cons.1 ha with h1 | h1 <;> rcases List.mem_cons.1 hb with h2 | h2
    · rw [h1, h2]
    · exact absurd (by rw [← h1, e]; exact List.mem_map_of_mem h2) h.1
    · exact absurd (by rw [← h2, ← e]; exact List.mem_map_of_mem h1) h.1
    · exact born_inj l h.2 a h1 b h2 e
/-- One step of a range over marks: at the end, or one more. -/
theorem MkL.step {m ck r c0 : Nat} {es : List KEn} {seen : Array Nat} {w : World} (h : MkL m es ck w) (hit : w.heap[r]? = some (.mapIter (some m) ck seen c0)) (hc : ck ≤ c0) (ty : TypeId) (hne : m ≠ r) :
    ((∀ e ∈ es, seen.contains e.born = true) ∧ (Instr.next (.pointer (some ⟨r, 0, none⟩)) false ty).run Try.prog w = .ok (.tuple #[.bool false]) w) ∨
    ∃ e W, e ∈ es ∧ (Instr.next (.pointer (some ⟨r, 0, none⟩)) false ty).run Try.prog w = .ok (.tuple #[.bool true, .string (bs e.x), .int .i64 e.v]) W ∧ Turn (fun k => k = r) w W ∧
      W.heap[r]? = some (.mapIter (some m) ck (seen.push e.born) ck) ∧ (Instr.entry (.pointer (some ⟨r, 0, none⟩))).run Try.prog W = .ok (.tuple #[.string (bs e.x), .int .i64 e.v]) W ∧ leftAt (kents es) r W < leftAt (kents es) r w := by
  have hmr := h.heap
  have hold : ∀ x ∈ (kents es).toList, x.born < ck := fun x hx => by
    simp only [kents, List.mem_map] at hx
    obtain ⟨a, ⟨e, he, rfl⟩, rfl⟩ := hx
    exact h.old e he
  have hbn : ((kents es).toList.map (·.born)).Nodup := by
    have e2 : ((kents es).toList.map (·.born)) = es.map KEn.born := by
      simp only [kents, List.map_map]
      exact List.map_congr_left fun a _ => rfl
    rw [e2]; exact h.bn
  rcases run_next_at (P := Try.prog) w ty r m ck c0 seen (kents es) ck hit hmr hold hc with ⟨hz, hn⟩ | ⟨e, hmem, w9, hw9, hn⟩
  · refine .inl ⟨fun e he => ?_, hn⟩
    cases hs : seen.contains e.born with
    | true => rfl
    | false =>
      exfalso
      have h1 : e.en.ent ∈ leftOf (kents es) seen := Array.mem_filter.2 ⟨by
        have : e.en.ent ∈ (kents es).toList := by simp only [kents, List.mem_map]; exact ⟨e.en, ⟨e, he, rfl⟩, rfl⟩
        exact Array.mem_toList_iff.1 this, by show (!seen.contains e.born) = true; rw [hs]; rfl⟩
      have h2 := Array.eq_empty_of_size_eq_zero hz
      rw [h2] at h1
      simp at h1
  · have he9 := (mem_left hmem).1
    simp only [kents, List.mem_map] at he9
    obtain ⟨a, ⟨x, hx, rfl⟩, rfl⟩ := he9
    have hlt9 : r < w.heap.size := (Array.getElem?_eq_some_iff.1 hit).1
    obtain ⟨W, hW⟩ : ∃ W, W = setBlock w9 r (.mapIter (some m) ck (seen.push x.en.ent.born) ck) := ⟨_, rfl⟩
    rw [← hW] at hn
    have zI : W.heap.size = w.heap.size := by rw [hW]; rcases hw9 with rfl | rfl <;> simp [setBlock]
    have hrI : W.heap[r]? = some (.mapIter (some m) ck (seen.push x.en.ent.born) ck) := by rw [hW]; rcases hw9 with rfl | rfl <;> simp [setBlock, hlt9]
    have hbI : ∀ k, k ≠ r → W.heap[k]? = w.heap[k]? := fun k hk => by
      rw [hW]
      rcases hw9 with rfl | rfl
      · simp [setBlock, Array.getElem?_setIfInBounds_ne (Ne.symm hk)]
      · simp [setBlock, Array.getElem?_setIfInBounds_ne (Ne.symm hk)]; rfl
    have t : Turn (fun k => k = r) w W := by
      refine ⟨?_, ?_, ?_, by omega, fun k _ hk => hbI k hk⟩
      all_goals rw [hW]; rcases hw9 with rfl | rfl <;> rfl
    have hen := run_entry_at (P := Try.prog) W r m ck seen (kents es) ck x.en.ent hrI ((hbI m hne).trans hmr) (mem_left hmem).1 hbn
    refine .inr ⟨x, W, hx, hn, t, hrI, hen, ?_⟩
    rw [leftAt_is hrI, leftAt_is hit]
    exact left_shrinks (kents es) seen x.en.ent hmem

set_option maxHeartbeats 2000000 in
set_option maxRecDepth 100000 in
theorem mcopy_any (d m : Nat) (K : List (List UInt8)) (w : World) (hd : MarkM d [] w) (hm : MarkM m K w) (hne : d ≠ m) :
    Calls Try.prog 38 #[.map (some d), .map (some m)] w fun e w' => e = .returned (.tuple #[]) ∧ MarkM d K w' ∧ Turn (fun k => k = d) w w' := by
  obtain ⟨es, ck, hL, hK⟩ := hm
  have hml := hL.lt
  have hdl := hd.lt
  have hrg := run_range_map (P := Try.prog) w 24 9 3 m (kents es) ck Try.underlying24 hL.heap
  have HL := Lib.hid hL
  have HD := Lib.hid hd
  have HK := Lib.hid hK
  clear hL hd hK
  go_enter Try.func38, Try.ntmps38
  go_wp2_with fail
  go_loopw [4] (fun _ wr => Hid (∃ seen c9 D, wr.heap[w.heap.size]? = some (.mapIter (some m) ck seen c9) ∧ ck ≤ c9 ∧ Turn (fun k => k = d) w wr ∧ MarkM d D wr ∧ (∀ x ∈ D, x ∈ K) ∧ ∀ e ∈ es, seen.contains e.born = true → e.x ∈ D)) (fun _ wr => leftAt (kents es) w.heap.size wr)
  case atStart => exact Lib.hid ⟨#[], ck, [], heap_alloc_new w _, Nat.le_refl _, (Turn.refl _ _).alloc _, HD.out.turn ((Turn.refl (fun _ => False) _).alloc _) id, by simp, by simp⟩
  case round =>
    obtain ⟨seen, c9, D, hit, hck, ht, hD, hDK, hse⟩ := hrel.out
    have hL := HL.out.turn ht (fun h => hne h.symm)
    rcases hL.step hit hck 0 (by omega) with ⟨hall, hn⟩ | ⟨e, W, he, hn, t2, hit2, hen, hlf⟩
    · have HF := Lib.hid (show MarkM d K wr ∧ Turn (fun k => k = d) w wr from by
        obtain ⟨es', ck', h1, h2⟩ := hD
        refine ⟨⟨es', ck', h1, fun y => (h2 y).trans ⟨hDK y, fun hy => ?_⟩⟩, ht⟩
        obtain ⟨e, he, rfl⟩ := List.mem_map.1 ((HK.out y).2 hy)
        exact hse e he (hall e he))
      clear hrel hit hck ht hD hDK hse hall hL
      go_wp2_with fail
      go_returns
      exact ⟨rfl, HF.out.1, HF.out.2⟩
    · have hrd : d ≠ w.heap.size := by omega
      obtain ⟨W2, hst, t3, hD3⟩ := (hD.turn t2 (by omega)).store e.x e.v
      have HR := Lib.hid (show ∃ seen c9 D, W2.heap[w.heap.size]? = some (.mapIter (some m) ck seen c9) ∧ ck ≤ c9 ∧ Turn (fun k => k = d) w W2 ∧ MarkM d D W2 ∧ (∀ x ∈ D, x ∈ K) ∧ ∀ e ∈ es, seen.contains e.born = true → e.x ∈ D from by
        have hz : w.heap.size < W.heap.size := (Array.getElem?_eq_some_iff.1 hit2).1
        refine ⟨seen.push e.born, ck, D ++ [e.x], (t3.block _ hz (by omega)).trans hit2, Nat.le_refl _, ?_, hD3, ?_, ?_⟩
        · refine ⟨(t3.os.trans t2.os).trans ht.os, (t3.tape.trans t2.tape).trans ht.tape, (t3.output.trans t2.output).trans ht.output, Nat.le_trans ht.size (Nat.le_trans t2.size t3.size), fun k hk hkd => ?_⟩
          have h1 := t2.size; have h2 := ht.size
          exact (t3.block k (by omega) hkd).trans ((t2.block k (by omega) (by omega)).trans (ht.block k hk hkd))
        · intro x hx
          rcases List.mem_append.1 hx with hx | hx
          · exact hDK x hx
          · rw [List.mem_singleton.1 hx]; exact (HK.out _).1 (List.mem_map_of_mem he)
        · intro e' he' hs
          rw [contains_push] at hs
          rw [List.mem_append, List.mem_singleton]
          cases hs1 : seen.contains e'.born with
          | true => exact .inl (hse e' he' hs1)
          | false =>
            rw [hs1, Bool.false_or] at hs
            have hb : e'.born = e.born := by simpa using hs
            right
            rw [born_inj es HL.out.bn e' he' e he hb])
      have HM := Lib.hid (show leftAt (kents es) w.heap.size W2 < leftAt (kents es) w.heap.size wr by
        have hz : w.heap.size < W.heap.size := (Array.getElem?_eq_some_iff.1 hit2).1
        have : leftAt (kents es) w.heap.size W2 = leftAt (kents es) w.heap.size W := by unfold leftAt; rw [t3.block _ hz (by omega)]
        rw [this]; exact hlf)
      clear hrel hit hck ht hD hDK hse hL t2 hit2 hlf t3 hD3
      go_wp2_with fail
      exact ⟨Lib.hid HR.out, HM.out⟩
set_option maxHeartbeats 2000000 in
set_option maxRecDepth 100000 in
theorem mcopy_nil (d : Nat) (w : World) (hd : MarkM d [] w) :
    Calls Try.prog 38 #[.map (some d), .map none] w fun e w' => e = .returned (.tuple #[]) ∧ MarkM d [] w' ∧ Turn (fun k => k = d) w w' := by
  have hrg := run_range_nilMap (P := Try.prog) w 24 9 3 Try.underlying24
  have hnx := fun ty => run_next_nilMap (P := Try.prog) w ty 0 0 #[]
  have HD := Lib.hid hd
  clear hd
  go_enter Try.func38, Try.ntmps38
  go_wp2_with fail
  go_loopw [4] (fun _ wr => wr = w.alloc (.mapIter none 0 #[] 0)) (fun _ _ => 0)
  case atStart => rfl
  case round =>
    subst hrel
    have hn := hnx 0
    go_wp2_with fail
    go_returns
    exact ⟨rfl, HD.out.turn ((Turn.refl (fun _ => False) _).alloc _) id, (Turn.refl _ _).alloc _⟩
end Go.Proofs.Ytkialkjhjenkhaa
