/- Maps with texts as keys, as lists of entries: what a look-up, a store, a deletion do. Maps with numbers as keys, as lists of entries: what a look-up, a store, a deletion do. Texts compared: plain maths. Texts: the first place of a byte, a text cut at it (strings.Index, strings.Cut at a text of one byte). -/
import Derived.Test.YtefhnjepocbodaaGreatDoorMK1
import Derived.MapKept
import Derived.Maps.RangeRun
import Derived.Maps.Own
import Derived.Test.YtefhnjepocbodaaGreatDoorMB0
import Derived.Lib.Bytealg
import Derived.Sort.Statements
import Derived.Laws.Externs
namespace Go.Proofs.YtefhnjepocbodaaGreatDoor
open Go.RowKit

/-- An entry of a map whose keys are texts. -/
structure En where
  name : ByteArray
  val : Value
  born : Nat
def En.ent (e : En) : MapEntry := { key := .string e.name, val := e.val, born := e.born }
def MapIs (m : Nat) (es : List En) (clock : Nat) (w : World) : Prop := w.heap[m]? = some (.map (es.map En.ent).toArray clock)
/-- The entry of a name; a value stored; an entry gone. -/
def lookE (k : ByteArray) : List En → Option En
  | [] => none
  | e :: es => if k = e.name then some e else lookE k es
def setE (k : ByteArray) (v : Value) (b : Nat) : List En → List En
  | [] => [⟨k, v, b⟩]
  | e :: es => if k = e.name then { e with val := v } :: es else e :: setE k v b es
def delE (k : ByteArray) : List En → List En
  | [] => []
  | e :: es => if k = e.name then es else e :: delE k es

theorem sameNow_string (k : ByteArray) (e : En) : Instr.sameNow .string (.string k) e.ent.key = some (decide (k = e.name)) := by
  show some (k == e.name) = _
  congr 1
  by_cases h : k = e.name
  · rw [(MapKept.bytes_beq _ _).2 h, decide_eq_true h]
  · rw [decide_eq_false h, Bool.eq_false_iff]
    exact fun hb => h ((MapKept.bytes_beq _ _).1 hb)

theorem find_all (k : ByteArray) : ∀ (es : List En) (i : Nat),
    (Instr.findNow .string (.string k) (es.map En.ent) i = some none ∧ lookE k es = none ∧ (∀ v b, setE k v b es = es ++ [⟨k, v, b⟩]) ∧ delE k es = es) ∨
    ∃ j e, Instr.findNow .string (.string k) (es.map En.ent) i = some (some (i + j, e.val)) ∧ es[j]? = some e ∧ e.name = k ∧ lookE k es = some e ∧ (∀ v b, setE k v b es = es.modify j fun e => { e with val := v }) ∧ delE k es = es.eraseIdx j
  | [], i => .inl ⟨rfl, rfl, fun _ _ => rfl, rfl⟩
  | e :: es, i => by
    by_cases h : k = e.name
    · refine .inr ⟨0, e, ?_, rfl, h.symm, ?_, fun v b => ?_, ?_⟩
      · rw [List.map_cons]; unfold Instr.findNow; rw [sameNow_string, decide_eq_true h]; rfl
      · simp [lookE, h]
      · simp [setE, h]
      · simp [delE, h]
    · have hf : Instr.findNow .string (.string k) ((e :: es).map En.ent) i = Instr.findNow .string (.string k) (es.map En.ent) (i + 1) := by
        rw [List.map_cons]
        conv => lhs; unfold Instr.findNow
        rw [sameNow_string, decide_eq_false h]
      rcases find_all k es (i + 1) with ⟨h1, h2, h3, h4⟩ | ⟨j, e', h1, h2, h3, h4, h5, h6⟩
      · exact .inl ⟨hf.trans h1, by simp [lookE, h, h2], fun v b => by simp [setE, h, h3], by simp [delE, h, h4]⟩
      · refine .inr ⟨j + 1, e', by rw [hf, h1]; congr 3; omega, by simpa using h2, h3, by simp [lookE, h, h4], fun v b => by simp [setE, h, h5], by simp [delE, h, h6]⟩

theorem map_erase (f : En → MapEntry) : ∀ (l : List En) (j : Nat), (l.eraseIdx j).map f = (l.map f).eraseIdx j
  | [], j => by simp
  | e :: l, 0 => rfl
  | e :: l, j + 1 => by simp [map_erase f l j]

section
variable {P : Program} {w : World} {T K E : TypeId} {m clock : Nat} {es : List En}

theorem run_look (ht : P.underlying T = some (.map K E)) (hk : P.underlying K = some .string) (z : Value) (hz : ∀ w, (zeroValue E).run P w = .ok z w) (h : MapIs m es clock w) (k : ByteArray) (ok : Bool) :
    (Instr.lookup T (.map (some m)) (.string k) ok).run P w = .ok (if ok then .tuple #[((lookE k es).map (·.val)).getD z, .bool (lookE k es).isSome] else ((lookE k es).map (·.val)).getD z) w := by
  have hkey : MapKept.IsKey .string (.string k) := trivial
  have hck := fun b : Bool => MapKept.run_checkKey (P := P) (w := w) hk hkey b 9999
  rcases find_all k es 0 with ⟨h1, h2, _, _⟩ | ⟨j, e, h1, _, _, h4, _, _⟩
  · have hfk := MapKept.run_findKey (P := P) (w := w) hk h1
    cases ok <;> simp [Instr.lookup, run_underlying ht, MapKept.run_getObj_map h, hck, Result.andThen, hfk, hz, h2]
  · have hfk := MapKept.run_findKey (P := P) (w := w) hk h1
    cases ok <;> simp [Instr.lookup, run_underlying ht, MapKept.run_getObj_map h, hck, Result.andThen, hfk, h4]

/-- The map's block is another one now. -/
def World.putMap (w : World) (m : Nat) (es : List En) (clock : Nat) : World := { w with heap := w.heap.setIfInBounds m (.map (es.map En.ent).toArray clock) }
theorem mapIs_put (h : m < w.heap.size) (es' : List En) (clock' : Nat) : MapIs m es' clock' (World.putMap w m es' clock') := by
  unfold MapIs World.putMap
  simp [h]
theorem turn_put {S : Nat → Prop} (hS : S m) (es' : List En) (clock' : Nat) : Turn S w (World.putMap w m es' clock') :=
  ⟨rfl, rfl, rfl, by simp [World.putMap], fun i _ hr => by
    have hne : m ≠ i := fun e => hr (e ▸ hS)
    simp only [World.putMap]; rw [Array.getElem?_setIfInBounds_ne hne]⟩

theorem run_store (ht : P.underlying T = some (.map K E)) (hk : P.underlying K = some .string) (h : MapIs m es clock w) (k : ByteArray) (v : Value) :
    (Instr.mapUpdate T (.map (some m)) (.string k) v).run P w = .ok () (World.putMap w m (setE k v clock es) (if (lookE k es).isSome then clock else clock + 1)) := by
  have hkey : MapKept.IsKey .string (.string k) := trivial
  have hck := fun b : Bool => MapKept.run_checkKey (P := P) (w := w) hk hkey b 9999
  have hset := fun o => MapKept.run_setObj_map (P := P) o h
  rcases find_all k es 0 with ⟨h1, h2, h3, _⟩ | ⟨j, e, h1, hj, hn, h4, h5, _⟩
  · have hfk := MapKept.run_findKey (P := P) (w := w) hk h1
    simp [Instr.mapUpdate, run_underlying ht, MapKept.run_getObj_map h, hck, Result.andThen, hfk, hset, h2, h3, World.putMap, En.ent]
  · have hfk := MapKept.run_findKey (P := P) (w := w) hk h1
    have hjl : ((es.map En.ent).toArray)[0 + j]? = some e.ent := by simp [hj]
    have hks : (Instr.keyThatStays (((((es.map En.ent).toArray)[0 + j]?).map (·.key)).getD (.string k)) (.string k)).run P w = .ok (.string k) w := by
      rw [hjl]
      have hs : Instr.sameBits 10000 (.string k) (.string k) = true := by
        show (k == k) = true
        exact (MapKept.bytes_beq _ _).2 rfl
      simp [En.ent, hn, Instr.keyThatStays, hs]
    have hmod : (es.map En.ent).toArray.modify (0 + j) (fun e => { e with key := .string k, val := v }) = ((setE k v clock es).map En.ent).toArray := by
      rw [h5]
      apply Array.ext'
      simp only [Array.toList_modify, Nat.zero_add]
      apply List.ext_getElem?
      intro i
      rw [List.getElem?_modify, List.getElem?_map, List.getElem?_map, List.getElem?_modify]
      by_cases hij : j = i
      · subst hij
        rw [hj]
        simp [En.ent, hn]
      · cases es[i]? <;> simp [hij]
    simp only [Instr.mapUpdate, Sem.run_bind, run_underlying ht, MapKept.run_getObj_map h, hck, Result.andThen, hfk, hks, hset, hmod]
    simp [h4, World.putMap]

theorem run_drop (ht : P.underlying T = some (.map K E)) (hk : P.underlying K = some .string) (h : MapIs m es clock w) (k : ByteArray) (ty : TypeId) :
    (Builtin.delete_ #[T, K] ty #[.map (some m), .string k]).run P w = .ok (.tuple #[]) (World.putMap w m (delE k es) clock) := by
  have hkey : MapKept.IsKey .string (.string k) := trivial
  have hck := fun b : Bool => MapKept.run_checkKey (P := P) (w := w) hk hkey b 9999
  have hset := fun o => MapKept.run_setObj_map (P := P) o h
  rcases find_all k es 0 with ⟨h1, _, _, h4⟩ | ⟨j, e, h1, hj, _, _, _, h6⟩
  · have hfk := MapKept.run_findKey (P := P) (w := w) hk h1
    simp [Builtin.delete_, run_underlying ht, MapKept.run_getObj_map h, hck, Result.andThen, hfk, hset, h4, World.putMap]
  · have hfk := MapKept.run_findKey (P := P) (w := w) hk h1
    simp [Builtin.delete_, run_underlying ht, MapKept.run_getObj_map h, hck, Result.andThen, hfk, hset]
    unfold World.putMap
    rw [h6, map_erase]
end
#print axioms run_look
#print axioms run_store
#print axioms run_drop
end Go.Proofs.YtefhnjepocbodaaGreatDoor

namespace Go.Proofs.YtefhnjepocbodaaGreatDoor
open Go.RowKit

/-- An entry of a map whose keys are numbers. -/
structure EnJ where
  name : Int
  val : Value
  born : Nat
def EnJ.ent (e : EnJ) : MapEntry := { key := .int .i64 e.name, val := e.val, born := e.born }
def MapIsJ (m : Nat) (es : List EnJ) (clock : Nat) (w : World) : Prop := w.heap[m]? = some (.map (es.map EnJ.ent).toArray clock)
/-- The entry of a name; a value stored; an entry gone. -/
def lookJ (k : Int) : List EnJ → Option EnJ
  | [] => none
  | e :: es => if k = e.name then some e else lookJ k es
def setJ (k : Int) (v : Value) (b : Nat) : List EnJ → List EnJ
  | [] => [⟨k, v, b⟩]
  | e :: es => if k = e.name then { e with val := v } :: es else e :: setJ k v b es
def delJ (k : Int) : List EnJ → List EnJ
  | [] => []
  | e :: es => if k = e.name then es else e :: delJ k es

theorem sameNow_int (k : Int) (e : EnJ) : Instr.sameNow (.int .i64) (.int .i64 k) e.ent.key = some (decide (k = e.name)) := by
  show some (k == e.name) = _
  rfl

theorem find_allJ (k : Int) : ∀ (es : List EnJ) (i : Nat),
    (Instr.findNow (.int .i64) (.int .i64 k) (es.map EnJ.ent) i = some none ∧ lookJ k es = none ∧ (∀ v b, setJ k v b es = es ++ [⟨k, v, b⟩]) ∧ delJ k es = es) ∨
    ∃ j e, Instr.findNow (.int .i64) (.int .i64 k) (es.map EnJ.ent) i = some (some (i + j, e.val)) ∧ es[j]? = some e ∧ e.name = k ∧ lookJ k es = some e ∧ (∀ v b, setJ k v b es = es.modify j fun e => { e with val := v }) ∧ delJ k es = es.eraseIdx j
  | [], i => .inl ⟨rfl, rfl, fun _ _ => rfl, rfl⟩
  | e :: es, i => by
    by_cases h : k = e.name
    · refine .inr ⟨0, e, ?_, rfl, h.symm, ?_, fun v b => ?_, ?_⟩
      · rw [List.map_cons]; unfold Instr.findNow; rw [sameNow_int, decide_eq_true h]; rfl
      · simp [lookJ, h]
      · simp [setJ, h]
      · simp [delJ, h]
    · have hf : Instr.findNow (.int .i64) (.int .i64 k) ((e :: es).map EnJ.ent) i = Instr.findNow (.int .i64) (.int .i64 k) (es.map EnJ.ent) (i + 1) := by
        rw [List.map_cons]
        conv => lhs; unfold Instr.findNow
        rw [sameNow_int, decide_eq_false h]
      rcases find_allJ k es (i + 1) with ⟨h1, h2, h3, h4⟩ | ⟨j, e', h1, h2, h3, h4, h5, h6⟩
      · exact .inl ⟨hf.trans h1, by simp [lookJ, h, h2], fun v b => by simp [setJ, h, h3], by simp [delJ, h, h4]⟩
      · refine .inr ⟨j + 1, e', by rw [hf, h1]; congr 3; omega, by simpa using h2, h3, by simp [lookJ, h, h4], fun v b => by simp [setJ, h, h5], by simp [delJ, h, h6]⟩

theorem map_eraseJ (f : EnJ → MapEntry) : ∀ (l : List EnJ) (j : Nat), (l.eraseIdx j).map f = (l.map f).eraseIdx j
  | [], j => by simp
  | e :: l, 0 => rfl
  | e :: l, j + 1 => by simp [map_eraseJ f l j]

section
variable {P : Program} {w : World} {T K E : TypeId} {m clock : Nat} {es : List EnJ}

theorem run_lookJ (ht : P.underlying T = some (.map K E)) (hk : P.underlying K = some (.int .i64)) (z : Value) (hz : ∀ w, (zeroValue E).run P w = .ok z w) (h : MapIsJ m es clock w) (k : Int) (ok : Bool) :
    (Instr.lookup T (.map (some m)) (.int .i64 k) ok).run P w = .ok (if ok then .tuple #[((lookJ k es).map (·.val)).getD z, .bool (lookJ k es).isSome] else ((lookJ k es).map (·.val)).getD z) w := by
  have hkey : MapKept.IsKey (.int .i64) (.int .i64 k) := rfl
  have hck := fun b : Bool => MapKept.run_checkKey (P := P) (w := w) hk hkey b 9999
  rcases find_allJ k es 0 with ⟨h1, h2, _, _⟩ | ⟨j, e, h1, _, _, h4, _, _⟩
  · have hfk := MapKept.run_findKey (P := P) (w := w) hk h1
    cases ok <;> simp [Instr.lookup, run_underlying ht, MapKept.run_getObj_map h, hck, Result.andThen, hfk, hz, h2]
  · have hfk := MapKept.run_findKey (P := P) (w := w) hk h1
    cases ok <;> simp [Instr.lookup, run_underlying ht, MapKept.run_getObj_map h, hck, Result.andThen, hfk, h4]

/-- The map's block is another one now. -/
def World.putMapJ (w : World) (m : Nat) (es : List EnJ) (clock : Nat) : World := { w with heap := w.heap.setIfInBounds m (.map (es.map EnJ.ent).toArray clock) }
theorem mapIsJ_put (h : m < w.heap.size) (es' : List EnJ) (clock' : Nat) : MapIsJ m es' clock' (World.putMapJ w m es' clock') := by
  unfold MapIsJ World.putMapJ
  simp [h]
theorem turn_putJ {S : Nat → Prop} (hS : S m) (es' : List EnJ) (clock' : Nat) : Turn S w (World.putMapJ w m es' clock') :=
  ⟨rfl, rfl, rfl, by simp [World.putMapJ], fun i _ hr => by
    have hne : m ≠ i := fun e => hr (e ▸ hS)
    simp only [World.putMapJ]; rw [Array.getElem?_setIfInBounds_ne hne]⟩

theorem run_storeJ (ht : P.underlying T = some (.map K E)) (hk : P.underlying K = some (.int .i64)) (h : MapIsJ m es clock w) (k : Int) (v : Value) :
    (Instr.mapUpdate T (.map (some m)) (.int .i64 k) v).run P w = .ok () (World.putMapJ w m (setJ k v clock es) (if (lookJ k es).isSome then clock else clock + 1)) := by
  have hkey : MapKept.IsKey (.int .i64) (.int .i64 k) := rfl
  have hck := fun b : Bool => MapKept.run_checkKey (P := P) (w := w) hk hkey b 9999
  have hset := fun o => MapKept.run_setObj_map (P := P) o h
  rcases find_allJ k es 0 with ⟨h1, h2, h3, _⟩ | ⟨j, e, h1, hj, hn, h4, h5, _⟩
  · have hfk := MapKept.run_findKey (P := P) (w := w) hk h1
    simp [Instr.mapUpdate, run_underlying ht, MapKept.run_getObj_map h, hck, Result.andThen, hfk, hset, h2, h3, World.putMapJ, EnJ.ent]
  · have hfk := MapKept.run_findKey (P := P) (w := w) hk h1
    have hjl : ((es.map EnJ.ent).toArray)[0 + j]? = some e.ent := by simp [hj]
    have hks : (Instr.keyThatStays (((((es.map EnJ.ent).toArray)[0 + j]?).map (·.key)).getD (.int .i64 k)) (.int .i64 k)).run P w = .ok (.int .i64 k) w := by
      rw [hjl]
      have hs : Instr.sameBits 10000 (.int .i64 k) (.int .i64 k) = true := by
        show (k == k) = true
        simp
      simp [EnJ.ent, hn, Instr.keyThatStays, hs]
    have hmod : (es.map EnJ.ent).toArray.modify (0 + j) (fun e => { e with key := .int .i64 k, val := v }) = ((setJ k v clock es).map EnJ.ent).toArray := by
      rw [h5]
      apply Array.ext'
      simp only [Array.toList_modify, Nat.zero_add]
      apply List.ext_getElem?
      intro i
      rw [List.getElem?_modify, List.getElem?_map, List.getElem?_map, List.getElem?_modify]
      by_cases hij : j = i
      · subst hij
        rw [hj]
        simp [EnJ.ent, hn]
      · cases es[i]? <;> simp [hij]
    simp only [Instr.mapUpdate, Sem.run_bind, run_underlying ht, MapKept.run_getObj_map h, hck, Result.andThen, hfk, hks, hset, hmod]
    simp [h4, World.putMapJ]

theorem run_dropJ (ht : P.underlying T = some (.map K E)) (hk : P.underlying K = some (.int .i64)) (h : MapIsJ m es clock w) (k : Int) (ty : TypeId) :
    (Builtin.delete_ #[T, K] ty #[.map (some m), .int .i64 k]).run P w = .ok (.tuple #[]) (World.putMapJ w m (delJ k es) clock) := by
  have hkey : MapKept.IsKey (.int .i64) (.int .i64 k) := rfl
  have hck := fun b : Bool => MapKept.run_checkKey (P := P) (w := w) hk hkey b 9999
  have hset := fun o => MapKept.run_setObj_map (P := P) o h
  rcases find_allJ k es 0 with ⟨h1, _, _, h4⟩ | ⟨j, e, h1, hj, _, _, _, h6⟩
  · have hfk := MapKept.run_findKey (P := P) (w := w) hk h1
    simp [Builtin.delete_, run_underlying ht, MapKept.run_getObj_map h, hck, Result.andThen, hfk, hset, h4, World.putMapJ]
  · have hfk := MapKept.run_findKey (P := P) (w := w) hk h1
    simp [Builtin.delete_, run_underlying ht, MapKept.run_getObj_map h, hck, Result.andThen, hfk, hset]
    unfold World.putMapJ
    rw [h6, map_eraseJ]
end
#print axioms run_lookJ
#print axioms run_storeJ
#print axioms run_dropJ
end Go.Proofs.YtefhnjepocbodaaGreatDoor

namespace Go.Proofs.YtefhnjepocbodaaGreatDoor
open Go.RowKit

theorem cmp_spec : ∀ a b : List UInt8, (Lib.compareBytes a b < 0 ↔ a < b) ∧ (Lib.compareBytes a b = 0 ↔ a = b) ∧ (0 < Lib.compareBytes a b ↔ b < a)
  | [], [] => by simp [Lib.compareBytes]
  | [], _ :: _ => by simp [Lib.compareBytes]
  | _ :: _, [] => by simp [Lib.compareBytes]
  | x :: a, y :: b => by
    obtain ⟨h1, h2, h3⟩ := cmp_spec a b
    unfold Lib.compareBytes
    rw [List.cons_lt_cons_iff, List.cons_lt_cons_iff]
    by_cases hxy : x < y
    · have hne : x ≠ y := fun e => by rw [e] at hxy; exact absurd hxy (UInt8.lt_irrefl _)
      have hyx : ¬ y < x := fun h => absurd (UInt8.lt_trans hxy h) (UInt8.lt_irrefl _)
      simp [hxy, hne, hyx, Ne.symm hne]
    · by_cases hyx : y < x
      · have hne : x ≠ y := fun e => by rw [e] at hyx; exact absurd hyx (UInt8.lt_irrefl _)
        simp [hxy, hyx, hne, Ne.symm hne]
      · have he : x = y := UInt8.le_antisymm (UInt8.not_lt.1 hyx) (UInt8.not_lt.1 hxy)
        subst he
        simp [h1, h2, h3]
theorem cmp_lt (a b : List UInt8) : Lib.compareBytes a b < 0 ↔ a < b := (cmp_spec a b).1
theorem cmp_eq (a b : List UInt8) : Lib.compareBytes a b = 0 ↔ a = b := (cmp_spec a b).2.1
theorem cmp_gt (a b : List UInt8) : 0 < Lib.compareBytes a b ↔ b < a := (cmp_spec a b).2.2
theorem cmp_val : ∀ a b : List UInt8, Lib.compareBytes a b = -1 ∨ Lib.compareBytes a b = 0 ∨ Lib.compareBytes a b = 1
  | [], [] => by simp [Lib.compareBytes]
  | [], _ :: _ => by simp [Lib.compareBytes]
  | _ :: _, [] => by simp [Lib.compareBytes]
  | x :: a, y :: b => by
    have := cmp_val a b
    unfold Lib.compareBytes
    split
    · simp
    · split
      · simp
      · exact this
theorem bytes_lt_irrefl (a : List UInt8) : ¬ a < a := List.lt_irrefl a
theorem bytes_lt_trans {a b c : List UInt8} (h : a < b) (k : b < c) : a < c := List.lt_trans h k
theorem bytes_tri (a b : List UInt8) : a < b ∨ a = b ∨ b < a := by
  rcases cmp_val a b with h | h | h
  · exact .inl ((cmp_lt a b).1 (by omega))
  · exact .inr (.inl ((cmp_eq a b).1 h))
  · exact .inr (.inr ((cmp_gt a b).1 (by omega)))
theorem bytes_not_lt {a b : List UInt8} (h : ¬ a < b) : a = b ∨ b < a := (bytes_tri a b).resolve_left h
/-- Texts by rising bytes, as a strict weak order on whatever has one. -/
theorem swo_by {α : Type} (key : α → List UInt8) : Sort.SWO fun x y : α => decide (Lib.compareBytes (key x) (key y) < 0) where
  irrefl x := by
    rw [decide_eq_false_iff_not, cmp_lt]
    exact bytes_lt_irrefl _
  trans x y z h k := by
    rw [decide_eq_true_iff, cmp_lt] at *
    exact bytes_lt_trans h k
  ntrans x y z h k := by
    rw [decide_eq_false_iff_not, cmp_lt] at *
    intro hz
    rcases bytes_not_lt h with e | e
    · exact k (e ▸ hz)
    · rcases bytes_not_lt k with e2 | e2
      · exact h (e2 ▸ hz)
      · exact bytes_lt_irrefl _ (bytes_lt_trans hz (bytes_lt_trans e2 e))
end Go.Proofs.YtefhnjepocbodaaGreatDoor

namespace Go.Proofs.YtefhnjepocbodaaGreatDoor
open Go.RowKit Go.Lib

set_option maxHeartbeats 1000000 in
set_option maxRecDepth 100000 in
theorem ibyte_any (s : ByteArray) (c : UInt8) (w : World) : Calls Tryz.prog 107 #[.string s, .int .u8 c.toNat] w fun e w' => e = .returned (.int .i64 (Lib.indexByte s.data.toList c)) ∧ w = w' := by
  go_enter Tryz.func107, Tryz.ntmps107
  go_wp2
  rw [run_callFunc_extern Tryz.func130 (by kernel_rfl) (by kernel_rfl) (by kernel_rfl) (e := Extern.BytealgIndexByte.indexByte) (by kernel_rfl), Lib.run_indexByteString]
  simp only [Result.andThen]
  rw [Oper.upon_value]
  go_wp2
  go_ret
  refine ⟨?_, rfl⟩
  simp

theorem size_list (s : ByteArray) : s.data.toList.length = s.size := by rw [Array.length_toList]; rfl
theorem indexB_bounds : ∀ (l : List UInt8) (c : UInt8), (Lib.indexByte l c = -1 ∧ c ∉ l) ∨ ∃ i : Nat, Lib.indexByte l c = i ∧ i < l.length ∧ l[i]? = some c ∧ c ∉ l.take i
  | [], _ => .inl ⟨rfl, by simp⟩
  | b :: l, c => by
    unfold Lib.indexByte
    by_cases h : b = c
    · subst h
      exact .inr ⟨0, by simp, by simp, by simp, by simp⟩
    · have hb : (b == c) = false := by simpa using h
      rw [hb]
      rcases indexB_bounds l c with ⟨h1, h2⟩ | ⟨i, h1, h2, h3, h4⟩
      · rw [h1]
        exact .inl ⟨rfl, by simp only [List.mem_cons, not_or]; exact ⟨fun e => h e.symm, h2⟩⟩
      · rw [h1]
        refine .inr ⟨i + 1, ?_, by simpa using h2, by simpa using h3, ?_⟩
        · have : ((i : Int) == -1) = false := by simp
          simp [this]
        · simp only [List.take_succ_cons, List.mem_cons, not_or]; exact ⟨fun e => h e.symm, h4⟩

set_option maxHeartbeats 2000000 in
set_option maxRecDepth 100000 in
theorem index1_any (s : ByteArray) (c : UInt8) (w : World) :
    Calls Tryz.prog 87 #[.string s, .string (bs [c])] w fun e w' => e = .returned (.int .i64 (Lib.indexByte s.data.toList c)) ∧ w = w' := by
  have hz : (bs [c]).size = 1 := rfl
  have hT := bs_toList
  have hg : ∀ h, (bs [c])[0]'h = c := fun _ => rfl
  by_cases h : s.toList = [c]
  · have hb : ([c] == s.toList) = true := by simp [h]
    have hx : Lib.indexByte s.data.toList c = 0 := by
      rw [← ByteArray.toList_eq, h]
      simp [Lib.indexByte]
    have HX := Lib.hid hx
    clear hx h
    go_enter Tryz.func87, Tryz.ntmps87
    go_wp2
    go_ret
    exact ⟨by rw [HX.out]; rfl, rfl⟩
  · have hb : ([c] == s.toList) = false := by
      rw [beq_eq_false_iff_ne]
      exact fun e => h e.symm
    clear h
    go_enter Tryz.func87, Tryz.ntmps87
    go_wp2_with fail
    refine (ibyte_any _ _ _).mono ?_
    rintro e w1 ⟨rfl, rfl⟩
    go_wp2
    go_ret
    exact ⟨rfl, rfl⟩
/-- A text cut at its first c. -/
def cutL (l : List UInt8) (c : UInt8) : Option (List UInt8 × List UInt8) :=
  if c ∈ l then some (l.take (Lib.indexByte l c).toNat, l.drop ((Lib.indexByte l c).toNat + 1)) else none
def cutV (s : ByteArray) : Option (List UInt8 × List UInt8) → Value
  | none => .tuple #[.string s, .string (bs []), .bool false]
  | some (a, b) => .tuple #[.string (bs a), .string (bs b), .bool true]

set_option maxHeartbeats 2000000 in
set_option maxRecDepth 100000 in
theorem cut0_any (s : ByteArray) (c : UInt8) (w : World) (hs : s.size ≤ 4611686018427387904) :
    Calls Tryz.prog 62 #[.string s, .string (bs [c])] w fun e w' => e = .returned (cutV s (cutL s.data.toList c)) ∧ ∃ n, w' = w.drewN n := by
  have hz : (bs [c]).size = 1 := rfl
  rcases indexB_bounds s.data.toList c with ⟨h1, h2⟩ | ⟨i, h1, h2, h3, h4⟩
  · have HC := Lib.hid (show cutL s.data.toList c = none by unfold cutL; rw [if_neg h2])
    have H := Lib.hid (fun W => show Calls Tryz.prog 87 #[.string s, .string (bs [c])] W (fun e w' => e = .returned (.int .i64 (-1)) ∧ W = w') by rw [← h1]; exact index1_any s c W)
    clear h1 h2
    go_enter Tryz.func62, Tryz.ntmps62
    go_wp2_with fail
    with_reducible refine (H.out _).mono ?_
    rintro e w1 ⟨rfl, rfl⟩
    go_wp2
    go_ret3
    exact ⟨by rw [HC.out]; rfl, 0, rfl⟩
  · have HC := Lib.hid (show cutL s.data.toList c = some (s.data.toList.take i, s.data.toList.drop (i + 1)) by
      unfold cutL
      rw [if_pos (List.mem_of_getElem? h3), h1]
      rfl)
    have H := Lib.hid (fun W => show Calls Tryz.prog 87 #[.string s, .string (bs [c])] W (fun e w' => e = .returned (.int .i64 i) ∧ W = w') by rw [← h1]; exact index1_any s c W)
    rw [size_list] at h2
    have e1 := Lib.hid (extract_bs0 s i)
    have e2 := Lib.hid (extract_bs s (i + 1))
    have h2' : (i : Int) ≤ s.size := by omega
    have h2'' : (i : Int) + 1 ≤ s.size := by omega
    clear h1 h3 h4
    go_enter Tryz.func62, Tryz.ntmps62
    go_wp2_with fail
    with_reducible refine (H.out _).mono ?_
    rintro e w1 ⟨rfl, rfl⟩
    go_wp2_with fail
    go_region
    go_wp2
    go_ret3
    refine ⟨?_, 1, rfl⟩
    show Ending.returned (.tuple #[.string (s.extract 0 i), .string (s.extract (i + 1) s.size), .bool true]) = _
    rw [HC.out, e1.out, e2.out]
    rfl
set_option maxHeartbeats 1000000 in
set_option maxRecDepth 100000 in
theorem cut1_any (s : ByteArray) (c : UInt8) (w : World) (hs : s.size ≤ 4611686018427387904) :
    Calls Tryz.prog 37 #[.string s, .string (bs [c])] w fun e w' => e = .returned (cutV s (cutL s.data.toList c)) ∧ ∃ n, w' = w.drewN n := by
  have H := Lib.hid (fun W => cut0_any s c W hs)
  obtain ⟨r, hr⟩ : ∃ r, r = cutL s.data.toList c := ⟨_, rfl⟩
  rw [← hr] at H ⊢
  clear hr
  cases r with
  | none =>
    unfold cutV at H ⊢
    go_enter Tryz.func37, Tryz.ntmps37
    go_wp2_with fail
    with_reducible refine (H.out _).mono ?_
    rintro e w1 ⟨rfl, n, rfl⟩
    go_wp2
    go_ret3
    exact ⟨rfl, n, rfl⟩
  | some p =>
    obtain ⟨a, b⟩ := p
    unfold cutV at H ⊢
    go_enter Tryz.func37, Tryz.ntmps37
    go_wp2_with fail
    with_reducible refine (H.out _).mono ?_
    rintro e w1 ⟨rfl, n, rfl⟩
    go_wp2
    go_ret3
    exact ⟨rfl, n, rfl⟩

theorem index_app (l r : List UInt8) (c : UInt8) (h : c ∉ l) : Lib.indexByte (l ++ c :: r) c = l.length := by
  induction l with
  | nil => simp [Lib.indexByte]
  | cons x l ih =>
    have hx : x ≠ c := fun e => h (by simp [e])
    have hl : c ∉ l := fun e => h (by simp [e])
    rw [List.cons_append, Lib.indexByte, ih hl]
    have h1 : (x == c) = false := by simpa using hx
    have h2 : ((l.length : Int) == -1) = false := by
      rw [beq_eq_false_iff_ne]; omega
    simp [h1, h2]
theorem cut_app (l r : List UInt8) (c : UInt8) (h : c ∉ l) : cutL (l ++ c :: r) c = some (l, r) := by
  unfold cutL
  rw [if_pos (by simp), index_app l r c h, Int.toNat_natCast, List.take_left' rfl]
  rw [show l ++ c :: r = (l ++ [c]) ++ r by simp, List.drop_left' (by simp)]
end Go.Proofs.YtefhnjepocbodaaGreatDoor
