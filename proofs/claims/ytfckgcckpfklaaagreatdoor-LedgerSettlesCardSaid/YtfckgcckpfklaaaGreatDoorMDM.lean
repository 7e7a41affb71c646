/- Maps with texts as keys, as lists of entries: what a look-up, a store, a deletion do. Layer 25: names that were seen, counted in a map. -/
import Derived.Test.YtfckgcckpfklaaaGreatDoorMA1
import Derived.MapKept
import Derived.Maps.RangeRun
import Derived.Maps.Own
import Derived.Test.YtfckgcckpfklaaaGreatDoorMWN
namespace Go.Proofs.YtfckgcckpfklaaaGreatDoor
open Go.RowKit

/-- An entry of a map whose keys are texts. -/
structure En where
  name : ByteArray
  val : Value
  born : Nat
def En.ent (e : En) : MapEntry := { key := .string e.name, val := e.val, born := e.born }
def MapIs (m : Nat) (es : List En) (clock : Nat) (w : World) : Prop := w.heap[m]? = some (.map (es.map En.ent).toArray clock)
/-- The entry of a name; a value stored; an entry gone. -/
def lookE (k : ByteArray) : List En → Option En
  | [] => none
  | e :: es => if k = e.name then some e else lookE k es
def setE (k : ByteArray) (v : Value) (b : Nat) : List En → List En
  | [] => [⟨k, v, b⟩]
  | e :: es => if k = e.name then { e with val := v } :: es else e :: setE k v b es
def delE (k : ByteArray) : List En → List En
  | [] => []
  | e :: es => if k = e.name then es else e :: delE k es

theorem sameNow_string (k : ByteArray) (e : En) : Instr.sameNow .string (.string k) e.ent.key = some (decide (k = e.name)) := by
  show some (k == e.name) = _
  congr 1
  by_cases h : k = e.name
  · rw [(MapKept.bytes_beq _ _).2 h, decide_eq_true h]
  · rw [decide_eq_false h, Bool.eq_false_iff]
    exact fun hb => h ((MapKept.bytes_beq _ _).1 hb)

theorem find_all (k : ByteArray) : ∀ (es : List En) (i : Nat),
    (Instr.findNow .string (.string k) (es.map En.ent) i = some none ∧ lookE k es = none ∧ (∀ v b, setE k v b es = es ++ [⟨k, v, b⟩]) ∧ delE k es = es) ∨
    ∃ j e, Instr.findNow .string (.string k) (es.map En.ent) i = some (some (i + j, e.val)) ∧ es[j]? = some e ∧ e.name = k ∧ lookE k es = some e ∧ (∀ v b, setE k v b es = es.modify j fun e => { e with val := v }) ∧ delE k es = es.eraseIdx j
  | [], i => .inl ⟨rfl, rfl, fun _ _ => rfl, rfl⟩
  | e :: es, i => by
    by_cases h : k = e.name
    · refine .inr ⟨0, e, ?_, rfl, h.symm, ?_, fun v b => ?_, ?_⟩
      · rw [List.map_cons]; unfold Instr.findNow; rw [sameNow_string, decide_eq_true h]; rfl
      · simp [lookE, h]
      · simp [setE, h]
      · simp [delE, h]
    · have hf : Instr.findNow .string (.string k) ((e :: es).map En.ent) i = Instr.findNow .string (.string k) (es.map En.ent) (i + 1) := by
        rw [List.map_cons]
        conv => lhs; unfold Instr.findNow
        rw [sameNow_string, decide_eq_false h]
      rcases find_all k es (i + 1) with ⟨h1, h2, h3, h4⟩ | ⟨j, e', h1, h2, h3, h4, h5, h6⟩
      · exact .inl ⟨hf.trans h1, by simp [lookE, h, h2], fun v b => by simp [setE, h, h3], by simp [delE, h, h4]⟩
      · refine .inr ⟨j + 1, e', by rw [hf, h1]; congr 3; omega, by simpa using h2, h3, by simp [lookE, h, h4], fun v b => by simp [setE, h, h5], by simp [delE, h, h6]⟩

theorem map_erase (f : En → MapEntry) : ∀ (l : List En) (j : Nat), (l.eraseIdx j).map f = (l.map f).eraseIdx j
  | [], j => by simp
  | e :: l, 0 => rfl
  | e :: l, j + 1 => by simp [map_erase f l j]

section
variable {P : Program} {w : World} {T K E : TypeId} {m clock : Nat} {es : List En}

theorem run_look (ht : P.underlying T = some (.map K E)) (hk : P.underlying K = some .string) (z : Value) (hz : ∀ w, (zeroValue E).run P w = .ok z w) (h : MapIs m es clock w) (k : ByteArray) (ok : Bool) :
    (Instr.lookup T (.map (some m)) (.string k) ok).run P w = .ok (if ok then .tuple #[((lookE k es).map (·.val)).getD z, .bool (lookE k es).isSome] else ((lookE k es).map (·.val)).getD z) w := by
  have hkey : MapKept.IsKey .string (.string k) := trivial
  have hck := fun b : Bool => MapKept.run_checkKey (P := P) (w := w) hk hkey b 9999
  rcases find_all k es 0 with ⟨h1, h2, _, _⟩ | ⟨j, e, h1, _, _, h4, _, _⟩
  · have hfk := MapKept.run_findKey (P := P) (w := w) hk h1
    cases ok <;> simp [Instr.lookup, run_underlying ht, MapKept.run_getObj_map h, hck, Result.andThen, hfk, hz, h2]
  · have hfk := MapKept.run_findKey (P := P) (w := w) hk h1
    cases ok <;> simp [Instr.lookup, run_underlying ht, MapKept.run_getObj_map h, hck, Result.andThen, hfk, h4]

/-- The map's block is another one now. -/
def World.putMap (w : World) (m : Nat) (es : List En) (clock : Nat) : World := { w with heap := w.heap.setIfInBounds m (.map (es.map En.ent).toArray clock) }
theorem mapIs_put (h : m < w.heap.size) (es' : List En) (clock' : Nat) : MapIs m es' clock' (World.putMap w m es' clock') := by
  unfold MapIs World.putMap
  simp [h]
theorem turn_put {S : Nat → Prop} (hS : S m) (es' : List En) (clock' : Nat) : Turn S w (World.putMap w m es' clock') :=
  ⟨rfl, rfl, rfl, by simp [World.putMap], fun i _ hr => by
    have hne : m ≠ i := fun e => hr (e ▸ hS)
    simp only [World.putMap]; rw [Array.getElem?_setIfInBounds_ne hne]⟩

theorem run_store (ht : P.underlying T = some (.map K E)) (hk : P.underlying K = some .string) (h : MapIs m es clock w) (k : ByteArray) (v : Value) :
    (Instr.mapUpdate T (.map (some m)) (.string k) v).run P w = .ok () (World.putMap w m (setE k v clock es) (if (lookE k es).isSome then clock else clock + 1)) := by
  have hkey : MapKept.IsKey .string (.string k) := trivial
  have hck := fun b : Bool => MapKept.run_checkKey (P := P) (w := w) hk hkey b 9999
  have hset := fun o => MapKept.run_setObj_map (P := P) o h
  rcases find_all k es 0 with ⟨h1, h2, h3, _⟩ | ⟨j, e, h1, hj, hn, h4, h5, _⟩
  · have hfk := MapKept.run_findKey (P := P) (w := w) hk h1
    simp [Instr.mapUpdate, run_underlying ht, MapKept.run_getObj_map h, hck, Result.andThen, hfk, hset, h2, h3, World.putMap, En.ent]
  · have hfk := MapKept.run_findKey (P := P) (w := w) hk h1
    have hjl : ((es.map En.ent).toArray)[0 + j]? = some e.ent := by simp [hj]
    have hks : (Instr.keyThatStays (((((es.map En.ent).toArray)[0 + j]?).map (·.key)).getD (.string k)) (.string k)).run P w = .ok (.string k) w := by
      rw [hjl]
      have hs : Instr.sameBits 10000 (.string k) (.string k) = true := by
        show (k == k) = true
        exact (MapKept.bytes_beq _ _).2 rfl
      simp [En.ent, hn, Instr.keyThatStays, hs]
    have hmod : (es.map En.ent).toArray.modify (0 + j) (fun e => { e with key := .string k, val := v }) = ((setE k v clock es).map En.ent).toArray := by
      rw [h5]
      apply Array.ext'
      simp only [Array.toList_modify, Nat.zero_add]
      apply List.ext_getElem?
      intro i
      rw [List.getElem?_modify, List.getElem?_map, List.getElem?_map, List.getElem?_modify]
      by_cases hij : j = i
      · subst hij
        rw [hj]
        simp [En.ent, hn]
      · cases es[i]? <;> simp [hij]
    simp only [Instr.mapUpdate, Sem.run_bind, run_underlying ht, MapKept.run_getObj_map h, hck, Result.andThen, hfk, hks, hset, hmod]
    simp [h4, World.putMap]

theorem run_drop (ht : P.underlying T = some (.map K E)) (hk : P.underlying K = some .string) (h : MapIs m es clock w) (k : ByteArray) (ty : TypeId) :
    (Builtin.delete_ #[T, K] ty #[.map (some m), .string k]).run P w = .ok (.tuple #[]) (World.putMap w m (delE k es) clock) := by
  have hkey : MapKept.IsKey .string (.string k) := trivial
  have hck := fun b : Bool => MapKept.run_checkKey (P := P) (w := w) hk hkey b 9999
  have hset := fun o => MapKept.run_setObj_map (P := P) o h
  rcases find_all k es 0 with ⟨h1, _, _, h4⟩ | ⟨j, e, h1, hj, _, _, _, h6⟩
  · have hfk := MapKept.run_findKey (P := P) (w := w) hk h1
    simp [Builtin.delete_, run_underlying ht, MapKept.run_getObj_map h, hck, Result.andThen, hfk, hset, h4, World.putMap]
  · have hfk := MapKept.run_findKey (P := P) (w := w) hk h1
    simp [Builtin.delete_, run_underlying ht, MapKept.run_getObj_map h, hck, Result.andThen, hfk, hset]
    unfold World.putMap
    rw [h6, map_erase]
end
#print axioms run_look
#print axioms run_store
#print axioms run_drop
end Go.Proofs.YtfckgcckpfklaaaGreatDoor

namespace Go.Proofs.YtfckgcckpfklaaaGreatDoor
open Go.RowKit Go.Lib
set_option linter.unusedVariables false

theorem mapIs_lt {m clock : Nat} {es : List En} {w : World} (h : MapIs m es clock w) : m < w.heap.size := (Array.getElem?_eq_some_iff.1 h).1
theorem MapIs.turn {S : Nat → Prop} {m c : Nat} {es : List En} {w w' : World} (h : MapIs m es c w) (t : Turn S w w') (hS : ¬ S m) : MapIs m es c w' := (t.block m (mapIs_lt h) hS).trans h

section
variable {α κ : Type} [DecidableEq κ] (key : α → κ)
def lookK (k : κ) : List α → Option α
  | [] => none
  | a :: l => if k = key a then some a else lookK k l
def putK (k : κ) (f : α → α) (b : α) : List α → List α
  | [] => [b]
  | a :: l => if k = key a then f a :: l else a :: putK k f b l

theorem lookK_mem {k : κ} {a : α} : ∀ {l : List α}, lookK key k l = some a → a ∈ l ∧ key a = k
  | [], h => by cases h
  | c :: l, h => by
    unfold lookK at h
    split at h
    · rename_i e; cases h; exact ⟨by simp, e.symm⟩
    · have := lookK_mem h; exact ⟨by simp [this.1], this.2⟩
theorem lookK_none {k : κ} : ∀ {l : List α}, lookK key k l = none ↔ ∀ a ∈ l, key a ≠ k
  | [] => by simp [lookK]
  | c :: l => by
    unfold lookK
    split
    · rename_i e; simp [e]
    · rename_i e
      rw [lookK_none]
      simp only [List.mem_cons, forall_eq_or_imp]
      exact ⟨fun h => ⟨fun e' => e e'.symm, h⟩, fun h => h.2⟩
theorem lookK_of_mem {a : α} : ∀ {l : List α}, (l.map key).Nodup → a ∈ l → lookK key (key a) l = some a
  | c :: l, hn, ha => by
    rw [List.map_cons, List.nodup_cons] at hn
    unfold lookK
    rcases List.mem_cons.1 ha with rfl | h
    · rw [if_pos rfl]
    · rw [if_neg (fun e => hn.1 (by rw [← e]; exact List.mem_map_of_mem h))]
      exact lookK_of_mem hn.2 h
theorem putK_mem {k : κ} {f : α → α} {b a : α} : ∀ {l : List α}, (l.map key).Nodup → a ∈ putK key k f b l → (a ∈ l ∧ key a ≠ k) ∨ (∃ c, lookK key k l = some c ∧ a = f c) ∨ (lookK key k l = none ∧ a = b)
  | [], _, h => by simp [putK] at h; exact .inr (.inr ⟨rfl, h⟩)
  | c :: l, hn, h => by
    rw [List.map_cons, List.nodup_cons] at hn
    unfold putK at h
    unfold lookK
    by_cases e : k = key c
    · rw [if_pos e] at h ⊢
      rcases List.mem_cons.1 h with rfl | h
      · exact .inr (.inl ⟨c, rfl, rfl⟩)
      · exact .inl ⟨by simp [h], fun e' => hn.1 (by rw [← e, ← e']; exact List.mem_map_of_mem h)⟩
    · rw [if_neg e] at h ⊢
      rcases List.mem_cons.1 h with rfl | h
      · exact .inl ⟨by simp, fun e' => e e'.symm⟩
      · rcases putK_mem hn.2 h with h | h
        · exact .inl ⟨by simp [h.1], h.2⟩
        · exact .inr h
theorem putK_keys {k : κ} {f : α → α} {b : α} (hf : ∀ a, key (f a) = key a) (hb : key b = k) : ∀ (l : List α), (putK key k f b l).map key = if (lookK key k l).isSome then l.map key else l.map key ++ [k]
  | [] => by simp [putK, lookK, hb]
  | c :: l => by
    unfold putK lookK
    by_cases e : k = key c
    · rw [if_pos e, if_pos e]; simp [hf]
    · rw [if_neg e, if_neg e, List.map_cons, putK_keys hf hb l]
      split <;> simp
theorem putK_nodup {k : κ} {f : α → α} {b : α} (hf : ∀ a, key (f a) = key a) (hb : key b = k) {l : List α} (hn : (l.map key).Nodup) : ((putK key k f b l).map key).Nodup := by
  rw [putK_keys key hf hb]
  split
  · exact hn
  · rename_i h
    have h : lookK key k l = none := by simpa using h
    rw [List.nodup_append]
    refine ⟨hn, by simp, fun x hx y hy e => ?_⟩
    rw [List.mem_singleton] at hy
    obtain ⟨a, ha, rfl⟩ := List.mem_map.1 hx
    exact (lookK_none key).1 h a ha (e.trans hy)
theorem lookK_put {k k' : κ} {f : α → α} {b : α} (hf : ∀ a, key (f a) = key a) (hb : key b = k) : ∀ (l : List α), lookK key k' (putK key k f b l) = if k' = k then some (((lookK key k l).map f).getD b) else lookK key k' l
  | [] => by simp [putK, lookK, hb]
  | c :: l => by
    unfold putK
    by_cases e : k = key c
    · rw [if_pos e]
      by_cases e' : k' = k
      · subst e'; simp [lookK, hf, ← e]
      · rw [if_neg e']; simp [lookK, hf, ← e, e']
    · rw [if_neg e]
      by_cases e' : k' = k
      · subst e'
        rw [if_pos rfl]
        conv => lhs; unfold lookK
        rw [if_neg e, lookK_put hf hb l, if_pos rfl]
        conv => rhs; unfold lookK
        rw [if_neg e]
      · rw [if_neg e']
        unfold lookK
        by_cases e2 : k' = key c
        · rw [if_pos e2, if_pos e2]
        · rw [if_neg e2, if_neg e2, lookK_put hf hb l, if_neg e']
end

theorem bs_eq {a b : List UInt8} : bs a = bs b ↔ a = b := ⟨fun h => by have := congrArg (fun s : ByteArray => s.data.toList) h; simpa [bs] using this, fun h => by rw [h]⟩
section
variable {α : Type} (key : α → List UInt8) (en : α → En)
theorem lookE_map (he : ∀ a, (en a).name = bs (key a)) (k : List UInt8) : ∀ l : List α, lookE (bs k) (l.map en) = (lookK key k l).map en
  | [] => rfl
  | a :: l => by
    rw [List.map_cons]
    unfold lookE lookK
    rw [he]
    by_cases e : k = key a
    · rw [if_pos (by rw [e]), if_pos e]; rfl
    · rw [if_neg (fun h => e (bs_eq.1 h)), if_neg e, lookE_map he k l]
theorem setE_map (he : ∀ a, (en a).name = bs (key a)) (k : List UInt8) (v : Value) (b : Nat) (f : α → α) (new : α) (hnew : en new = ⟨bs k, v, b⟩) :
    ∀ l : List α, (∀ a ∈ l, key a = k → en (f a) = { en a with val := v }) → setE (bs k) v b (l.map en) = (putK key k f new l).map en
  | [], _ => by simp [setE, putK, hnew]
  | a :: l, hf => by
    rw [List.map_cons]
    unfold setE putK
    by_cases e : k = key a
    · rw [if_pos (by rw [he, e]), if_pos e, List.map_cons, hf a (by simp) e.symm]
    · rw [if_neg (fun h => e (bs_eq.1 (h.trans (he a)))), if_neg e, List.map_cons, setE_map he k v b f new hnew l (fun a ha => hf a (by simp [ha]))]
end

structure CEn where
  x : List UInt8
  c : Nat
  born : Nat
def CEn.en (e : CEn) : En := ⟨bs e.x, .int .i64 e.c, e.born⟩
theorem zv_int (w : World) : (zeroValue 3).run Tryz.prog w = .ok (.int .i64 0) w := by kernel_rfl
/-- A map that counts these names, each at most so often. -/
def SeenM (m : Nat) (N : List (List UInt8)) (j : Nat) (w : World) : Prop :=
  ∃ es ck, MapIs m (es.map CEn.en) ck w ∧ ∀ x, match lookK CEn.x x es with | none => x ∉ N | some e => x ∈ N ∧ 1 ≤ e.c ∧ e.c ≤ j
theorem SeenM.new {m : Nat} {w : World} (h : MapIs m [] 0 w) : SeenM m [] 0 w := ⟨[], 0, h, fun x => by simp [lookK]⟩
theorem SeenM.turn {S : Nat → Prop} {m j : Nat} {N : List (List UInt8)} {w w' : World} (h : SeenM m N j w) (t : Turn S w w') (hS : ¬ S m) : SeenM m N j w' := by
  obtain ⟨es, ck, h1, h2⟩ := h
  exact ⟨es, ck, h1.turn t hS, h2⟩
theorem SeenM.lt {m j : Nat} {N : List (List UInt8)} {w : World} (h : SeenM m N j w) : m < w.heap.size := by obtain ⟨es, ck, h1, h2⟩ := h; exact mapIs_lt h1
theorem SeenM.step {m j : Nat} {N : List (List UInt8)} {w : World} (h : SeenM m N j w) (x : List UInt8) :
    ∃ (c : Nat) (W : World), c ≤ j ∧ (c = 0 ↔ x ∉ N) ∧ (Instr.lookup 117 (.map (some m)) (.string (bs x)) false).run Tryz.prog w = .ok (.int .i64 c) w ∧
      (Instr.mapUpdate 117 (.map (some m)) (.string (bs x)) (.int .i64 ((c : Int) + 1))).run Tryz.prog w = .ok () W ∧ Turn (fun k => k = m) w W ∧
      (Instr.lookup 117 (.map (some m)) (.string (bs x)) false).run Tryz.prog W = .ok (.int .i64 ((c : Int) + 1)) W ∧ SeenM m (if x ∈ N then N else N ++ [x]) (j + 1) W := by
  obtain ⟨es, ck, h1, h2⟩ := h
  have l1 := run_look (P := Tryz.prog) Tryz.underlying117 Tryz.underlying9 (.int .i64 0) zv_int h1 (bs x) false
  rw [lookE_map CEn.x CEn.en (fun _ => rfl)] at l1
  obtain ⟨c, hc⟩ : ∃ c : Nat, c = ((lookK CEn.x x es).map CEn.c).getD 0 := ⟨_, rfl⟩
  have hv : ((((lookK CEn.x x es).map CEn.en).map (·.val)).getD (.int .i64 0)) = .int .i64 c := by
    rw [hc]; cases lookK CEn.x x es <;> rfl
  have hx := h2 x
  have hc1 : c ≤ j ∧ (c = 0 ↔ x ∉ N) := by
    rw [hc]
    cases e : lookK CEn.x x es with
    | none => rw [e] at hx; exact ⟨Nat.zero_le _, by simp only [Option.map_none, Option.getD_none, true_iff]; exact hx⟩
    | some y =>
      rw [e] at hx
      simp only [Option.map_some, Option.getD_some]
      refine ⟨hx.2.2, fun h => ?_, fun h => absurd hx.1 h⟩
      have h6 := hx.2.1
      rw [h] at h6
      exact absurd h6 (by decide)
  have st := run_store (P := Tryz.prog) Tryz.underlying117 Tryz.underlying9 h1 (bs x) (.int .i64 ((c : Int) + 1))
  rw [lookE_map CEn.x CEn.en (fun _ => rfl), setE_map CEn.x CEn.en (fun _ => rfl) x (.int .i64 ((c : Int) + 1)) ck (fun e => { e with c := c + 1 }) ⟨x, c + 1, ck⟩ (by simp [CEn.en]) es (fun a ha e => by simp [CEn.en])] at st
  obtain ⟨es', hes⟩ : ∃ es', es' = putK CEn.x x (fun e => { e with c := c + 1 }) ⟨x, c + 1, ck⟩ es := ⟨_, rfl⟩
  have hlk : ∀ y, lookK CEn.x y es' = if y = x then some (((lookK CEn.x x es).map (fun e => { e with c := c + 1 })).getD ⟨x, c + 1, ck⟩) else lookK CEn.x y es := fun y => by
    rw [hes]; exact lookK_put CEn.x (k := x) (k' := y) (f := fun e => { e with c := c + 1 }) (b := ⟨x, c + 1, ck⟩) (fun _ => rfl) rfl es
  rw [← hes] at st
  obtain ⟨ck', hck⟩ : ∃ ck', ck' = (if ((lookK CEn.x x es).map CEn.en).isSome then ck else ck + 1) := ⟨_, rfl⟩
  rw [← hck] at st
  have m2 : MapIs m (es'.map CEn.en) ck' (World.putMap w m (es'.map CEn.en) ck') := mapIs_put (w := w) (mapIs_lt h1) _ _
  have l2 := run_look (P := Tryz.prog) Tryz.underlying117 Tryz.underlying9 (.int .i64 0) zv_int m2 (bs x) false
  rw [lookE_map CEn.x CEn.en (fun _ => rfl), hlk, if_pos rfl] at l2
  refine ⟨c, World.putMap w m (es'.map CEn.en) ck', hc1.1, hc1.2, ?_, st, turn_put (S := fun k => k = m) rfl _ _, ?_, es', ck', m2, fun y => ?_⟩
  · rw [l1]; simp only [Bool.false_eq_true, if_false]; rw [hv]
  · rw [l2]; simp only [Bool.false_eq_true, if_false]; cases lookK CEn.x x es <;> rfl
  · rw [hlk]
    by_cases e : y = x
    · subst e
      rw [if_pos rfl]
      have e2 : ∃ e, (((lookK CEn.x y es).map (fun e : CEn => { e with c := c + 1 })).getD ⟨y, c + 1, ck⟩) = e ∧ e.c = c + 1 := ⟨_, rfl, by cases lookK CEn.x y es <;> rfl⟩
      obtain ⟨e, e3, e4⟩ := e2
      rw [e3]
      show y ∈ _ ∧ 1 ≤ e.c ∧ e.c ≤ j + 1
      rw [e4]
      refine ⟨?_, by omega, by omega⟩
      split
      · assumption
      · simp
    · rw [if_neg e]
      have hy := h2 y
      cases e3 : lookK CEn.x y es with
      | none =>
        rw [e3] at hy
        show y ∉ _
        split
        · exact hy
        · simp only [List.mem_append, List.mem_singleton]; exact fun h => h.elim hy e
      | some z =>
        rw [e3] at hy
        show y ∈ _ ∧ 1 ≤ z.c ∧ z.c ≤ j + 1
        refine ⟨?_, hy.2.1, by have := hy.2.2; omega⟩
        split
        · exact hy.1
        · simp [hy.1]
end Go.Proofs.YtfckgcckpfklaaaGreatDoor
