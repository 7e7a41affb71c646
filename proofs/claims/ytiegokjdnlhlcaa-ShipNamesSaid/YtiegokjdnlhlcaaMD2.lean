/- Maps with texts as keys, as lists of entries: what a look-up, a store, a deletion do. Layer 4's disks: what they hold; small calls; a file put. -/
import Derived.Test.YtiegokjdnlhlcaaMD1
import Derived.MapKept
import Derived.Maps.RangeRun
import Derived.Maps.Own
namespace Go.Proofs.Ytiegokjdnlhlcaa
open Go.Conc Go.RowKit

/-- An entry of a map whose keys are texts. -/
structure En where
  name : ByteArray
  val : Value
  born : Nat
def En.ent (e : En) : MapEntry := { key := .string e.name, val := e.val, born := e.born }
def MapIs (m : Nat) (es : List En) (clock : Nat) (w : World) : Prop := w.heap[m]? = some (.map (es.map En.ent).toArray clock)
/-- The entry of a name; a value stored; an entry gone. -/
def lookE (k : ByteArray) : List En → Option En
  | [] => none
  | e :: es => if k = e.name then some e else lookE k es
def setE (k : ByteArray) (v : Value) (b : Nat) : List En → List En
  | [] => [⟨k, v, b⟩]
  | e :: es => if k = e.name then { e with val := v } :: es else e :: setE k v b es
def delE (k : ByteArray) : List En → List En
  | [] => []
  | e :: es => if k = e.name then es else e :: delE k es

theorem sameNow_string (k : ByteArray) (e : En) : Instr.sameNow .string (.string k) e.ent.key = some (decide (k = e.name)) := by
  show some (k == e.name) = _
  congr 1
  by_cases h : k = e.name
  · rw [(MapKept.bytes_beq _ _).2 h, decide_eq_true h]
  · rw [decide_eq_false h, Bool.eq_false_iff]
    exact fun hb => h ((MapKept.bytes_beq _ _).1 hb)

theorem find_all (k : ByteArray) : ∀ (es : List En) (i : Nat),
    (Instr.findNow .string (.string k) (es.map En.ent) i = some none ∧ lookE k es = none ∧ (∀ v b, setE k v b es = es ++ [⟨k, v, b⟩]) ∧ delE k es = es) ∨
    ∃ j e, Instr.findNow .string (.string k) (es.map En.ent) i = some (some (i + j, e.val)) ∧ es[j]? = some e ∧ e.name = k ∧ lookE k es = some e ∧ (∀ v b, setE k v b es = es.modify j fun e => { e with val := v }) ∧ delE k es = es.eraseIdx j
  | [], i => .inl ⟨rfl, rfl, fun _ _ => rfl, rfl⟩
  | e :: es, i => by
    by_cases h : k = e.name
    · refine .inr ⟨0, e, ?_, rfl, h.symm, ?_, fun v b => ?_, ?_⟩
      · rw [List.map_cons]; unfold Instr.findNow; rw [sameNow_string, decide_eq_true h]; rfl
      · simp [lookE, h]
      · simp [setE, h]
      · simp [delE, h]
    · have hf : Instr.findNow .string (.string k) ((e :: es).map En.ent) i = Instr.findNow .string (.string k) (es.map En.ent) (i + 1) := by
        rw [List.map_cons]
        conv => lhs; unfold Instr.findNow
        rw [sameNow_string, decide_eq_false h]
      rcases find_all k es (i + 1) with ⟨h1, h2, h3, h4⟩ | ⟨j, e', h1, h2, h3, h4, h5, h6⟩
      · exact .inl ⟨hf.trans h1, by simp [lookE, h, h2], fun v b => by simp [setE, h, h3], by simp [delE, h, h4]⟩
      · refine .inr ⟨j + 1, e', by rw [hf, h1]; congr 3; omega, by simpa using h2, h3, by simp [lookE, h, h4], fun v b => by simp [setE, h, h5], by simp [delE, h, h6]⟩

theorem map_erase (f : En → MapEntry) : ∀ (l : List En) (j : Nat), (l.eraseIdx j).map f = (l.map f).eraseIdx j
  | [], j => by simp
  | e :: l, 0 => rfl
  | e :: l, j + 1 => by simp [map_erase f l j]

section
variable {P : Program} {w : World} {T K E : TypeId} {m clock : Nat} {es : List En}

theorem run_look (ht : P.underlying T = some (.map K E)) (hk : P.underlying K = some .string) (z : Value) (hz : ∀ w, (zeroValue E).run P w = .ok z w) (h : MapIs m es clock w) (k : ByteArray) (ok : Bool) :
    (Instr.lookup T (.map (some m)) (.string k) ok).run P w = .ok (if ok then .tuple #[((lookE k es).map (·.val)).getD z, .bool (lookE k es).isSome] else ((lookE k es).map (·.val)).getD z) w := by
  have hkey : MapKept.IsKey .string (.string k) := trivial
  have hck := fun b : Bool => MapKept.run_checkKey (P := P) (w := w) hk hkey b 9999
  rcases find_all k es 0 with ⟨h1, h2, _, _⟩ | ⟨j, e, h1, _, _, h4, _, _⟩
  · have hfk := MapKept.run_findKey (P := P) (w := w) hk h1
    cases ok <;> simp [Instr.lookup, run_underlying ht, MapKept.run_getObj_map h, hck, Result.andThen, hfk, hz, h2]
  · have hfk := MapKept.run_findKey (P := P) (w := w) hk h1
    cases ok <;> simp [Instr.lookup, run_underlying ht, MapKept.run_getObj_map h, hck, Result.andThen, hfk, h4]

/-- The map's block is another one now. -/
def World.putMap (w : World) (m : Nat) (es : List En) (clock : Nat) : World := { w with heap := w.heap.setIfInBounds m (.map (es.map En.ent).toArray clock) }
theorem mapIs_put (h : m < w.heap.size) (es' : List En) (clock' : Nat) : MapIs m es' clock' (World.putMap w m es' clock') := by
  unfold MapIs World.putMap
  simp [h]
theorem turn_put {S : Nat → Prop} (hS : S m) (es' : List En) (clock' : Nat) : Turn S w (World.putMap w m es' clock') :=
  ⟨rfl, rfl, rfl, by simp [World.putMap], fun i _ hr => by
    have hne : m ≠ i := fun e => hr (e ▸ hS)
    simp only [World.putMap]; rw [Array.getElem?_setIfInBounds_ne hne]⟩

theorem run_store (ht : P.underlying T = some (.map K E)) (hk : P.underlying K = some .string) (h : MapIs m es clock w) (k : ByteArray) (v : Value) :
    (Instr.mapUpdate T (.map (some m)) (.string k) v).run P w = .ok () (World.putMap w m (setE k v clock es) (if (lookE k es).isSome then clock else clock + 1)) := by
  have hkey : MapKept.IsKey .string (.string k) := trivial
  have hck := fun b : Bool => MapKept.run_checkKey (P := P) (w := w) hk hkey b 9999
  have hset := fun o => MapKept.run_setObj_map (P := P) o h
  rcases find_all k es 0 with ⟨h1, h2, h3, _⟩ | ⟨j, e, h1, hj, hn, h4, h5, _⟩
  · have hfk := MapKept.run_findKey (P := P) (w := w) hk h1
    simp [Instr.mapUpdate, run_underlying ht, MapKept.run_getObj_map h, hck, Result.andThen, hfk, hset, h2, h3, World.putMap, En.ent]
  · have hfk := MapKept.run_findKey (P := P) (w := w) hk h1
    have hjl : ((es.map En.ent).toArray)[0 + j]? = some e.ent := by simp [hj]
    have hks : (Instr.keyThatStays (((((es.map En.ent).toArray)[0 + j]?).map (·.key)).getD (.string k)) (.string k)).run P w = .ok (.string k) w := by
      rw [hjl]
      have hs : Instr.sameBits 10000 (.string k) (.string k) = true := by
        show (k == k) = true
        exact (MapKept.bytes_beq _ _).2 rfl
      simp [En.ent, hn, Instr.keyThatStays, hs]
    have hmod : (es.map En.ent).toArray.modify (0 + j) (fun e => { e with key := .string k, val := v }) = ((setE k v clock es).map En.ent).toArray := by
      rw [h5]
      apply Array.ext'
      simp only [Array.toList_modify, Nat.zero_add]
      apply List.ext_getElem?
      intro i
      rw [List.getElem?_modify, List.getElem?_map, List.getElem?_map, List.getElem?_modify]
      by_cases hij : j = i
      · subst hij
        rw [hj]
        simp [En.ent, hn]
      · cases es[i]? <;> simp [hij]
    simp only [Instr.mapUpdate, Sem.run_bind, run_underlying ht, MapKept.run_getObj_map h, hck, Result.andThen, hfk, hks, hset, hmod]
    simp [h4, World.putMap]

theorem run_drop (ht : P.underlying T = some (.map K E)) (hk : P.underlying K = some .string) (h : MapIs m es clock w) (k : ByteArray) (ty : TypeId) :
    (Builtin.delete_ #[T, K] ty #[.map (some m), .string k]).run P w = .ok (.tuple #[]) (World.putMap w m (delE k es) clock) := by
  have hkey : MapKept.IsKey .string (.string k) := trivial
  have hck := fun b : Bool => MapKept.run_checkKey (P := P) (w := w) hk hkey b 9999
  have hset := fun o => MapKept.run_setObj_map (P := P) o h
  rcases find_all k es 0 with ⟨h1, _, _, h4⟩ | ⟨j, e, h1, hj, _, _, _, h6⟩
  · have hfk := MapKept.run_findKey (P := P) (w := w) hk h1
    simp [Builtin.delete_, run_underlying ht, MapKept.run_getObj_map h, hck, Result.andThen, hfk, hset, h4, World.putMap]
  · have hfk := MapKept.run_findKey (P := P) (w := w) hk h1
    simp [Builtin.delete_, run_underlying ht, MapKept.run_getObj_map h, hck, Result.andThen, hfk, hset]
    unfold World.putMap
    rw [h6, map_erase]
end
#print axioms run_look
#print axioms run_store
#print axioms run_drop
end Go.Proofs.Ytiegokjdnlhlcaa

namespace Go.Proofs.Ytiegokjdnlhlcaa
open Go.Conc Go.RowKit

/-- A file: its name, its bytes (the slice v), how many are there for sure. -/
structure Fl where
  name : ByteArray
  v : Value
  data : List UInt8
  sure : Nat
  born : Nat
def fval (v : Value) (n : Nat) : Value := .agg #[v, .int .i64 n]
def Fl.en (x : Fl) : En := ⟨x.name, fval x.v x.sure, x.born⟩
def lookF (k : ByteArray) : List Fl → Option Fl
  | [] => none
  | e :: es => if k = e.name then some e else lookF k es
def setF (k : ByteArray) (v : Value) (data : List UInt8) (sure b : Nat) : List Fl → List Fl
  | [] => [⟨k, v, data, sure, b⟩]
  | e :: es => if k = e.name then { e with v := v, data := data, sure := sure } :: es else e :: setF k v data sure b es
def delF (k : ByteArray) : List Fl → List Fl
  | [] => []
  | e :: es => if k = e.name then es else e :: delF k es
theorem look_en (k : ByteArray) : ∀ fs : List Fl, lookE k (fs.map Fl.en) = (lookF k fs).map Fl.en
  | [] => rfl
  | e :: es => by
    have := look_en k es
    simp only [List.map_cons, lookE, lookF]
    by_cases h : k = e.name
    · simp [Fl.en, h]
    · rw [if_neg (by simpa [Fl.en] using h), if_neg h, this]
theorem set_en (k : ByteArray) (v : Value) (data : List UInt8) (sure b : Nat) : ∀ fs : List Fl, setE k (fval v sure) b (fs.map Fl.en) = (setF k v data sure b fs).map Fl.en
  | [] => rfl
  | e :: es => by
    have := set_en k v data sure b es
    simp only [List.map_cons, setE, setF]
    by_cases h : k = e.name
    · simp [Fl.en, h]
    · rw [if_neg (by simpa [Fl.en] using h), if_neg h, this]; rfl
theorem del_en (k : ByteArray) : ∀ fs : List Fl, delE k (fs.map Fl.en) = (delF k fs).map Fl.en
  | [] => rfl
  | e :: es => by
    have := del_en k es
    simp only [List.map_cons, delE, delF]
    by_cases h : k = e.name
    · simp [Fl.en, h]
    · rw [if_neg (by simpa [Fl.en] using h), if_neg h, this]; rfl

def usedF (fs : List Fl) : Nat := (fs.map fun x => x.data.length).sum
def lenF (k : ByteArray) (fs : List Fl) : Nat := ((lookF k fs).map fun x => x.data.length).getD 0
theorem used_set (k : ByteArray) (v : Value) (data : List UInt8) (sure b : Nat) : ∀ fs : List Fl, usedF (setF k v data sure b fs) + lenF k fs = usedF fs + data.length
  | [] => by simp [usedF, setF, lenF, lookF]
  | e :: es => by
    have := used_set k v data sure b es
    unfold usedF lenF at *
    simp only [setF, lookF]
    by_cases h : k = e.name
    · rw [if_pos h, if_pos h]; simp; omega
    · rw [if_neg h, if_neg h]; simp at this ⊢; omega
theorem used_del (k : ByteArray) : ∀ fs : List Fl, usedF (delF k fs) + lenF k fs = usedF fs
  | [] => by simp [usedF, delF, lenF, lookF]
  | e :: es => by
    have := used_del k es
    unfold usedF lenF at *
    simp only [delF, lookF]
    by_cases h : k = e.name
    · rw [if_pos h, if_pos h]; simp; omega
    · rw [if_neg h, if_neg h]; simp at this ⊢; omega

/-- The files' bytes, in memory from block base on, each file's its own. -/
structure Files (base : Nat) (fs : List Fl) (w : World) : Prop where
  sl : ∀ x ∈ fs, Sl w base 1 x.v x.data.length (cb x.data)
  sure : ∀ x ∈ fs, x.sure ≤ x.data.length
  names : (fs.map (·.name)).Nodup
  apart : fs.Pairwise fun a b => ∀ k, a.v.ownBlock = some k → b.v.ownBlock ≠ some k

theorem look_mem (k : ByteArray) : ∀ (fs : List Fl) (x : Fl), lookF k fs = some x → x ∈ fs ∧ x.name = k
  | [], x, h => by cases h
  | e :: es, x, h => by
    unfold lookF at h
    by_cases hk : k = e.name
    · rw [if_pos hk] at h
      cases h
      exact ⟨List.mem_cons_self, hk.symm⟩
    · rw [if_neg hk] at h
      have := look_mem k es x h
      exact ⟨List.mem_cons_of_mem _ this.1, this.2⟩
theorem set_names (k : ByteArray) (v : Value) (data : List UInt8) (s b : Nat) : ∀ fs : List Fl, ∀ n, n ∈ (setF k v data s b fs).map (·.name) → n = k ∨ n ∈ fs.map (·.name)
  | [], n, h => by simp [setF] at h; exact .inl h
  | e :: es, n, h => by
    unfold setF at h
    by_cases hk : k = e.name
    · rw [if_pos hk] at h; exact .inr h
    · rw [if_neg hk, List.map_cons, List.mem_cons] at h
      rcases h with h | h
      · exact .inr (by rw [h]; simp)
      · rcases set_names k v data s b es n h with h | h
        · exact .inl h
        · exact .inr (List.mem_cons_of_mem _ h)
theorem set_nodup (k : ByteArray) (v : Value) (data : List UInt8) (s b : Nat) : ∀ fs : List Fl, (fs.map (·.name)).Nodup → ((setF k v data s b fs).map (·.name)).Nodup
  | [], _ => by simp [setF]
  | e :: es, h => by
    unfold setF
    rw [List.map_cons, List.nodup_cons] at h
    by_cases hk : k = e.name
    · rw [if_pos hk, List.map_cons, List.nodup_cons]; exact h
    · rw [if_neg hk, List.map_cons, List.nodup_cons]
      refine ⟨fun hm => ?_, set_nodup k v data s b es h.2⟩
      rcases set_names k v data s b es _ hm with h1 | h1
      · exact hk h1.symm
      · exact h.1 h1
theorem set_mem (k : ByteArray) (v : Value) (data : List UInt8) (s b : Nat) : ∀ fs : List Fl, (fs.map (·.name)).Nodup → ∀ y, y ∈ setF k v data s b fs → (y ∈ fs ∧ y.name ≠ k) ∨ (y.v = v ∧ y.data = data ∧ y.sure = s ∧ y.name = k)
  | [], _, y, h => by simp [setF] at h; subst h; exact .inr ⟨rfl, rfl, rfl, rfl⟩
  | e :: es, hn, y, h => by
    rw [List.map_cons, List.nodup_cons] at hn
    unfold setF at h
    by_cases hk : k = e.name
    · rw [if_pos hk, List.mem_cons] at h
      rcases h with rfl | h
      · exact .inr ⟨rfl, rfl, rfl, hk.symm⟩
      · refine .inl ⟨List.mem_cons_of_mem _ h, fun e2 => hn.1 ?_⟩
        rw [← hk, ← e2]
        exact List.mem_map.2 ⟨y, h, rfl⟩
    · rw [if_neg hk, List.mem_cons] at h
      rcases h with rfl | h
      · exact .inl ⟨List.mem_cons_self, fun e2 => hk e2.symm⟩
      · rcases set_mem k v data s b es hn.2 y h with ⟨h1, h2⟩ | h1
        · exact .inl ⟨List.mem_cons_of_mem _ h1, h2⟩
        · exact .inr h1
abbrev Apart (a b : Fl) : Prop := ∀ k, a.v.ownBlock = some k → b.v.ownBlock ≠ some k
theorem apart_symm {a b : Fl} (h : Apart a b) : Apart b a := fun k hb ha => h k ha hb
theorem set_apart (k : ByteArray) (v : Value) (data : List UInt8) (s b : Nat) : ∀ fs : List Fl, (fs.map (·.name)).Nodup → fs.Pairwise Apart → (∀ x ∈ fs, x.name ≠ k → ∀ i, v.ownBlock = some i → x.v.ownBlock ≠ some i) → (setF k v data s b fs).Pairwise Apart
  | [], _, _, _ => by simp [setF]
  | e :: es, hn, hp, hv => by
    have hn' := hn
    rw [List.map_cons, List.nodup_cons] at hn
    rw [List.pairwise_cons] at hp
    unfold setF
    by_cases hk : k = e.name
    · rw [if_pos hk, List.pairwise_cons]
      refine ⟨fun y hy i hi => ?_, hp.2⟩
      refine hv y (List.mem_cons_of_mem _ hy) (fun e2 => hn.1 ?_) i hi
      rw [← hk, ← e2]
      exact List.mem_map.2 ⟨y, hy, rfl⟩
    · rw [if_neg hk, List.pairwise_cons]
      refine ⟨fun y hy => ?_, set_apart k v data s b es hn.2 hp.2 (fun x hx => hv x (List.mem_cons_of_mem _ hx))⟩
      rcases set_mem k v data s b es hn.2 y hy with ⟨h1, _⟩ | ⟨h1, _⟩
      · exact hp.1 y h1
      · intro i hi hb
        rw [h1] at hb
        exact hv e List.mem_cons_self (fun e2 => hk e2.symm) i hb hi
/-- A file is put. -/
theorem Files.set {base : Nat} {fs : List Fl} {w : World} (h : Files base fs w) (k : ByteArray) (v : Value) (data : List UInt8) (s b : Nat) (hs : Sl w base 1 v data.length (cb data)) (hsure : s ≤ data.length)
    (hv : ∀ x ∈ fs, x.name ≠ k → ∀ i, v.ownBlock = some i → x.v.ownBlock ≠ some i) : Files base (setF k v data s b fs) w := by
  refine ⟨fun y hy => ?_, fun y hy => ?_, set_nodup k v data s b fs h.names, set_apart k v data s b fs h.names h.apart hv⟩
  · rcases set_mem k v data s b fs h.names y hy with ⟨h1, _⟩ | ⟨h1, h2, h3, _⟩
    · exact h.sl y h1
    · rw [h1, h2]; exact hs
  · rcases set_mem k v data s b fs h.names y hy with ⟨h1, _⟩ | ⟨h1, h2, h3, _⟩
    · exact h.sure y h1
    · rw [h2, h3]; exact hsure
theorem Files.turn {base : Nat} {S : Nat → Prop} {fs : List Fl} {w w' : World} (h : Files base fs w) (t : Turn S w w') (hS : ∀ k, S k → k < base) : Files base fs w' :=
  ⟨fun x hx => (h.sl x hx).same t.size fun k hk => t.block k ((h.sl x hx).lt k hk).2 fun e => by have := hS k e; have := ((h.sl x hx).lt k hk).1; omega, h.sure, h.names, h.apart⟩

/-- When the entries were laid. -/
def Stamps (fs : List Fl) (clock : Nat) : Prop := (∀ x ∈ fs, x.born < clock) ∧ (fs.map (·.born)).Nodup
theorem set_born (k : ByteArray) (v : Value) (data : List UInt8) (s b : Nat) : ∀ fs : List Fl, (setF k v data s b fs).map (·.born) = if (lookF k fs).isSome then fs.map (·.born) else fs.map (·.born) ++ [b]
  | [] => rfl
  | e :: es => by
    have := set_born k v data s b es
    unfold setF lookF
    by_cases hk : k = e.name
    · rw [if_pos hk, if_pos hk]; rfl
    · rw [if_neg hk, if_neg hk, List.map_cons, this]
      split <;> simp
theorem Stamps.set {fs : List Fl} {clock : Nat} (h : Stamps fs clock) (k : ByteArray) (v : Value) (data : List UInt8) (s : Nat) : Stamps (setF k v data s clock fs) (if (lookF k fs).isSome then clock else clock + 1) := by
  have hb := set_born k v data s clock fs
  have hall : ∀ x ∈ setF k v data s clock fs, x.born ∈ (if (lookF k fs).isSome then fs.map (·.born) else fs.map (·.born) ++ [clock]) := fun x hx => by
    rw [← hb]; exact List.mem_map.2 ⟨x, hx, rfl⟩
  refine ⟨fun x hx => ?_, ?_⟩
  · have := hall x hx
    split at this
    · rename_i hs
      rw [if_pos hs]
      obtain ⟨y, hy, he⟩ := List.mem_map.1 this
      rw [← he]; exact h.1 y hy
    · rename_i hs
      rw [if_neg hs]
      rw [List.mem_append, List.mem_singleton] at this
      rcases this with this | this
      · obtain ⟨y, hy, he⟩ := List.mem_map.1 this
        have := h.1 y hy
        omega
      · omega
  · rw [hb]
    split
    · exact h.2
    · rw [List.nodup_append]
      refine ⟨h.2, by simp, fun a ha b hb' => ?_⟩
      obtain ⟨y, hy, he⟩ := List.mem_map.1 ha
      have h1 := h.1 y hy
      rw [List.mem_singleton] at hb'
      omega

/-- A disk lies in block d, its fuse in f and c, its map in m. -/
structure DiskAt (base d f c m : Nat) (room : Int) (fs : List Fl) (A : List Ft) (clock : Nat) (w : World) : Prop where
  hb : base ≤ w.heap.size
  dlt : d < base
  flt : f < base
  clt : c < base
  mlt : m < base
  df : d ≠ f
  dc : d ≠ c
  dm : d ≠ m
  fc : f ≠ c
  fm : f ≠ m
  cm : c ≠ m
  c0 : w.cell? ⟨d, 0, none⟩ = some (.pointer (some ⟨f, 0, none⟩))
  c1 : w.cell? ⟨d, 1, none⟩ = some (.int .i64 room)
  c2 : w.cell? ⟨d, 2, none⟩ = some (.int .i64 (usedF fs))
  c3 : w.cell? ⟨d, 3, none⟩ = some (.map (some m))
  f2 : w.frozen? ⟨d, 2, none⟩ = false
  fuse : Holds f c A w
  map : MapIs m (fs.map Fl.en) clock w
  files : Files base fs w
  room0 : 0 ≤ room
  room1 : room ≤ 9223372036854775807
  small : usedF fs ≤ 1000000
  stamps : Stamps fs clock

theorem Holds.turn {f c : Nat} {A : List Ft} {S : Nat → Prop} {w w' : World} (h : Holds f c A w) (t : Turn S w w') (hf : ¬ S f) (hc : ¬ S c) : Holds f c A w' := by
  obtain ⟨L, a, n, h, hv⟩ := h
  exact ⟨L, a, n, h.same t.size (t.block f h.lt hf) (t.block c h.clt hc), hv⟩
theorem MapIs.turn {m : Nat} {es : List En} {clock : Nat} {S : Nat → Prop} {w w' : World} (h : MapIs m es clock w) (t : Turn S w w') (hm : ¬ S m) : MapIs m es clock w' := by
  have hlt : m < w.heap.size := (Array.getElem?_eq_some_iff.1 h).1
  unfold MapIs
  rw [t.block m hlt hm]
  exact h

theorem zero_file (w : World) : (zeroValue 53).run Try.prog w = .ok (fval (.slice none 0 0) 0) w := by kernel_rfl

theorem field_data (a : Option Addr) (n c : Nat) (z : Int) (w : World) : (Instr.field 53 (.agg #[.slice a n c, .int .i64 z]) 0).run Try.prog w = .ok (.slice a n c) w := by kernel_rfl

theorem free_any (base d f c m : Nat) (room : Int) (fs : List Fl) (A : List Ft) (clock : Nat) (w : World) (h : DiskAt base d f c m room fs A clock w) :
    Calls Try.prog 26 #[.pointer (some ⟨d, 0, none⟩)] w fun e w' => e = .returned (.int .i64 (room - usedF fs)) ∧ ∃ n, w' = w.drewN n := by
  obtain ⟨c1, c2⟩ := And.intro h.c1 h.c2
  obtain ⟨r0, r1⟩ := And.intro h.room0 h.room1
  have hs := h.small
  obtain ⟨u, hu⟩ : ∃ u, u = usedF fs := ⟨_, rfl⟩
  rw [← hu] at c2 hs ⊢
  clear hu
  go_enter Try.func26, Try.ntmps26
  go_wp2
  go_quiet (fail)
  go_wp2
  go_ret
  exact ⟨rfl, _, rfl⟩
theorem maybe_any (s : ByteArray) (w : World) :
    Calls Try.prog 52 #[.string s] w fun e w' => e = .returned (.bool (decide (0 < s.size ∧ s.size ≤ 40))) ∧ w = w' := by
  go_enter Try.func52, Try.ntmps52
  have hl : s.toList.length = s.size := by rw [ByteArray.toList_eq, Array.length_toList]; rfl
  by_cases h : s.toList = []
  · have hz : s.size = 0 := by rw [← hl, h]; rfl
    have hd : decide (0 < s.size ∧ s.size ≤ 40) = false := by simp; omega
    rw [hd]
    clear hl hz hd
    go_wp2
    go_ret
    exact ⟨rfl, rfl⟩
  · have hz : 0 < s.size := by
      rcases Nat.eq_zero_or_pos s.size with h0 | h0
      · exact absurd (List.eq_nil_of_length_eq_zero (hl.trans h0)) h
      · exact h0
    have hd : decide (0 < s.size ∧ s.size ≤ 40) = (!s.toList.isEmpty && decide ((s.size : Int) ≤ 40)) := by
      have he : s.toList.isEmpty = false := by simpa using h
      rw [he]
      by_cases h40 : s.size ≤ 40
      · have h40' : (s.size : Int) ≤ 40 := by omega
        simp [hz, h40, h40']
      · have h40' : ¬ (s.size : Int) ≤ 40 := by omega
        simp [h40, h40']
    have HD := Lib.hid hd
    clear hl hd hz
    go_wp2
    go_ret
    exact ⟨by rw [HD.out]; rfl, rfl⟩

/-- The disk with that file. -/
def PutIt (base d f c m : Nat) (room : Int) (fs : List Fl) (A : List Ft) (w : World) (w' : World) : Prop :=
  (∃ clock, DiskAt base d f c m room fs A clock w') ∧ Turn (fun k => k = d ∨ k = m) w w'

set_option maxHeartbeats 1000000 in
set_option maxRecDepth 100000 in
theorem dput_any (base d f c m : Nat) (room : Int) (fs : List Fl) (A : List Ft) (clock : Nat) (name : ByteArray) (a : Option Addr) (n cap sure : Nat) (data : List UInt8) (w : World) (h : DiskAt base d f c m room fs A clock w) (hn : usedF fs + n ≤ 1000000 + lenF name fs)
    (hd : data.length = n) (hsl : Sl w base 1 (.slice a n cap) n (cb data)) (hsure : sure ≤ n) (hap : ∀ x ∈ fs, x.name ≠ name → ∀ i, (Value.slice a n cap).ownBlock = some i → x.v.ownBlock ≠ some i) :
    Calls Try.prog 17 #[.pointer (some ⟨d, 0, none⟩), .string name, fval (.slice a n cap) sure] w fun e w' => e = .returned (.tuple #[]) ∧ PutIt base d f c m room (setF name (.slice a n cap) data sure clock fs) A w w' := by
  obtain ⟨c2, c3⟩ := And.intro h.c2 h.c3
  have f2 := h.f2
  have hs := h.small
  have hdw : d < w.heap.size := Nat.lt_of_lt_of_le h.dlt h.hb
  have hmw : m < w.heap.size := Nat.lt_of_lt_of_le h.mlt h.hb
  obtain ⟨W0, hW0⟩ : ∃ W0, W0 = w.alloc (.cells #[.slice a n cap, .int .i64 sure] 53) := ⟨_, rfl⟩
  have hm0 : MapIs m (fs.map Fl.en) clock W0 := by unfold MapIs; rw [hW0, Below.heap_alloc _ _ _ hmw]; exact h.map
  obtain ⟨g, hg⟩ : ∃ g, g = lookF name fs := ⟨_, rfl⟩
  have hl0 := run_look (P := Try.prog) Try.underlying30 Try.underlying9 (fval (.slice none 0 0) 0) zero_file hm0 name false
  have hl1 := run_look (P := Try.prog) (w := W0.drew) Try.underlying30 Try.underlying9 (fval (.slice none 0 0) 0) zero_file hm0 name false
  rw [look_en, ← hg] at hl0 hl1
  simp only [Bool.false_eq_true, if_false] at hl0 hl1
  -- the value that was there
  obtain ⟨a0, n0, cap0, sure0, hv0⟩ : ∃ a0 n0 cap0 sure0, (((g.map Fl.en).map (·.val)).getD (fval (.slice none 0 0) 0)) = fval (.slice a0 n0 cap0) sure0 ∧ n0 = lenF name fs := by
    unfold lenF
    rw [← hg]
    cases hgc : g with
    | none => exact ⟨none, 0, 0, 0, rfl, rfl⟩
    | some x =>
      have hx : x ∈ fs := (look_mem name fs x (hg.symm.trans hgc)).1
      obtain ⟨a0, cap0, hv⟩ := (h.files.sl x hx).slice
      exact ⟨a0, x.data.length, cap0, x.sure, by simp [Fl.en, hv], rfl⟩
  rw [hv0.1] at hl0 hl1
  have hn0 : n0 ≤ usedF fs := by
    have := used_del name fs
    rw [hv0.2]; omega
  obtain ⟨U, hU⟩ : ∃ U, U = usedF fs := ⟨_, rfl⟩
  have hnK := Lib.hid hn
  rw [← hv0.2] at hn
  rw [← hU] at c2 hs hn0 hn
  have HW := Lib.hid hW0
  have HU := Lib.hid hU
  have HM := Lib.hid hm0
  have hdm := h.dm
  have HN0 := Lib.hid hv0.2
  clear hU hv0 hg hm0
  unfold fval at hl0 hl1 ⊢
  have k2 : W0.cell? ⟨d, 2, none⟩ = some (.int .i64 U) := by rw [hW0, World.cell?_alloc_past _ _ _ hdw]; exact c2
  have k3 : W0.cell? ⟨d, 3, none⟩ = some (.map (some m)) := by rw [hW0, World.cell?_alloc_past _ _ _ hdw]; exact c3
  have kf : W0.frozen? ⟨d, 2, none⟩ = false := by rw [hW0, World.frozen?_alloc_past _ _ _ hdw]; exact f2
  have hblk : W0.heap[w.heap.size]? = some (.cells #[.slice a n cap, .int .i64 sure] 53) := by rw [hW0]; exact heap_alloc_new w _
  have b0 : W0.cell? ⟨w.heap.size, 0, none⟩ = some (.slice a n cap) := by rw [cell_of_row _ _ 0 _ _ _ hblk]; rfl
  have b1 : W0.cell? ⟨w.heap.size, 1, none⟩ = some (.int .i64 sure) := by rw [cell_of_row _ _ 1 _ _ _ hblk]; rfl
  have hne : d ≠ w.heap.size := by omega
  clear hW0 hblk c2 c3 f2
  have hfd := field_data
  go_enter Try.func17, Try.ntmps17
  go_wp2
  rw [← HW.out]
  go_region
  obtain ⟨W1, hW1⟩ : ∃ W1, W1 = W0.setCell ⟨d, 2, none⟩ (.int .i64 ((U : Int) + ((n : Int) - (n0 : Int)))) := ⟨_, rfl⟩
  rw [← hW1]
  have hm1 : MapIs m (fs.map Fl.en) clock W1 := by unfold MapIs; rw [hW1, Below.heap_setCell _ _ _ _ (Ne.symm hdm)]; exact HM.out
  have k3' : W1.cell? ⟨d, 3, none⟩ = some (.map (some m)) := by rw [hW1, cell_setCell_other _ _ _ _ _ (.inr (by simp))]; exact k3
  have b0' : W1.cell? ⟨w.heap.size, 0, none⟩ = some (.slice a n cap) := by rw [hW1, cell_setCell_other _ _ _ _ _ (.inl (by simp only; omega))]; exact b0
  have b1' : W1.cell? ⟨w.heap.size, 1, none⟩ = some (.int .i64 sure) := by rw [hW1, cell_setCell_other _ _ _ _ _ (.inl (by simp only; omega))]; exact b1
  have hst := run_store (P := Try.prog) (w := W1.drew) Try.underlying30 Try.underlying9 hm1 name (fval (.slice a n cap) sure)
  have hst2 := run_store (P := Try.prog) (w := W1.drew.drew) Try.underlying30 Try.underlying9 hm1 name (fval (.slice a n cap) sure)
  obtain ⟨W2, hW2⟩ : ∃ W2, W2 = World.putMap W1.drew.drew m (setE name (fval (.slice a n cap) sure) clock (fs.map Fl.en)) (if (lookE name (fs.map Fl.en)).isSome then clock else clock + 1) := ⟨_, rfl⟩
  rw [← hW2] at hst2
  unfold fval at hst hst2
  have HW1 := Lib.hid hW1
  have HW2 := Lib.hid hW2
  clear hW1 hW2 k2 k3 b0 b1 kf hl0 hl1 hm1
  go_wp2
  go_region
  go_end0
  have hdB := h.dlt
  have hmB := h.mlt
  have hbw := h.hb
  have t0 : Turn (fun k => k = d ∨ k = m) w W0 := by rw [HW.out]; exact (Turn.refl _ w).alloc _
  have t1 : Turn (fun k => k = d ∨ k = m) w W1 := by rw [HW1.out]; exact t0.setCell ⟨d, 2, none⟩ _ (.inl rfl)
  have t2 : Turn (fun k => k = d ∨ k = m) w W2 := by rw [HW2.out]; exact t1.drew.drew.trans (turn_put (S := fun k => k = d ∨ k = m) (.inr rfl) _ _)
  have z1 : w.heap.size ≤ W1.heap.size := t1.size
  have hd2 : W2.heap[d]? = W1.heap[d]? := by rw [HW2.out]; simp only [World.putMap]; rw [Array.getElem?_setIfInBounds_ne (Ne.symm hdm)]; rfl
  have hd1 : ∀ o, o ≠ 2 → W1.cell? ⟨d, o, none⟩ = w.cell? ⟨d, o, none⟩ := fun o ho => by
    rw [HW1.out, cell_setCell_other _ _ _ _ _ (.inr ho), HW.out, World.cell?_alloc_past _ _ _ hdw]
  have hsz : W0.heap.size = w.heap.size + 1 := by rw [HW.out]; simp
  have hu := used_set name (.slice a n cap) data sure clock fs
  refine ⟨rfl, ⟨if (lookE name (fs.map Fl.en)).isSome then clock else clock + 1, ⟨Nat.le_trans hbw t2.size, h.dlt, h.flt, h.clt, h.mlt, h.df, h.dc, h.dm, h.fc, h.fm, h.cm, ?_, ?_, ?_, ?_, ?_, ?_, ?_, ?_, h.room0, h.room1, ?_, ?_⟩⟩, t2⟩
  · rw [World.cell?_of_block (a := ⟨d, 0, none⟩) hd2, hd1 _ (by decide)]; exact h.c0
  · rw [World.cell?_of_block (a := ⟨d, 1, none⟩) hd2, hd1 _ (by decide)]; exact h.c1
  · rw [World.cell?_of_block (a := ⟨d, 2, none⟩) hd2, HW1.out, cell_setCell_same _ _ _ _ (by rw [HW.out, World.cell?_alloc_past _ _ _ hdw, h.c2]; rfl)]
    congr 2
    have := HU.out
    have := HN0.out
    omega
  · rw [World.cell?_of_block (a := ⟨d, 3, none⟩) hd2, hd1 _ (by decide)]; exact h.c3
  · rw [World.frozen?_of_block (a := ⟨d, 2, none⟩) hd2, HW1.out, frozen_setCell, HW.out, World.frozen?_alloc_past _ _ _ hdw]; exact h.f2
  · exact h.fuse.turn t2 (by have := h.df; have := h.fm; omega) (by have := h.dc; have := h.cm; omega)
  · have := mapIs_put (w := W1.drew.drew) (m := m) (show m < W1.heap.size by omega) (setE name (fval (.slice a n cap) sure) clock (fs.map Fl.en)) (if (lookE name (fs.map Fl.en)).isSome then clock else clock + 1)
    rw [← HW2.out, set_en name (.slice a n cap) data sure clock fs] at this
    exact this
  · have hf := h.files.set name (.slice a n cap) data sure clock (by rw [hd]; exact hsl) (by omega) hap
    exact hf.turn t2 (fun k hk => by rcases hk with rfl | rfl <;> omega)
  · have := hnK.out
    omega
  · have := h.stamps.set name (.slice a n cap) data sure
    rw [look_en]
    simpa using this
end Go.Proofs.Ytiegokjdnlhlcaa
