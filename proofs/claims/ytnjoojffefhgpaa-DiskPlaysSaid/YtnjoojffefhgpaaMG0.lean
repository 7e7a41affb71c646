/- Layer 5's buckets: what they hold; Do at the closures of Put and Delete. Layer 5's buckets: New, Peek, Put. -/
import Derived.Test.YtnjoojffefhgpaaMD9
import Derived.Deep.RegionHeld3
namespace Go.Proofs.Ytnjoojffefhgpaa
open Go.Conc Go.RowKit

/-- An object: its name, its bytes, when it was put. -/
structure Ob where
  name : ByteArray
  data : ByteArray
  tm : Int
  born : Nat
def oval (d : ByteArray) (t : Int) : Value := .agg #[.string d, .int .i64 t]
def Ob.en (x : Ob) : En := ⟨x.name, oval x.data x.tm, x.born⟩
def lookO (k : ByteArray) : List Ob → Option Ob
  | [] => none
  | e :: es => if k = e.name then some e else lookO k es
def setO (k d : ByteArray) (t : Int) (b : Nat) : List Ob → List Ob
  | [] => [⟨k, d, t, b⟩]
  | e :: es => if k = e.name then { e with data := d, tm := t } :: es else e :: setO k d t b es
def delO (k : ByteArray) : List Ob → List Ob
  | [] => []
  | e :: es => if k = e.name then es else e :: delO k es
theorem look_enO (k : ByteArray) : ∀ os : List Ob, lookE k (os.map Ob.en) = (lookO k os).map Ob.en
  | [] => rfl
  | e :: es => by
    have := look_enO k es
    simp only [List.map_cons, lookE, lookO]
    by_cases h : k = e.name
    · simp [Ob.en, h]
    · rw [if_neg (by simpa [Ob.en] using h), if_neg h, this]
theorem set_enO (k d : ByteArray) (t : Int) (b : Nat) : ∀ os : List Ob, setE k (oval d t) b (os.map Ob.en) = (setO k d t b os).map Ob.en
  | [] => rfl
  | e :: es => by
    have := set_enO k d t b es
    simp only [List.map_cons, setE, setO]
    by_cases h : k = e.name
    · simp [Ob.en, h]
    · rw [if_neg (by simpa [Ob.en] using h), if_neg h, this]; rfl
theorem del_enO (k : ByteArray) : ∀ os : List Ob, delE k (os.map Ob.en) = (delO k os).map Ob.en
  | [] => rfl
  | e :: es => by
    have := del_enO k es
    simp only [List.map_cons, delE, delO]
    by_cases h : k = e.name
    · simp [Ob.en, h]
    · rw [if_neg (by simpa [Ob.en] using h), if_neg h, this]; rfl
theorem look_memO (k : ByteArray) : ∀ (os : List Ob) (x : Ob), lookO k os = some x → x ∈ os ∧ x.name = k
  | [], x, h => by cases h
  | e :: es, x, h => by
    unfold lookO at h
    by_cases hk : k = e.name
    · rw [if_pos hk] at h
      cases h
      exact ⟨List.mem_cons_self, hk.symm⟩
    · rw [if_neg hk] at h
      have := look_memO k es x h
      exact ⟨List.mem_cons_of_mem _ this.1, this.2⟩
theorem look_noneO (k : ByteArray) : ∀ os : List Ob, lookO k os = none ↔ k ∉ os.map (·.name)
  | [] => by simp [lookO]
  | e :: es => by
    have ih := look_noneO k es
    unfold lookO
    by_cases hk : k = e.name
    · simp [hk]
    · rw [if_neg hk, ih, List.map_cons, List.mem_cons, not_or]
      exact ⟨fun h => ⟨hk, h⟩, fun h => h.2⟩
theorem set_namesO (k d : ByteArray) (t : Int) (b : Nat) : ∀ os : List Ob, ∀ n, n ∈ (setO k d t b os).map (·.name) → n = k ∨ n ∈ os.map (·.name)
  | [], n, h => by simp [setO] at h; exact .inl h
  | e :: es, n, h => by
    unfold setO at h
    by_cases hk : k = e.name
    · rw [if_pos hk] at h; exact .inr h
    · rw [if_neg hk, List.map_cons, List.mem_cons] at h
      rcases h with h | h
      · exact .inr (by rw [h]; simp)
      · rcases set_namesO k d t b es n h with h | h
        · exact .inl h
        · exact .inr (List.mem_cons_of_mem _ h)
theorem set_nodupO (k d : ByteArray) (t : Int) (b : Nat) : ∀ os : List Ob, (os.map (·.name)).Nodup → ((setO k d t b os).map (·.name)).Nodup
  | [], _ => by simp [setO]
  | e :: es, h => by
    unfold setO
    rw [List.map_cons, List.nodup_cons] at h
    by_cases hk : k = e.name
    · rw [if_pos hk, List.map_cons, List.nodup_cons]; exact h
    · rw [if_neg hk, List.map_cons, List.nodup_cons]
      refine ⟨fun hm => ?_, set_nodupO k d t b es h.2⟩
      rcases set_namesO k d t b es _ hm with h1 | h1
      · exact hk h1.symm
      · exact h.1 h1
theorem del_subO (k : ByteArray) : ∀ os : List Ob, (delO k os).Sublist os
  | [] => List.Sublist.refl _
  | e :: es => by
    unfold delO
    by_cases h : k = e.name
    · rw [if_pos h]; exact List.sublist_cons_self _ _
    · rw [if_neg h]; exact (del_subO k es).cons_cons _
theorem look_setO (k n d : ByteArray) (t : Int) (b : Nat) : ∀ os : List Ob, (lookO n (setO k d t b os)).map (fun x => (x.data, x.tm)) = if n = k then some (d, t) else (lookO n os).map fun x => (x.data, x.tm)
  | [] => by
    by_cases h : n = k <;> simp [setO, lookO, h]
  | e :: es => by
    have ih := look_setO k n d t b es
    unfold setO
    by_cases hk : k = e.name
    · rw [if_pos hk]
      simp only [lookO]
      by_cases hn : n = e.name
      · rw [if_pos hn, if_pos (hn.trans hk.symm)]; rfl
      · rw [if_neg hn, if_neg hn, if_neg (fun h => hn (h.trans hk))]
    · rw [if_neg hk]
      simp only [lookO]
      by_cases hn : n = e.name
      · rw [if_pos hn, if_pos hn, if_neg (fun h => hk (h.symm.trans hn))]
      · rw [if_neg hn, if_neg hn, ih]
theorem look_delO (k n : ByteArray) : ∀ os : List Ob, (os.map (·.name)).Nodup → lookO n (delO k os) = if n = k then none else lookO n os
  | [], _ => by simp [delO, lookO]
  | e :: es, hd => by
    rw [List.map_cons, List.nodup_cons] at hd
    have ih := look_delO k n es hd.2
    unfold delO
    by_cases hk : k = e.name
    · rw [if_pos hk]
      by_cases hn : n = k
      · rw [if_pos hn, look_noneO, hn, hk]
        exact hd.1
      · rw [if_neg hn]
        simp only [lookO]
        rw [if_neg (fun h => hn (h.trans hk.symm))]
    · rw [if_neg hk]
      simp only [lookO]
      by_cases hn : n = e.name
      · rw [if_pos hn, if_pos hn, if_neg (fun h => hk (h.symm.trans hn))]
      · rw [if_neg hn, if_neg hn, ih]

def StampsO (os : List Ob) (clock : Nat) : Prop := (∀ x ∈ os, x.born < clock) ∧ (os.map (·.born)).Nodup
theorem set_bornO (k d : ByteArray) (t : Int) (b : Nat) : ∀ os : List Ob, (setO k d t b os).map (·.born) = if (lookO k os).isSome then os.map (·.born) else os.map (·.born) ++ [b]
  | [] => rfl
  | e :: es => by
    have := set_bornO k d t b es
    unfold setO lookO
    by_cases hk : k = e.name
    · rw [if_pos hk, if_pos hk]; rfl
    · rw [if_neg hk, if_neg hk, List.map_cons, this]
      split <;> simp
theorem StampsO.set {os : List Ob} {clock : Nat} (h : StampsO os clock) (k d : ByteArray) (t : Int) : StampsO (setO k d t clock os) (if (lookO k os).isSome then clock else clock + 1) := by
  have hb := set_bornO k d t clock os
  have hall : ∀ x ∈ setO k d t clock os, x.born ∈ (if (lookO k os).isSome then os.map (·.born) else os.map (·.born) ++ [clock]) := fun x hx => by
    rw [← hb]; exact List.mem_map.2 ⟨x, hx, rfl⟩
  refine ⟨fun x hx => ?_, ?_⟩
  · have := hall x hx
    split at this
    · rename_i hs
      rw [if_pos hs]
      obtain ⟨y, hy, he⟩ := List.mem_map.1 this
      rw [← he]; exact h.1 y hy
    · rename_i hs
      rw [if_neg hs]
      rw [List.mem_append, List.mem_singleton] at this
      rcases this with this | this
      · obtain ⟨y, hy, he⟩ := List.mem_map.1 this
        have := h.1 y hy
        omega
      · omega
  · rw [hb]
    split
    · exact h.2
    · rw [List.nodup_append]
      refine ⟨h.2, by simp, fun a ha b hb' => ?_⟩
      obtain ⟨y, hy, he⟩ := List.mem_map.1 ha
      have h1 := h.1 y hy
      rw [List.mem_singleton] at hb'
      omega
theorem StampsO.del {os : List Ob} {clock : Nat} (h : StampsO os clock) (k : ByteArray) : StampsO (delO k os) clock :=
  ⟨fun x hx => h.1 x ((del_subO k os).subset hx), h.2.sublist ((del_subO k os).map _)⟩

/-- A bucket lies in block k, its fuse in f and c, its map in m. -/
structure BucketAt (k f c m : Nat) (os : List Ob) (A : List Ft) (clock : Nat) (w : World) : Prop where
  klt : k < w.heap.size
  mlt : m < w.heap.size
  kf : k ≠ f
  kc : k ≠ c
  km : k ≠ m
  fm : f ≠ m
  cm : c ≠ m
  c0 : w.cell? ⟨k, 0, none⟩ = some (.pointer (some ⟨f, 0, none⟩))
  c1 : w.cell? ⟨k, 1, none⟩ = some (.map (some m))
  fuse : Holds f c A w
  map : MapIs m (os.map Ob.en) clock w
  names : (os.map (·.name)).Nodup
  stamps : StampsO os clock
theorem Holds.lts {f c : Nat} {A : List Ft} {w : World} (h : Holds f c A w) : f < w.heap.size ∧ c < w.heap.size := by
  obtain ⟨L, a, n, h, _⟩ := h
  exact ⟨h.lt, h.clt⟩
/-- What a call on a bucket may turn. -/
abbrev Mb (f c m : Nat) : Nat → Prop := fun i => i = f ∨ i = c ∨ i = m
theorem BucketAt.below {k f c m : Nat} {os : List Ob} {A : List Ft} {clock : Nat} {w w' : World} (h : BucketAt k f c m os A clock w) (b : Below w.heap.size w w') : BucketAt k f c m os A clock w' := by
  have t : Turn (fun _ => False) w w' := Turn.of_below b
  exact ⟨Nat.lt_of_lt_of_le h.klt b.size, Nat.lt_of_lt_of_le h.mlt b.size, h.kf, h.kc, h.km, h.fm, h.cm, (b.cell (p := ⟨k, 0, none⟩) h.klt).trans h.c0, (b.cell (p := ⟨k, 1, none⟩) h.klt).trans h.c1,
    h.fuse.turn t (fun h => h) (fun h => h), h.map.turn t (fun h => h), h.names, h.stamps⟩
theorem BucketAt.tried {k f c m : Nat} {os : List Ob} {A A' : List Ft} {clock : Nat} {w w' : World} (h : BucketAt k f c m os A clock w) (t : Turn (Own f c) w w') (hA : Holds f c A' w') : BucketAt k f c m os A' clock w' := by
  have hn : ¬ Own f c k := by have := h.kf; have := h.kc; rintro (e | e) <;> omega
  have hm : ¬ Own f c m := by have := h.fm; have := h.cm; rintro (e | e) <;> omega
  exact ⟨Nat.lt_of_lt_of_le h.klt t.size, Nat.lt_of_lt_of_le h.mlt t.size, h.kf, h.kc, h.km, h.fm, h.cm, (t.cell (p := ⟨k, 0, none⟩) h.klt hn).trans h.c0, (t.cell (p := ⟨k, 1, none⟩) h.klt hn).trans h.c1,
    hA, h.map.turn t hm, h.names, h.stamps⟩
/-- The map alone was turned. -/
theorem BucketAt.mapped {k f c m : Nat} {os os' : List Ob} {A : List Ft} {clock clock' : Nat} {w w' : World} (h : BucketAt k f c m os A clock w) (t : Turn (fun i => i = m) w w') (hm : MapIs m (os'.map Ob.en) clock' w') (hn : (os'.map (·.name)).Nodup) (hs : StampsO os' clock') : BucketAt k f c m os' A clock' w' :=
  ⟨Nat.lt_of_lt_of_le h.klt t.size, Nat.lt_of_lt_of_le h.mlt t.size, h.kf, h.kc, h.km, h.fm, h.cm, (t.cell (p := ⟨k, 0, none⟩) h.klt h.km).trans h.c0, (t.cell (p := ⟨k, 1, none⟩) h.klt h.km).trans h.c1,
    h.fuse.turn t h.fm h.cm, hm, hn, hs⟩
theorem zero_obj (w : World) : (zeroValue 105).run Try.prog w = .ok (oval ByteArray.empty 0) w := by kernel_rfl

set_option maxRecDepth 100000 in
theorem do_put (f c : Nat) (caps : Array Value) (A : List Ft) (w : World) (Q : World → Int → World → Prop) (h : Holds f c A w)
    (act : ∀ W, Holds f c (tryL A).2 W → Turn (Own f c) w W → Calls Try.prog 66 caps W fun e w' => ∃ er, e = .returned (.int .i64 er) ∧ Q W er w') :
    Calls Try.prog 49 #[.pointer (some ⟨f, 0, none⟩), .func (.func 66) #[] caps] w (Did f c A w Q) := by
  have HT := Lib.hid (try_any f c A w h)
  have HA := Lib.hid act
  clear act
  unfold Did
  rcases hr : (tryL A) with ⟨⟨works, done⟩, A'⟩
  rw [hr] at HT HA
  simp only
  cases done
  · cases works
    all_goals
      go_enter Try.func49, Try.ntmps49
      go_wp2_with fail
      refine HT.out.mono ?_
      rintro e w1 ⟨rfl, h1, t1⟩
      go_wp2
      go_ret
      exact ⟨w1, h1, t1, rfl, rfl⟩
  · cases works
    all_goals
      go_enter Try.func49, Try.ntmps49
      go_wp2_with fail
      refine HT.out.mono ?_
      rintro e w1 ⟨rfl, h1, t1⟩
      have C := Lib.hid (HA.out w1 h1 t1)
      go_wp2_with fail
      refine C.out.mono ?_
      rintro e w2 ⟨er, rfl, hq⟩
      by_cases h0 : er = 0
      · subst h0
        go_wp2
        go_ret
        exact ⟨w1, h1, t1, 0, hq, rfl⟩
      · have hd : (er != 0) = true := by simpa using h0
        go_wp2
        go_ret
        refine ⟨w1, h1, t1, er, hq, ?_⟩
        rw [if_neg h0]
        rfl

set_option maxRecDepth 100000 in
theorem do_delete (f c : Nat) (caps : Array Value) (A : List Ft) (w : World) (Q : World → Int → World → Prop) (h : Holds f c A w)
    (act : ∀ W, Holds f c (tryL A).2 W → Turn (Own f c) w W → Calls Try.prog 67 caps W fun e w' => ∃ er, e = .returned (.int .i64 er) ∧ Q W er w') :
    Calls Try.prog 49 #[.pointer (some ⟨f, 0, none⟩), .func (.func 67) #[] caps] w (Did f c A w Q) := by
  have HT := Lib.hid (try_any f c A w h)
  have HA := Lib.hid act
  clear act
  unfold Did
  rcases hr : (tryL A) with ⟨⟨works, done⟩, A'⟩
  rw [hr] at HT HA
  simp only
  cases done
  · cases works
    all_goals
      go_enter Try.func49, Try.ntmps49
      go_wp2_with fail
      refine HT.out.mono ?_
      rintro e w1 ⟨rfl, h1, t1⟩
      go_wp2
      go_ret
      exact ⟨w1, h1, t1, rfl, rfl⟩
  · cases works
    all_goals
      go_enter Try.func49, Try.ntmps49
      go_wp2_with fail
      refine HT.out.mono ?_
      rintro e w1 ⟨rfl, h1, t1⟩
      have C := Lib.hid (HA.out w1 h1 t1)
      go_wp2_with fail
      refine C.out.mono ?_
      rintro e w2 ⟨er, rfl, hq⟩
      by_cases h0 : er = 0
      · subst h0
        go_wp2
        go_ret
        exact ⟨w1, h1, t1, 0, hq, rfl⟩
      · have hd : (er != 0) = true := by simpa using h0
        go_wp2
        go_ret
        refine ⟨w1, h1, t1, er, hq, ?_⟩
        rw [if_neg h0]
        rfl
end Go.Proofs.Ytnjoojffefhgpaa

namespace Go.Proofs.Ytnjoojffefhgpaa
open Go.Conc Go.RowKit

theorem new_bucket (w w1 : World) (hh : Holds (w.heap.size + 1) w.heap.size [] w1) (b1 : Below w.heap.size w w1) (z1 : w1.heap.size = w.heap.size + 2) :
    BucketAt (w.heap.size + 3) (w.heap.size + 1) w.heap.size (w.heap.size + 2) [] [] 0 ((w1.alloc (.map #[] 0)).alloc (.cells #[.pointer (some ⟨w.heap.size + 1, 0, none⟩), .map (some (w.heap.size + 2))] 55)) ∧
    Below w.heap.size w ((w1.alloc (.map #[] 0)).alloc (.cells #[.pointer (some ⟨w.heap.size + 1, 0, none⟩), .map (some (w.heap.size + 2))] 55)) := by
  obtain ⟨W2, hW2⟩ : ∃ W2, W2 = w1.alloc (.map #[] 0) := ⟨_, rfl⟩
  have z2 : W2.heap.size = w.heap.size + 3 := by rw [hW2]; simp; omega
  have hm : W2.heap[w.heap.size + 2]? = some (.map #[] 0) := by rw [hW2]; have := heap_alloc_new w1 (.map #[] 0); rw [z1] at this; exact this
  have b2 : Below w1.heap.size w1 W2 := by rw [hW2]; exact (Below.refl _ _).alloc (Nat.le_refl _) _
  rw [← hW2]
  obtain ⟨W3, hW3⟩ : ∃ W3, W3 = W2.alloc (.cells #[.pointer (some ⟨w.heap.size + 1, 0, none⟩), .map (some (w.heap.size + 2))] 55) := ⟨_, rfl⟩
  have z3 : W3.heap.size = w.heap.size + 4 := by rw [hW3]; simp; omega
  have hd : W3.heap[w.heap.size + 3]? = some (.cells #[.pointer (some ⟨w.heap.size + 1, 0, none⟩), .map (some (w.heap.size + 2))] 55) := by
    rw [hW3]; have := heap_alloc_new W2 (.cells #[.pointer (some ⟨w.heap.size + 1, 0, none⟩), .map (some (w.heap.size + 2))] 55); rw [z2] at this; exact this
  have b3 : Below W2.heap.size W2 W3 := by rw [hW3]; exact (Below.refl _ _).alloc (Nat.le_refl _) _
  rw [← hW3]
  have hcell : ∀ o v, (#[Value.pointer (some ⟨w.heap.size + 1, 0, none⟩), Value.map (some (w.heap.size + 2))] : Array Value)[o]? = some v → W3.cell? ⟨w.heap.size + 3, o, none⟩ = some v := fun o v hv => by
    rw [cell_of_row _ _ o _ _ _ hd]; exact hv
  have t13 : Turn (fun _ => False) w1 W3 := (Turn.of_below b2).trans (Turn.of_below b3)
  refine ⟨⟨by omega, by omega, by omega, by omega, by omega, by omega, by omega, hcell _ _ rfl, hcell _ _ rfl, hh.turn t13 (fun h => h) (fun h => h), ?_, by simp, by simp, by simp⟩, ?_⟩
  · show W3.heap[w.heap.size + 2]? = _
    rw [b3.block _ (by omega)]; exact hm
  · exact (b1.trans (b2.mono (by omega))).trans (b3.mono (by omega))

theorem bnew_any (w : World) : Calls Try.prog 11 #[] w fun e w' => e = .returned (.pointer (some ⟨w.heap.size + 3, 0, none⟩)) ∧
      BucketAt (w.heap.size + 3) (w.heap.size + 1) w.heap.size (w.heap.size + 2) [] [] 0 w' ∧ Below w.heap.size w w' := by
  have hmm := @run_makeMap Try.prog
  go_enter Try.func11, Try.ntmps11
  go_wp2_with fail
  refine (newfuse_any _).mono ?_
  rintro e w1 ⟨rfl, hh, b1, z1⟩
  have N := Lib.hid (new_bucket w w1 hh b1 z1)
  go_wp2
  go_ret
  exact ⟨rfl, N.out⟩

/-- An object's bytes, or none; were they there? -/
def peekO (k : ByteArray) (os : List Ob) : ByteArray := ((lookO k os).map (·.data)).getD ByteArray.empty
theorem look_valO (k : ByteArray) (os : List Ob) : ∃ t, (((lookO k os).map Ob.en).map (·.val)).getD (oval ByteArray.empty 0) = oval (peekO k os) t := by
  unfold peekO
  cases lookO k os with
  | none => exact ⟨0, rfl⟩
  | some x => exact ⟨x.tm, rfl⟩

set_option maxRecDepth 100000 in
theorem peek_any (k f c m : Nat) (os : List Ob) (A : List Ft) (clock : Nat) (name : ByteArray) (w : World) (h : BucketAt k f c m os A clock w) :
    Calls Try.prog 16 #[.pointer (some ⟨k, 0, none⟩), .string name] w fun e w' => e = .returned (.tuple #[.string (peekO name os), .bool (lookO name os).isSome]) ∧ Below w.heap.size w w' := by
  have c1 := h.c1
  have hl0 := run_look (P := Try.prog) (w := w) Try.underlying53 Try.underlying9 (oval ByteArray.empty 0) zero_obj h.map name true
  obtain ⟨t, ht⟩ := look_valO name os
  obtain ⟨s, hs⟩ : ∃ s, s = peekO name os := ⟨_, rfl⟩
  obtain ⟨b, hb⟩ : ∃ b, b = (lookO name os).isSome := ⟨_, rfl⟩
  rw [look_enO, ht, ← hs] at hl0
  rw [← hs, ← hb]
  simp only [if_true, Option.isSome_map, ← hb] at hl0
  unfold oval at hl0
  clear ht hs hb
  go_enter Try.func16, Try.ntmps16
  go_wp2
  go_ret2
  exact ⟨rfl, (Below.refl _ w).alloc (Nat.le_refl _) _⟩

theorem bmaybe_any (s : ByteArray) (w : World) :
    Calls Try.prog 65 #[.string s] w fun e w' => e = .returned (.bool (decide (0 < s.size ∧ s.size ≤ 40))) ∧ w = w' := by
  go_enter Try.func65, Try.ntmps65
  have hl : s.toList.length = s.size := by rw [ByteArray.toList_eq, Array.length_toList]; rfl
  by_cases h : s.toList = []
  · have hz : s.size = 0 := by rw [← hl, h]; rfl
    have hd : decide (0 < s.size ∧ s.size ≤ 40) = false := by simp; omega
    rw [hd]
    clear hl hz hd
    go_wp2
    go_ret
    exact ⟨rfl, rfl⟩
  · have hz : 0 < s.size := by
      rcases Nat.eq_zero_or_pos s.size with h0 | h0
      · exact absurd (List.eq_nil_of_length_eq_zero (hl.trans h0)) h
      · exact h0
    have hd : decide (0 < s.size ∧ s.size ≤ 40) = (!s.toList.isEmpty && decide ((s.size : Int) ≤ 40)) := by
      have he : s.toList.isEmpty = false := by simpa using h
      rw [he]
      by_cases h40 : s.size ≤ 40
      · have h40' : (s.size : Int) ≤ 40 := by omega
        simp [hz, h40, h40']
      · have h40' : ¬ (s.size : Int) ≤ 40 := by omega
        simp [h40, h40']
    have HD := Lib.hid hd
    clear hl hd hz
    go_wp2
    go_ret
    exact ⟨by rw [HD.out]; rfl, rfl⟩

set_option maxHeartbeats 1000000 in
set_option maxRecDepth 100000 in
/-- Put's closure. -/
theorem put1_any (k f c m : Nat) (os : List Ob) (A : List Ft) (clock : Nat) (name data : ByteArray) (tm : Int) (bk bn bd bt : Nat) (w : World) (h : BucketAt k f c m os A clock w)
    (p0 : w.cell? ⟨bk, 0, none⟩ = some (.pointer (some ⟨k, 0, none⟩))) (p1 : w.cell? ⟨bn, 0, none⟩ = some (.string name)) (p2 : w.cell? ⟨bd, 0, none⟩ = some (.string data)) (p3 : w.cell? ⟨bt, 0, none⟩ = some (.int .i64 tm)) :
    Calls Try.prog 66 #[.pointer (some ⟨bd, 0, none⟩), .pointer (some ⟨bt, 0, none⟩), .pointer (some ⟨bk, 0, none⟩), .pointer (some ⟨bn, 0, none⟩)] w fun e w' => ∃ er, e = .returned (.int .i64 er) ∧ er = 0 ∧ (∃ ck, BucketAt k f c m (setO name data tm clock os) A ck w') ∧ Turn (fun i => i = m) w w' := by
  have c1 := h.c1
  have hst := fun W (hm : MapIs m (os.map Ob.en) clock W) => run_store (P := Try.prog) (w := W) Try.underlying53 Try.underlying9 hm name (oval data tm)
  have hst2 := hst w.drew h.map
  obtain ⟨ck, hck⟩ : ∃ ck, ck = if (lookE name (os.map Ob.en)).isSome then clock else clock + 1 := ⟨_, rfl⟩
  rw [← hck] at hst2
  obtain ⟨W1, hW1⟩ : ∃ W1, W1 = World.putMap w.drew m (setE name (oval data tm) clock (os.map Ob.en)) ck := ⟨_, rfl⟩
  rw [← hW1] at hst2
  have HK := Lib.hid hck; have HW := Lib.hid hW1
  unfold oval at hst2
  clear hst hck hW1
  go_enter Try.func66, Try.ntmps66
  go_wp2_with fail
  go_region
  go_wp2
  go_ret
  have ht : Turn (fun i => i = m) w W1 := by rw [HW.out]; exact (Turn.refl _ w).drew.trans (turn_put (S := fun i => i = m) rfl _ _)
  refine ⟨0, rfl, rfl, ⟨ck, h.mapped ht ?_ (set_nodupO _ _ _ _ _ h.names) ?_⟩, ht⟩
  · have := mapIs_put (w := w.drew) (m := m) h.mlt (setE name (oval data tm) clock (os.map Ob.en)) ck
    rw [← HW.out, set_enO] at this
    exact this
  · have := h.stamps.set name data tm
    rw [HK.out, look_enO]
    simpa using this
end Go.Proofs.Ytnjoojffefhgpaa
