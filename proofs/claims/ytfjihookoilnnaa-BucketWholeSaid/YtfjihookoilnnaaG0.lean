/- Layer 5's buckets: what they hold; Do at the closures of Put and Delete. -/
import Derived.Test.YtfjihookoilnnaaD10
namespace Go.Proofs.Ytfjihookoilnnaa
open Go.Conc Go.RowKit

/-- An object: its name, its bytes, when it was put. -/
structure Ob where
  name : ByteArray
  data : ByteArray
  tm : Int
  born : Nat
def oval (d : ByteArray) (t : Int) : Value := .agg #[.string d, .int .i64 t]
def Ob.en (x : Ob) : En := ⟨x.name, oval x.data x.tm, x.born⟩
def lookO (k : ByteArray) : List Ob → Option Ob
  | [] => none
  | e :: es => if k = e.name then some e else lookO k es
def setO (k d : ByteArray) (t : Int) (b : Nat) : List Ob → List Ob
  | [] => [⟨k, d, t, b⟩]
  | e :: es => if k = e.name then { e with data := d, tm := t } :: es else e :: setO k d t b es
def delO (k : ByteArray) : List Ob → List Ob
  | [] => []
  | e :: es => if k = e.name then es else e :: delO k es
theorem look_enO (k : ByteArray) : ∀ os : List Ob, lookE k (os.map Ob.en) = (lookO k os).map Ob.en
  | [] => rfl
  | e :: es => by
    have := look_enO k es
    simp only [List.map_cons, lookE, lookO]
    by_cases h : k = e.name
    · simp [Ob.en, h]
    · rw [if_neg (by simpa [Ob.en] using h), if_neg h, this]
theorem set_enO (k d : ByteArray) (t : Int) (b : Nat) : ∀ os : List Ob, setE k (oval d t) b (os.map Ob.en) = (setO k d t b os).map Ob.en
  | [] => rfl
  | e :: es => by
    have := set_enO k d t b es
    simp only [List.map_cons, setE, setO]
    by_cases h : k = e.name
    · simp [Ob.en, h]
    · rw [if_neg (by simpa [Ob.en] using h), if_neg h, this]; rfl
theorem del_enO (k : ByteArray) : ∀ os : List Ob, delE k (os.map Ob.en) = (delO k os).map Ob.en
  | [] => rfl
  | e :: es => by
    have := del_enO k es
    simp only [List.map_cons, delE, delO]
    by_cases h : k = e.name
    · simp [Ob.en, h]
    · rw [if_neg (by simpa [Ob.en] using h), if_neg h, this]; rfl
theorem look_memO (k : ByteArray) : ∀ (os : List Ob) (x : Ob), lookO k os = some x → x ∈ os ∧ x.name = k
  | [], x, h => by cases h
  | e :: es, x, h => by
    unfold lookO at h
    by_cases hk : k = e.name
    · rw [if_pos hk] at h
      cases h
      exact ⟨List.mem_cons_self, hk.symm⟩
    · rw [if_neg hk] at h
      have := look_memO k es x h
      exact ⟨List.mem_cons_of_mem _ this.1, this.2⟩
theorem look_noneO (k : ByteArray) : ∀ os : List Ob, lookO k os = none ↔ k ∉ os.map (·.name)
  | [] => by simp [lookO]
  | e :: es => by
    have ih := look_noneO k es
    unfold lookO
    by_cases hk : k = e.name
    · simp [hk]
    · rw [if_neg hk, ih, List.map_cons, List.mem_cons, not_or]
      exact ⟨fun h => ⟨hk, h⟩, fun h => h.2⟩
theorem set_namesO (k d : ByteArray) (t : Int) (b : Nat) : ∀ os : List Ob, ∀ n, n ∈ (setO k d t b os).map (·.name) → n = k ∨ n ∈ os.map (·.name)
  | [], n, h => by simp [setO] at h; exact .inl h
  | e :: es, n, h => by
    unfold setO at h
    by_cases hk : k = e.name
    · rw [if_pos hk] at h; exact .inr h
    · rw [if_neg hk, List.map_cons, List.mem_cons] at h
      rcases h with h | h
      · exact .inr (by rw [h]; simp)
      · rcases set_namesO k d t b es n h with h | h
        · exact .inl h
        · exact .inr (List.mem_cons_of_mem _ h)
theorem set_nodupO (k d : ByteArray) (t : Int) (b : Nat) : ∀ os : List Ob, (os.map (·.name)).Nodup → ((setO k d t b os).map (·.name)).Nodup
  | [], _ => by simp [setO]
  | e :: es, h => by
    unfold setO
    rw [List.map_cons, List.nodup_cons] at h
    by_cases hk : k = e.name
    · rw [if_pos hk, List.map_cons, List.nodup_cons]; exact h
    · rw [if_neg hk, List.map_cons, List.nodup_cons]
      refine ⟨fun hm => ?_, set_nodupO k d t b es h.2⟩
      rcases set_namesO k d t b es _ hm with h1 | h1
      · exact hk h1.symm
      · exact h.1 h1
theorem del_subO (k : ByteArray) : ∀ os : List Ob, (delO k os).Sublist os
  | [] => List.Sublist.refl _
  | e :: es => by
    unfold delO
    by_cases h : k = e.name
    · rw [if_pos h]; exact List.sublist_cons_self _ _
    · rw [if_neg h]; exact (del_subO k es).cons_cons _
theorem look_setO (k n d : ByteArray) (t : Int) (b : Nat) : ∀ os : List Ob, (lookO n (setO k d t b os)).map (fun x => (x.data, x.tm)) = if n = k then some (d, t) else (lookO n os).map fun x => (x.data, x.tm)
  | [] => by
    by_cases h : n = k <;> simp [setO, lookO, h]
  | e :: es => by
    have ih := look_setO k n d t b es
    unfold setO
    by_cases hk : k = e.name
    · rw [if_pos hk]
      simp only [lookO]
      by_cases hn : n = e.name
      · rw [if_pos hn, if_pos (hn.trans hk.symm)]; rfl
      · rw [if_neg hn, if_neg hn, if_neg (fun h => hn (h.trans hk))]
    · rw [if_neg hk]
      simp only [lookO]
      by_cases hn : n = e.name
      · rw [if_pos hn, if_pos hn, if_neg (fun h => hk (h.symm.trans hn))]
      · rw [if_neg hn, if_neg hn, ih]
theorem look_delO (k n : ByteArray) : ∀ os : List Ob, (os.map (·.name)).Nodup → lookO n (delO k os) = if n = k then none else lookO n os
  | [], _ => by simp [delO, lookO]
  | e :: es, hd => by
    rw [List.map_cons, List.nodup_cons] at hd
    have ih := look_delO k n es hd.2
    unfold delO
    by_cases hk : k = e.name
    · rw [if_pos hk]
      by_cases hn : n = k
      · rw [if_pos hn, look_noneO, hn, hk]
        exact hd.1
      · rw [if_neg hn]
        simp only [lookO]
        rw [if_neg (fun h => hn (h.trans hk.symm))]
    · rw [if_neg hk]
      simp only [lookO]
      by_cases hn : n = e.name
      · rw [if_pos hn, if_pos hn, if_neg (fun h => hk (h.symm.trans hn))]
      · rw [if_neg hn, if_neg hn, ih]

def StampsO (os : List Ob) (clock : Nat) : Prop := (∀ x ∈ os, x.born < clock) ∧ (os.map (·.born)).Nodup
theorem set_bornO (k d : ByteArray) (t : Int) (b : Nat) : ∀ os : List Ob, (setO k d t b os).map (·.born) = if (lookO k os).isSome then os.map (·.born) else os.map (·.born) ++ [b]
  | [] => rfl
  | e :: es => by
    have := set_bornO k d t b es
    unfold setO lookO
    by_cases hk : k = e.name
    · rw [if_pos hk, if_pos hk]; rfl
    · rw [if_neg hk, if_neg hk, List.map_cons, this]
      split <;> simp
theorem StampsO.set {os : List Ob} {clock : Nat} (h : StampsO os clock) (k d : ByteArray) (t : Int) : StampsO (setO k d t clock os) (if (lookO k os).isSome then clock else clock + 1) := by
  have hb := set_bornO k d t clock os
  have hall : ∀ x ∈ setO k d t clock os, x.born ∈ (if (lookO k os).isSome then os.map (·.born) else os.map (·.born) ++ [clock]) := fun x hx => by
    rw [← hb]; exact List.mem_map.2 ⟨x, hx, rfl⟩
  refine ⟨fun x hx => ?_, ?_⟩
  · have := hall x hx
    split at this
    · rename_i hs
      rw [if_pos hs]
      obtain ⟨y, hy, he⟩ := List.mem_map.1 this
      rw [← he]; exact h.1 y hy
    · rename_i hs
      rw [if_neg hs]
      rw [List.mem_append, List.mem_singleton] at this
      rcases this with this | this
      · obtain ⟨y, hy, he⟩ := List.mem_map.1 this
        have := h.1 y hy
        omega
      · omega
  · rw [hb]
    split
    · exact h.2
    · rw [List.nodup_append]
      refine ⟨h.2, by simp, fun a ha b hb' => ?_⟩
      obtain ⟨y, hy, he⟩ := List.mem_map.1 ha
      have h1 := h.1 y hy
      rw [List.mem_singleton] at hb'
      omega
theorem StampsO.del {os : List Ob} {clock : Nat} (h : StampsO os clock) (k : ByteArray) : StampsO (delO k os) clock :=
  ⟨fun x hx => h.1 x ((del_subO k os).subset hx), h.2.sublist ((del_subO k os).map _)⟩

/-- A bucket lies in block k, its fuse in f and c, its map in m. -/
structure BucketAt (k f c m : Nat) (os : List Ob) (A : List Ft) (clock : Nat) (w : World) : Prop where
  klt : k < w.heap.size
  mlt : m < w.heap.size
  kf : k ≠ f
  kc : k ≠ c
  km : k ≠ m
  fm : f ≠ m
  cm : c ≠ m
  c0 : w.cell? ⟨k, 0, none⟩ = some (.pointer (some ⟨f, 0, none⟩))
  c1 : w.cell? ⟨k, 1, none⟩ = some (.map (some m))
  fuse : Holds f c A w
  map : MapIs m (os.map Ob.en) clock w
  names : (os.map (·.name)).Nodup
  stamps : StampsO os clock
theorem Holds.lts {f c : Nat} {A : List Ft} {w : World} (h : Holds f c A w) : f < w.heap.size ∧ c < w.heap.size := by
  obtain ⟨L, a, n, h, _⟩ := h
  exact ⟨h.lt, h.clt⟩
/-- What a call on a bucket may turn. -/
abbrev Mb (f c m : Nat) : Nat → Prop := fun i => i = f ∨ i = c ∨ i = m
theorem BucketAt.below {k f c m : Nat} {os : List Ob} {A : List Ft} {clock : Nat} {w w' : World} (h : BucketAt k f c m os A clock w) (b : Below w.heap.size w w') : BucketAt k f c m os A clock w' := by
  have t : Turn (fun _ => False) w w' := Turn.of_below b
  exact ⟨Nat.lt_of_lt_of_le h.klt b.size, Nat.lt_of_lt_of_le h.mlt b.size, h.kf, h.kc, h.km, h.fm, h.cm, (b.cell (p := ⟨k, 0, none⟩) h.klt).trans h.c0, (b.cell (p := ⟨k, 1, none⟩) h.klt).trans h.c1,
    h.fuse.turn t (fun h => h) (fun h => h), h.map.turn t (fun h => h), h.names, h.stamps⟩
theorem BucketAt.tried {k f c m : Nat} {os : List Ob} {A A' : List Ft} {clock : Nat} {w w' : World} (h : BucketAt k f c m os A clock w) (t : Turn (Own f c) w w') (hA : Holds f c A' w') : BucketAt k f c m os A' clock w' := by
  have hn : ¬ Own f c k := by have := h.kf; have := h.kc; rintro (e | e) <;> omega
  have hm : ¬ Own f c m := by have := h.fm; have := h.cm; rintro (e | e) <;> omega
  exact ⟨Nat.lt_of_lt_of_le h.klt t.size, Nat.lt_of_lt_of_le h.mlt t.size, h.kf, h.kc, h.km, h.fm, h.cm, (t.cell (p := ⟨k, 0, none⟩) h.klt hn).trans h.c0, (t.cell (p := ⟨k, 1, none⟩) h.klt hn).trans h.c1,
    hA, h.map.turn t hm, h.names, h.stamps⟩
/-- The map alone was turned. -/
theorem BucketAt.mapped {k f c m : Nat} {os os' : List Ob} {A : List Ft} {clock clock' : Nat} {w w' : World} (h : BucketAt k f c m os A clock w) (t : Turn (fun i => i = m) w w') (hm : MapIs m (os'.map Ob.en) clock' w') (hn : (os'.map (·.name)).Nodup) (hs : StampsO os' clock') : BucketAt k f c m os' A clock' w' :=
  ⟨Nat.lt_of_lt_of_le h.klt t.size, Nat.lt_of_lt_of_le h.mlt t.size, h.kf, h.kc, h.km, h.fm, h.cm, (t.cell (p := ⟨k, 0, none⟩) h.klt h.km).trans h.c0, (t.cell (p := ⟨k, 1, none⟩) h.klt h.km).trans h.c1,
    h.fuse.turn t h.fm h.cm, hm, hn, hs⟩
theorem zero_obj (w : World) : (zeroValue 105).run Try.prog w = .ok (oval ByteArray.empty 0) w := by kernel_rfl

set_option maxRecDepth 100000 in
theorem do_put (f c : Nat) (caps : Array Value) (A : List Ft) (w : World) (Q : World → Int → World → Prop) (h : Holds f c A w)
    (act : ∀ W, Holds f c (tryL A).2 W → Turn (Own f c) w W → Calls Try.prog 52 caps W fun e w' => ∃ er, e = .returned (.int .i64 er) ∧ Q W er w') :
    Calls Try.prog 32 #[.pointer (some ⟨f, 0, none⟩), .func (.func 52) #[] caps] w (Did f c A w Q) := by
  have HT := Lib.hid (try_any f c A w h)
  have HA := Lib.hid act
  clear act
  unfold Did
  rcases hr : (tryL A) with ⟨⟨works, done⟩, A'⟩
  rw [hr] at HT HA
  simp only
  cases done
  · cases works
    all_goals
      go_enter Try.func32, Try.ntmps32
      go_wp2_with fail
      refine HT.out.mono ?_
      rintro e w1 ⟨rfl, h1, t1⟩
      go_wp2
      go_ret
      exact ⟨w1, h1, t1, rfl, rfl⟩
  · cases works
    all_goals
      go_enter Try.func32, Try.ntmps32
      go_wp2_with fail
      refine HT.out.mono ?_
      rintro e w1 ⟨rfl, h1, t1⟩
      have C := Lib.hid (HA.out w1 h1 t1)
      go_wp2_with fail
      refine C.out.mono ?_
      rintro e w2 ⟨er, rfl, hq⟩
      by_cases h0 : er = 0
      · subst h0
        go_wp2
        go_ret
        exact ⟨w1, h1, t1, 0, hq, rfl⟩
      · have hd : (er != 0) = true := by simpa using h0
        go_wp2
        go_ret
        refine ⟨w1, h1, t1, er, hq, ?_⟩
        rw [if_neg h0]
        rfl

set_option maxRecDepth 100000 in
theorem do_delete (f c : Nat) (caps : Array Value) (A : List Ft) (w : World) (Q : World → Int → World → Prop) (h : Holds f c A w)
    (act : ∀ W, Holds f c (tryL A).2 W → Turn (Own f c) w W → Calls Try.prog 53 caps W fun e w' => ∃ er, e = .returned (.int .i64 er) ∧ Q W er w') :
    Calls Try.prog 32 #[.pointer (some ⟨f, 0, none⟩), .func (.func 53) #[] caps] w (Did f c A w Q) := by
  have HT := Lib.hid (try_any f c A w h)
  have HA := Lib.hid act
  clear act
  unfold Did
  rcases hr : (tryL A) with ⟨⟨works, done⟩, A'⟩
  rw [hr] at HT HA
  simp only
  cases done
  · cases works
    all_goals
      go_enter Try.func32, Try.ntmps32
      go_wp2_with fail
      refine HT.out.mono ?_
      rintro e w1 ⟨rfl, h1, t1⟩
      go_wp2
      go_ret
      exact ⟨w1, h1, t1, rfl, rfl⟩
  · cases works
    all_goals
      go_enter Try.func32, Try.ntmps32
      go_wp2_with fail
      refine HT.out.mono ?_
      rintro e w1 ⟨rfl, h1, t1⟩
      have C := Lib.hid (HA.out w1 h1 t1)
      go_wp2_with fail
      refine C.out.mono ?_
      rintro e w2 ⟨er, rfl, hq⟩
      by_cases h0 : er = 0
      · subst h0
        go_wp2
        go_ret
        exact ⟨w1, h1, t1, 0, hq, rfl⟩
      · have hd : (er != 0) = true := by simpa using h0
        go_wp2
        go_ret
        refine ⟨w1, h1, t1, er, hq, ?_⟩
        rw [if_neg h0]
        rfl
end Go.Proofs.Ytfjihookoilnnaa
