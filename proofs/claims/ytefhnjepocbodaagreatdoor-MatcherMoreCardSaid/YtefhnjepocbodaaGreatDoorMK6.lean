/- Layer 12: whose memory is whose in an index; what a step leaves. Lists of entries with keys: what is looked up, put, taken out (plain maths); they are a map's entries. -/
import Derived.Test.YtefhnjepocbodaaGreatDoorMK4
import Derived.Test.YtefhnjepocbodaaGreatDoorMTF
namespace Go.Proofs.YtefhnjepocbodaaGreatDoor
open Go.RowKit Go.Lib

/-- Which part of an index a block is. -/
inductive Tag where
  | box
  | having
  | labels
  | all
  | inner (x : List UInt8)
  | list (x y : List UInt8)
  | lab (n : Int)
/-- Blocks and what they are of. -/
abbrev Own := Nat → Option Tag

/-- A step: blocks of some parts are turned, and new ones may be there; none changes hands. -/
structure Stp (T : Tag → Prop) (o o' : Own) (w w' : World) : Prop where
  turn : Turn (fun k => ∃ t, o k = some t ∧ T t) w w'
  keep : ∀ k t, o k = some t → o' k = some t
  new : ∀ k t, o' k = some t → o k = some t ∨ (w.heap.size ≤ k ∧ k < w'.heap.size ∧ T t)

/-- Blocks that are somebody's are there. -/
def OwnLt (base : Nat) (o : Own) (w : World) : Prop := ∀ k t, o k = some t → base ≤ k ∧ k < w.heap.size

theorem Stp.refl (T : Tag → Prop) (o : Own) (w : World) : Stp T o o w w := ⟨Turn.refl _ _, fun _ _ h => h, fun _ _ h => .inl h⟩
theorem Stp.lt {T : Tag → Prop} {base : Nat} {o o' : Own} {w w' : World} (s : Stp T o o' w w') (h : OwnLt base o w) (hb : base ≤ w.heap.size) : OwnLt base o' w' := fun k t hk => by
  have := s.turn.size
  rcases s.new k t hk with h1 | ⟨h1, h2, _⟩
  · have := h k t h1; omega
  · omega
theorem Stp.trans {T : Tag → Prop} {o o' o'' : Own} {w w' w'' : World} (s : Stp T o o' w w') (s' : Stp T o' o'' w' w'') : Stp T o o'' w w'' := by
  refine ⟨turn_then s.turn s'.turn ?_, fun k t h => s'.keep k t (s.keep k t h), fun k t h => ?_⟩
  · rintro k hk ⟨t, h1, h2⟩
    rcases s.new k t h1 with h | ⟨h, _, _⟩
    · exact ⟨t, h, h2⟩
    · omega
  · have := s.turn.size
    have := s'.turn.size
    rcases s'.new k t h with h1 | ⟨h1, h2, h3⟩
    · rcases s.new k t h1 with h | ⟨h, h4, h5⟩
      · exact .inl h
      · exact .inr ⟨h, by omega, h5⟩
    · exact .inr ⟨by omega, h2, h3⟩
theorem Stp.mono {T T' : Tag → Prop} {o o' : Own} {w w' : World} (s : Stp T o o' w w') (h : ∀ t, T t → T' t) : Stp T' o o' w w' :=
  ⟨s.turn.mono (fun _ ⟨t, h1, h2⟩ => ⟨t, h1, h t h2⟩), s.keep, fun k t hk => (s.new k t hk).imp id fun ⟨h1, h2, h3⟩ => ⟨h1, h2, h t h3⟩⟩
theorem Stp.below {T : Tag → Prop} {o : Own} {w w' : World} (b : Below w.heap.size w w') : Stp T o o w w' := ⟨Turn.of_below b, fun _ _ h => h, fun _ _ h => .inl h⟩
theorem Stp.alloc {T : Tag → Prop} {o o' : Own} {w w' : World} (s : Stp T o o' w w') (b : Obj) : Stp T o o' w (w'.alloc b) :=
  s.trans (Stp.below ((Below.refl _ _).alloc (Nat.le_refl _) b))
theorem Stp.drew {T : Tag → Prop} {o o' : Own} {w w' : World} (s : Stp T o o' w w') : Stp T o o' w w'.drew := ⟨s.turn.drew, s.keep, s.new⟩
/-- One block of a part is turned. -/
theorem Stp.one {o : Own} {w w' : World} {g : Nat} {t : Tag} (hg : o g = some t) (h : Turn (fun k => k = g) w w') : Stp (fun u => u = t) o o w w' :=
  ⟨h.mono fun k e => ⟨t, by rw [e]; exact hg, rfl⟩, fun _ _ h => h, fun _ _ h => .inl h⟩

/-- A block that is of a part which isn't turned is as it was. -/
theorem Stp.block {T : Tag → Prop} {o o' : Own} {w w' : World} (s : Stp T o o' w w') {k : Nat} {t : Tag} (hk : o k = some t) (hT : ¬ T t) (hl : k < w.heap.size) : w'.heap[k]? = w.heap[k]? :=
  s.turn.block k hl fun ⟨u, h1, h2⟩ => hT (by rw [hk] at h1; cases h1; exact h2)
/-- So is one that is of no part. -/
theorem Stp.block' {T : Tag → Prop} {o o' : Own} {w w' : World} (s : Stp T o o' w w') {k : Nat} (hk : o k = none) (hl : k < w.heap.size) : w'.heap[k]? = w.heap[k]? :=
  s.turn.block k hl fun ⟨u, h1, _⟩ => by rw [hk] at h1; cases h1

/-- A slice in memory that is a part of the index. -/
def SlO (base : Nat) (o : Own) (t : Tag) (w : World) (size : Nat) (v : Value) (n : Nat) (xs : List Value) : Prop :=
  Sl w base size v n xs ∧ ∀ k, v.ownBlock = some k → o k = some t
theorem SlO.step {T : Tag → Prop} {o o' : Own} {t : Tag} {w w' : World} {base size n : Nat} {v : Value} {xs : List Value} (h : SlO base o t w size v n xs) (s : Stp T o o' w w') (hT : ¬ T t) : SlO base o' t w' size v n xs :=
  ⟨h.1.same s.turn.size fun k hk => s.block (h.2 k hk) hT (h.1.lt k hk).2, fun k hk => s.keep k t (h.2 k hk)⟩
theorem SlO.nil (base size : Nat) (o : Own) (t : Tag) (w : World) : SlO base o t w size (.slice none 0 0) 0 [] := ⟨Sl.nil _ _ _, fun _ h => by cases h⟩

/-- A slice that came in its own memory or in new memory. -/
theorem own_new {base size n n' : Nat} {o : Own} {t : Tag} {w w' : World} {v v' : Value} {xs xs' : List Value} (h : SlO base o t w size v n xs) (hl : OwnLt base o w)
    (h' : Sl w' base size v' n' xs') (ht : Turn (fun k => v.ownBlock = some k) w w') (hk : ∀ k, v'.ownBlock = some k → v.ownBlock = some k ∨ w.heap.size ≤ k) :
    ∃ o', Stp (fun u => u = t) o o' w w' ∧ SlO base o' t w' size v' n' xs' := by
  classical
  refine ⟨fun k => if v'.ownBlock = some k then some t else o k, ⟨ht.mono fun k e => ⟨t, h.2 k e, rfl⟩, fun k u hu => ?_, fun k u hu => ?_⟩, h', fun k hk' => by simp only [hk', if_true]⟩
  · by_cases e : v'.ownBlock = some k
    · rw [if_pos e]
      rcases hk k e with h1 | h1
      · rw [← hu]; exact (h.2 k h1).symm
      · have := (hl k u hu).2; omega
    · rw [if_neg e]; exact hu
  · by_cases e : v'.ownBlock = some k
    · rw [if_pos e] at hu
      cases hu
      rcases hk k e with h1 | h1
      · exact .inl (h.2 k h1)
      · exact .inr ⟨h1, (h'.lt k e).2, rfl⟩
    · rw [if_neg e] at hu; exact .inl hu
theorem LW.own {base : Nat} {o : Own} {t : Tag} {w w' : World} {v : Value} {l l' : List Int} {e : Ending} (h : LW w base v l' e w') (hs : SlO base o t w 1 v l.length (ic l)) (hl : OwnLt base o w) :
    ∃ v' o', e = .returned v' ∧ Stp (fun u => u = t) o o' w w' ∧ SlO base o' t w' 1 v' l'.length (ic l') := by
  obtain ⟨v', rfl, h1, h2, h3⟩ := h
  obtain ⟨o', a, b⟩ := own_new hs hl h1 h2 h3
  exact ⟨v', o', rfl, a, b⟩
theorem Ext.own {base size n n' : Nat} {o : Own} {t : Tag} {w w' : World} {v v' : Value} {xs xs' : List Value} (h : Ext base size w v n xs w' v' n' xs') (hs : SlO base o t w size v n xs) (hl : OwnLt base o w) :
    ∃ o', Stp (fun u => u = t) o o' w w' ∧ SlO base o' t w' size v' n' xs' := by
  refine own_new hs hl h.now ⟨h.grown.os, h.grown.tape, h.grown.output, h.grown.size, fun k hk hne => h.grown.block k hk fun e => hne e.symm⟩ fun k hk => ?_
  rcases h.alias with ⟨a, cap, h1, h2, _⟩ | h
  · exact .inl (by rw [h1]; rw [h2] at hk; cases a <;> exact hk)
  · exact .inr (h k hk)
end Go.Proofs.YtefhnjepocbodaaGreatDoor

namespace Go.Proofs.YtefhnjepocbodaaGreatDoor
open Go.RowKit Go.Lib

section
variable {α κ : Type} [DecidableEq κ] (key : α → κ)
def lookK (k : κ) : List α → Option α
  | [] => none
  | a :: l => if k = key a then some a else lookK k l
def putK (k : κ) (f : α → α) (b : α) : List α → List α
  | [] => [b]
  | a :: l => if k = key a then f a :: l else a :: putK k f b l
def delK (k : κ) : List α → List α
  | [] => []
  | a :: l => if k = key a then l else a :: delK k l

theorem lookK_mem {k : κ} {a : α} : ∀ {l : List α}, lookK key k l = some a → a ∈ l ∧ key a = k
  | [], h => by cases h
  | c :: l, h => by
    unfold lookK at h
    split at h
    · rename_i e; cases h; exact ⟨by simp, e.symm⟩
    · have := lookK_mem h; exact ⟨by simp [this.1], this.2⟩
theorem lookK_none {k : κ} : ∀ {l : List α}, lookK key k l = none ↔ ∀ a ∈ l, key a ≠ k
  | [] => by simp [lookK]
  | c :: l => by
    unfold lookK
    split
    · rename_i e; simp [e]
    · rename_i e
      rw [lookK_none]
      simp only [List.mem_cons, forall_eq_or_imp]
      exact ⟨fun h => ⟨fun e' => e e'.symm, h⟩, fun h => h.2⟩
theorem lookK_of_mem {a : α} : ∀ {l : List α}, (l.map key).Nodup → a ∈ l → lookK key (key a) l = some a
  | c :: l, hn, ha => by
    rw [List.map_cons, List.nodup_cons] at hn
    unfold lookK
    rcases List.mem_cons.1 ha with rfl | h
    · rw [if_pos rfl]
    · rw [if_neg (fun e => hn.1 (by rw [← e]; exact List.mem_map_of_mem h))]
      exact lookK_of_mem hn.2 h
theorem putK_mem {k : κ} {f : α → α} {b a : α} : ∀ {l : List α}, (l.map key).Nodup → a ∈ putK key k f b l → (a ∈ l ∧ key a ≠ k) ∨ (∃ c, lookK key k l = some c ∧ a = f c) ∨ (lookK key k l = none ∧ a = b)
  | [], _, h => by simp [putK] at h; exact .inr (.inr ⟨rfl, h⟩)
  | c :: l, hn, h => by
    rw [List.map_cons, List.nodup_cons] at hn
    unfold putK at h
    unfold lookK
    by_cases e : k = key c
    · rw [if_pos e] at h ⊢
      rcases List.mem_cons.1 h with rfl | h
      · exact .inr (.inl ⟨c, rfl, rfl⟩)
      · exact .inl ⟨by simp [h], fun e' => hn.1 (by rw [← e, ← e']; exact List.mem_map_of_mem h)⟩
    · rw [if_neg e] at h ⊢
      rcases List.mem_cons.1 h with rfl | h
      · exact .inl ⟨by simp, fun e' => e e'.symm⟩
      · rcases putK_mem hn.2 h with h | h
        · exact .inl ⟨by simp [h.1], h.2⟩
        · exact .inr h
theorem putK_keys {k : κ} {f : α → α} {b : α} (hf : ∀ a, key (f a) = key a) (hb : key b = k) : ∀ (l : List α), (putK key k f b l).map key = if (lookK key k l).isSome then l.map key else l.map key ++ [k]
  | [] => by simp [putK, lookK, hb]
  | c :: l => by
    unfold putK lookK
    by_cases e : k = key c
    · rw [if_pos e, if_pos e]; simp [hf]
    · rw [if_neg e, if_neg e, List.map_cons, putK_keys hf hb l]
      split <;> simp
theorem putK_nodup {k : κ} {f : α → α} {b : α} (hf : ∀ a, key (f a) = key a) (hb : key b = k) {l : List α} (hn : (l.map key).Nodup) : ((putK key k f b l).map key).Nodup := by
  rw [putK_keys key hf hb]
  split
  · exact hn
  · rename_i h
    have h : lookK key k l = none := by simpa using h
    rw [List.nodup_append]
    refine ⟨hn, by simp, fun x hx y hy e => ?_⟩
    rw [List.mem_singleton] at hy
    obtain ⟨a, ha, rfl⟩ := List.mem_map.1 hx
    exact (lookK_none key).1 h a ha (e.trans hy)
theorem lookK_put {k k' : κ} {f : α → α} {b : α} (hf : ∀ a, key (f a) = key a) (hb : key b = k) : ∀ (l : List α), lookK key k' (putK key k f b l) = if k' = k then some (((lookK key k l).map f).getD b) else lookK key k' l
  | [] => by simp [putK, lookK, hb]
  | c :: l => by
    unfold putK
    by_cases e : k = key c
    · rw [if_pos e]
      by_cases e' : k' = k
      · subst e'; simp [lookK, hf, ← e]
      · rw [if_neg e']; simp [lookK, hf, ← e, e']
    · rw [if_neg e]
      by_cases e' : k' = k
      · subst e'
        rw [if_pos rfl]
        conv => lhs; unfold lookK
        rw [if_neg e, lookK_put hf hb l, if_pos rfl]
        conv => rhs; unfold lookK
        rw [if_neg e]
      · rw [if_neg e']
        unfold lookK
        by_cases e2 : k' = key c
        · rw [if_pos e2, if_pos e2]
        · rw [if_neg e2, if_neg e2, lookK_put hf hb l, if_neg e']
theorem delK_mem {k : κ} {a : α} : ∀ {l : List α}, (l.map key).Nodup → (a ∈ delK key k l ↔ a ∈ l ∧ key a ≠ k)
  | [], _ => by simp [delK]
  | c :: l, hn => by
    rw [List.map_cons, List.nodup_cons] at hn
    unfold delK
    by_cases e : k = key c
    · rw [if_pos e]
      constructor
      · exact fun h => ⟨by simp [h], fun e' => hn.1 (by rw [← e, ← e']; exact List.mem_map_of_mem h)⟩
      · rintro ⟨h, h2⟩
        rcases List.mem_cons.1 h with rfl | h
        · exact absurd e.symm h2
        · exact h
    · rw [if_neg e, List.mem_cons, List.mem_cons, delK_mem hn.2]
      constructor
      · rintro (rfl | h)
        · exact ⟨.inl rfl, fun e' => e e'.symm⟩
        · exact ⟨.inr h.1, h.2⟩
      · rintro ⟨rfl | h, h2⟩
        · exact .inl rfl
        · exact .inr ⟨h, h2⟩
theorem delK_sub {k : κ} : ∀ (l : List α), (delK key k l).Sublist l
  | [] => List.Sublist.refl _
  | c :: l => by
    unfold delK
    split
    · exact List.sublist_cons_self _ _
    · exact (delK_sub l).cons_cons _
theorem delK_nodup {k : κ} {l : List α} (hn : (l.map key).Nodup) : ((delK key k l).map key).Nodup := hn.sublist ((delK_sub key l).map key)
theorem lookK_del {k k' : κ} : ∀ {l : List α}, (l.map key).Nodup → lookK key k' (delK key k l) = if k' = k then none else lookK key k' l
  | [], _ => by simp [delK, lookK]
  | c :: l, hn => by
    rw [List.map_cons, List.nodup_cons] at hn
    unfold delK
    by_cases e : k = key c
    · rw [if_pos e]
      by_cases e' : k' = k
      · rw [if_pos e', lookK_none]
        exact fun a ha h => hn.1 (by rw [← e, ← e', ← h]; exact List.mem_map_of_mem ha)
      · rw [if_neg e']
        conv => rhs; unfold lookK
        rw [if_neg (by rw [← e]; exact e')]
    · rw [if_neg e]
      unfold lookK
      by_cases e2 : k' = key c
      · rw [if_pos e2, if_pos e2, if_neg (by rw [e2]; exact fun h => e h.symm)]
      · rw [if_neg e2, if_neg e2, lookK_del hn.2]
/-- When entries were made: each at a time of its own, all ahead of the map's clock. -/
def BornK (born : α → Nat) (c : Nat) (l : List α) : Prop := (∀ a ∈ l, born a < c) ∧ (l.map born).Nodup
theorem BornK.nil (born : α → Nat) (c : Nat) : BornK born c [] := ⟨(fun _ h => by cases h), List.nodup_nil⟩
theorem putK_borns {k : κ} {f : α → α} {b : α} (born : α → Nat) (hf : ∀ a, born (f a) = born a) : ∀ (l : List α), (putK key k f b l).map born = if (lookK key k l).isSome then l.map born else l.map born ++ [born b]
  | [] => by simp [putK, lookK]
  | c :: l => by
    unfold putK lookK
    by_cases e : k = key c
    · rw [if_pos e, if_pos e]; simp [hf]
    · rw [if_neg e, if_neg e, List.map_cons, putK_borns born hf l]
      split <;> simp
theorem BornK.put {k : κ} {f : α → α} {b : α} {born : α → Nat} {c : Nat} {l : List α} (h : BornK born c l) (hf : ∀ a, born (f a) = born a) (hb : born b = c) : BornK born (if (lookK key k l).isSome then c else c + 1) (putK key k f b l) := by
  have hm := putK_borns key (k := k) (f := f) (b := b) born hf l
  have hin : ∀ n ∈ l.map born, n < c := fun n hn => by obtain ⟨a, ha, rfl⟩ := List.mem_map.1 hn; exact h.1 a ha
  unfold BornK
  rw [hm]
  split
  · rename_i e
    rw [if_pos e] at hm
    exact ⟨fun a ha => hin _ (by rw [← hm]; exact List.mem_map_of_mem ha), h.2⟩
  · rename_i e
    rw [if_neg e] at hm
    refine ⟨fun a ha => ?_, ?_⟩
    · have : born a ∈ l.map born ++ [born b] := by rw [← hm]; exact List.mem_map_of_mem ha
      rcases List.mem_append.1 this with h1 | h1
      · have := hin _ h1; omega
      · rw [List.mem_singleton] at h1; omega
    · rw [List.nodup_append]
      refine ⟨h.2, by simp, fun x hx y hy e => ?_⟩
      rw [List.mem_singleton] at hy
      have := hin x hx
      omega
theorem BornK.del {k : κ} {born : α → Nat} {c : Nat} {l : List α} (h : BornK born c l) : BornK born c (delK key k l) :=
  ⟨fun a ha => h.1 a ((delK_sub key l).subset ha), h.2.sublist ((delK_sub key l).map born)⟩
end

theorem bs_eq {a b : List UInt8} : bs a = bs b ↔ a = b := ⟨fun h => by have := congrArg (fun s : ByteArray => s.data.toList) h; simpa [bs] using this, fun h => by rw [h]⟩

section
variable {α : Type} (key : α → List UInt8) (en : α → En)
theorem lookE_map (he : ∀ a, (en a).name = bs (key a)) (k : List UInt8) : ∀ l : List α, lookE (bs k) (l.map en) = (lookK key k l).map en
  | [] => rfl
  | a :: l => by
    rw [List.map_cons]
    unfold lookE lookK
    rw [he]
    by_cases e : k = key a
    · rw [if_pos (by rw [e]), if_pos e]; rfl
    · rw [if_neg (fun h => e (bs_eq.1 h)), if_neg e, lookE_map he k l]
theorem setE_map (he : ∀ a, (en a).name = bs (key a)) (k : List UInt8) (v : Value) (b : Nat) (f : α → α) (new : α) (hnew : en new = ⟨bs k, v, b⟩) :
    ∀ l : List α, (∀ a ∈ l, key a = k → en (f a) = { en a with val := v }) → setE (bs k) v b (l.map en) = (putK key k f new l).map en
  | [], _ => by simp [setE, putK, hnew]
  | a :: l, hf => by
    rw [List.map_cons]
    unfold setE putK
    by_cases e : k = key a
    · rw [if_pos (by rw [he, e]), if_pos e, List.map_cons, hf a (by simp) e.symm]
    · rw [if_neg (fun h => e (bs_eq.1 (h.trans (he a)))), if_neg e, List.map_cons, setE_map he k v b f new hnew l (fun a ha => hf a (by simp [ha]))]
theorem delE_map (he : ∀ a, (en a).name = bs (key a)) (k : List UInt8) : ∀ l : List α, delE (bs k) (l.map en) = (delK key k l).map en
  | [] => rfl
  | a :: l => by
    rw [List.map_cons]
    unfold delE delK
    rw [he]
    by_cases e : k = key a
    · rw [if_pos (by rw [e]), if_pos e]
    · rw [if_neg (fun h => e (bs_eq.1 h)), if_neg e, List.map_cons, delE_map he k l]
end
section
variable {α : Type} (key : α → Int) (en : α → EnJ)
theorem lookJ_map (he : ∀ a, (en a).name = key a) (k : Int) : ∀ l : List α, lookJ k (l.map en) = (lookK key k l).map en
  | [] => rfl
  | a :: l => by
    rw [List.map_cons]
    unfold lookJ lookK
    rw [he]
    by_cases e : k = key a
    · rw [if_pos e, if_pos e]; rfl
    · rw [if_neg e, if_neg e, lookJ_map he k l]
theorem setJ_map (he : ∀ a, (en a).name = key a) (k : Int) (v : Value) (b : Nat) (f : α → α) (new : α) (hnew : en new = ⟨k, v, b⟩) :
    ∀ l : List α, (∀ a ∈ l, key a = k → en (f a) = { en a with val := v }) → setJ k v b (l.map en) = (putK key k f new l).map en
  | [], _ => by simp [setJ, putK, hnew]
  | a :: l, hf => by
    rw [List.map_cons]
    unfold setJ putK
    by_cases e : k = key a
    · rw [if_pos (by rw [he, e]), if_pos e, List.map_cons, hf a (by simp) e.symm]
    · rw [if_neg (fun h => e (h.trans (he a))), if_neg e, List.map_cons, setJ_map he k v b f new hnew l (fun a ha => hf a (by simp [ha]))]
theorem delJ_map (he : ∀ a, (en a).name = key a) (k : Int) : ∀ l : List α, delJ k (l.map en) = (delK key k l).map en
  | [] => rfl
  | a :: l => by
    rw [List.map_cons]
    unfold delJ delK
    rw [he]
    by_cases e : k = key a
    · rw [if_pos e, if_pos e]
    · rw [if_neg e, if_neg e, List.map_cons, delJ_map he k l]
end
end Go.Proofs.YtefhnjepocbodaaGreatDoor
