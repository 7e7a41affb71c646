/- Layer 10: names that were seen, counted in a map. -/
import Derived.Test.YtkialkjhjenkhaaMMB
import Derived.Test.YtkialkjhjenkhaaMPL3
namespace Go.Proofs.Ytkialkjhjenkhaa
open Go.RowKit Go.Lib
set_option linter.unusedVariables false

theorem mapIs_lt {m clock : Nat} {es : List En} {w : World} (h : MapIs m es clock w) : m < w.heap.size := (Array.getElem?_eq_some_iff.1 h).1
theorem MapIs.turn {S : Nat → Prop} {m c : Nat} {es : List En} {w w' : World} (h : MapIs m es c w) (t : Turn S w w') (hS : ¬ S m) : MapIs m es c w' := (t.block m (mapIs_lt h) hS).trans h

section
variable {α κ : Type} [DecidableEq κ] (key : α → κ)
def lookK (k : κ) : List α → Option α
  | [] => none
  | a :: l => if k = key a then some a else lookK k l
def putK (k : κ) (f : α → α) (b : α) : List α → List α
  | [] => [b]
  | a :: l => if k = key a then f a :: l else a :: putK k f b l

theorem lookK_mem {k : κ} {a : α} : ∀ {l : List α}, lookK key k l = some a → a ∈ l ∧ key a = k
  | [], h => by cases h
  | c :: l, h => by
    unfold lookK at h
    split at h
    · rename_i e; cases h; exact ⟨by simp, e.symm⟩
    · have := lookK_mem h; exact ⟨by simp [this.1], this.2⟩
theorem lookK_none {k : κ} : ∀ {l : List α}, lookK key k l = none ↔ ∀ a ∈ l, key a ≠ k
  | [] => by simp [lookK]
  | c :: l => by
    unfold lookK
    split
    · rename_i e; simp [e]
    · rename_i e
      rw [lookK_none]
      simp only [List.mem_cons, forall_eq_or_imp]
      exact ⟨fun h => ⟨fun e' => e e'.symm, h⟩, fun h => h.2⟩
theorem lookK_of_mem {a : α} : ∀ {l : List α}, (l.map key).Nodup → a ∈ l → lookK key (key a) l = some a
  | c :: l, hn, ha => by
    rw [List.map_cons, List.nodup_cons] at hn
    unfold lookK
    rcases List.mem_cons.1 ha with rfl | h
    · rw [if_pos rfl]
    · rw [if_neg (fun e => hn.1 (by rw [← e]; exact List.mem_map_of_mem h))]
      exact lookK_of_mem hn.2 h
theorem putK_mem {k : κ} {f : α → α} {b a : α} : ∀ {l : List α}, (l.map key).Nodup → a ∈ putK key k f b l → (a ∈ l ∧ key a ≠ k) ∨ (∃ c, lookK key k l = some c ∧ a = f c) ∨ (lookK key k l = none ∧ a = b)
  | [], _, h => by simp [putK] at h; exact .inr (.inr ⟨rfl, h⟩)
  | c :: l, hn, h => by
    rw [List.map_cons, List.nodup_cons] at hn
    unfold putK at h
    unfold lookK
    by_cases e : k = key c
    · rw [if_pos e] at h ⊢
      rcases List.mem_cons.1 h with rfl | h
      · exact .inr (.inl ⟨c, rfl, rfl⟩)
      · exact .inl ⟨by simp [h], fun e' => hn.1 (by rw [← e, ← e']; exact List.mem_map_of_mem h)⟩
    · rw [if_neg e] at h ⊢
      rcases List.mem_cons.1 h with rfl | h
      · exact .inl ⟨by simp, fun e' => e e'.symm⟩
      · rcases putK_mem hn.2 h with h | h
        · exact .inl ⟨by simp [h.1], h.2⟩
        · exact .inr h
theorem putK_keys {k : κ} {f : α → α} {b : α} (hf : ∀ a, key (f a) = key a) (hb : key b = k) : ∀ (l : List α), (putK key k f b l).map key = if (lookK key k l).isSome then l.map key else l.map key ++ [k]
  | [] => by simp [putK, lookK, hb]
  | c :: l => by
    unfold putK lookK
    by_cases e : k = key c
    · rw [if_pos e, if_pos e]; simp [hf]
    · rw [if_neg e, if_neg e, List.map_cons, putK_keys hf hb l]
      split <;> simp
theorem putK_nodup {k : κ} {f : α → α} {b : α} (hf : ∀ a, key (f a) = key a) (hb : key b = k) {l : List α} (hn : (l.map key).Nodup) : ((putK key k f b l).map key).Nodup := by
  rw [putK_keys key hf hb]
  split
  · exact hn
  · rename_i h
    have h : lookK key k l = none := by simpa using h
    rw [List.nodup_append]
    refine ⟨hn, by simp, fun x hx y hy e => ?_⟩
    rw [List.mem_singleton] at hy
    obtain ⟨a, ha, rfl⟩ := List.mem_map.1 hx
    exact (lookK_none key).1 h a ha (e.trans hy)
theorem lookK_put {k k' : κ} {f : α → α} {b : α} (hf : ∀ a, key (f a) = key a) (hb : key b = k) : ∀ (l : List α), lookK key k' (putK key k f b l) = if k' = k then some (((lookK key k l).map f).getD b) else lookK key k' l
  | [] => by simp [putK, lookK, hb]
  | c :: l => by
    unfold putK
    by_cases e : k = key c
    · rw [if_pos e]
      by_cases e' : k' = k
      · subst e'; simp [lookK, hf, ← e]
      · rw [if_neg e']; simp [lookK, hf, ← e, e']
    · rw [if_neg e]
      by_cases e' : k' = k
      · subst e'
        rw [if_pos rfl]
        conv => lhs; unfold lookK
        rw [if_neg e, lookK_put hf hb l, if_pos rfl]
        conv => rhs; unfold lookK
        rw [if_neg e]
      · rw [if_neg e']
        unfold lookK
        by_cases e2 : k' = key c
        · rw [if_pos e2, if_pos e2]
        · rw [if_neg e2, if_neg e2, lookK_put hf hb l, if_neg e']
end

theorem bs_eq {a b : List UInt8} : bs a = bs b ↔ a = b := ⟨fun h => by have := congrArg (fun s : ByteArray => s.data.toList) h; simpa [bs] using this, fun h => by rw [h]⟩
section
variable {α : Type} (key : α → List UInt8) (en : α → En)
theorem lookE_map (he : ∀ a, (en a).name = bs (key a)) (k : List UInt8) : ∀ l : List α, lookE (bs k) (l.map en) = (lookK key k l).map en
  | [] => rfl
  | a :: l => by
    rw [List.map_cons]
    unfold lookE lookK
    rw [he]
    by_cases e : k = key a
    · rw [if_pos (by rw [e]), if_pos e]; rfl
    · rw [if_neg (fun h => e (bs_eq.1 h)), if_neg e, lookE_map he k l]
theorem setE_map (he : ∀ a, (en a).name = bs (key a)) (k : List UInt8) (v : Value) (b : Nat) (f : α → α) (new : α) (hnew : en new = ⟨bs k, v, b⟩) :
    ∀ l : List α, (∀ a ∈ l, key a = k → en (f a) = { en a with val := v }) → setE (bs k) v b (l.map en) = (putK key k f new l).map en
  | [], _ => by simp [setE, putK, hnew]
  | a :: l, hf => by
    rw [List.map_cons]
    unfold setE putK
    by_cases e : k = key a
    · rw [if_pos (by rw [he, e]), if_pos e, List.map_cons, hf a (by simp) e.symm]
    · rw [if_neg (fun h => e (bs_eq.1 (h.trans (he a)))), if_neg e, List.map_cons, setE_map he k v b f new hnew l (fun a ha => hf a (by simp [ha]))]
end

structure CEn where
  x : List UInt8
  c : Nat
  born : Nat
def CEn.en (e : CEn) : En := ⟨bs e.x, .int .i64 e.c, e.born⟩
theorem zv_int (w : World) : (zeroValue 3).run Try.prog w = .ok (.int .i64 0) w := by kernel_rfl
/-- A map that counts these names, each at most so often. -/
def SeenM (m : Nat) (N : List (List UInt8)) (j : Nat) (w : World) : Prop :=
  ∃ es ck, MapIs m (es.map CEn.en) ck w ∧ ∀ x, match lookK CEn.x x es with | none => x ∉ N | some e => x ∈ N ∧ 1 ≤ e.c ∧ e.c ≤ j
theorem SeenM.new {m : Nat} {w : World} (h : MapIs m [] 0 w) : SeenM m [] 0 w := ⟨[], 0, h, fun x => by simp [lookK]⟩
theorem SeenM.turn {S : Nat → Prop} {m j : Nat} {N : List (List UInt8)} {w w' : World} (h : SeenM m N j w) (t : Turn S w w') (hS : ¬ S m) : SeenM m N j w' := by
  obtain ⟨es, ck, h1, h2⟩ := h
  exact ⟨es, ck, h1.turn t hS, h2⟩
theorem SeenM.lt {m j : Nat} {N : List (List UInt8)} {w : World} (h : SeenM m N j w) : m < w.heap.size := by obtain ⟨es, ck, h1, h2⟩ := h; exact mapIs_lt h1
theorem SeenM.step {m j : Nat} {N : List (List UInt8)} {w : World} (h : SeenM m N j w) (x : List UInt8) :
    ∃ (c : Nat) (W : World), c ≤ j ∧ (c = 0 ↔ x ∉ N) ∧ (Instr.lookup 24 (.map (some m)) (.string (bs x)) false).run Try.prog w = .ok (.int .i64 c) w ∧
      (Instr.mapUpdate 24 (.map (some m)) (.string (bs x)) (.int .i64 ((c : Int) + 1))).run Try.prog w = .ok () W ∧ Turn (fun k => k = m) w W ∧
      (Instr.lookup 24 (.map (some m)) (.string (bs x)) false).run Try.prog W = .ok (.int .i64 ((c : Int) + 1)) W ∧ SeenM m (if x ∈ N then N else N ++ [x]) (j + 1) W := by
  obtain ⟨es, ck, h1, h2⟩ := h
  have l1 := run_look (P := Try.prog) Try.underlying24 Try.underlying9 (.int .i64 0) zv_int h1 (bs x) false
  rw [lookE_map CEn.x CEn.en (fun _ => rfl)] at l1
  obtain ⟨c, hc⟩ : ∃ c : Nat, c = ((lookK CEn.x x es).map CEn.c).getD 0 := ⟨_, rfl⟩
  have hv : ((((lookK CEn.x x es).map CEn.en).map (·.val)).getD (.int .i64 0)) = .int .i64 c := by
    rw [hc]; cases lookK CEn.x x es <;> rfl
  have hx := h2 x
  have hc1 : c ≤ j ∧ (c = 0 ↔ x ∉ N) := by
    rw [hc]
    cases e : lookK CEn.x x es with
    | none => rw [e] at hx; exact ⟨Nat.zero_le _, by simp only [Option.map_none, Option.getD_none, true_iff]; exact hx⟩
    | some y =>
      rw [e] at hx
      simp only [Option.map_some, Option.getD_some]
      refine ⟨hx.2.2, fun h => ?_, fun h => absurd hx.1 h⟩
      have h6 := hx.2.1
      rw [h] at h6
      exact absurd h6 (by decide)
  have st := run_store (P := Try.prog) Try.underlying24 Try.underlying9 h1 (bs x) (.int .i64 ((c : Int) + 1))
  rw [lookE_map CEn.x CEn.en (fun _ => rfl), setE_map CEn.x CEn.en (fun _ => rfl) x (.int .i64 ((c : Int) + 1)) ck (fun e => { e with c := c + 1 }) ⟨x, c + 1, ck⟩ (by simp [CEn.en]) es (fun a ha e => by simp [CEn.en])] at st
  obtain ⟨es', hes⟩ : ∃ es', es' = putK CEn.x x (fun e => { e with c := c + 1 }) ⟨x, c + 1, ck⟩ es := ⟨_, rfl⟩
  have hlk : ∀ y, lookK CEn.x y es' = if y = x then some (((lookK CEn.x x es).map (fun e => { e with c := c + 1 })).getD ⟨x, c + 1, ck⟩) else lookK CEn.x y es := fun y => by
    rw [hes]; exact lookK_put CEn.x (k := x) (k' := y) (f := fun e => { e with c := c + 1 }) (b := ⟨x, c + 1, ck⟩) (fun _ => rfl) rfl es
  rw [← hes] at st
  obtain ⟨ck', hck⟩ : ∃ ck', ck' = (if ((lookK CEn.x x es).map CEn.en).isSome then ck else ck + 1) := ⟨_, rfl⟩
  rw [← hck] at st
  have m2 : MapIs m (es'.map CEn.en) ck' (World.putMap w m (es'.map CEn.en) ck') := mapIs_put (w := w) (mapIs_lt h1) _ _
  have l2 := run_look (P := Try.prog) Try.underlying24 Try.underlying9 (.int .i64 0) zv_int m2 (bs x) false
  rw [lookE_map CEn.x CEn.en (fun _ => rfl), hlk, if_pos rfl] at l2
  refine ⟨c, World.putMap w m (es'.map CEn.en) ck', hc1.1, hc1.2, ?_, st, turn_put (S := fun k => k = m) rfl _ _, ?_, es', ck', m2, fun y => ?_⟩
  · rw [l1]; simp only [Bool.false_eq_true, if_false]; rw [hv]
  · rw [l2]; simp only [Bool.false_eq_true, if_false]; cases lookK CEn.x x es <;> rfl
  · rw [hlk]
    by_cases e : y = x
    · subst e
      rw [if_pos rfl]
      have e2 : ∃ e, (((lookK CEn.x y es).map (fun e : CEn => { e with c := c + 1 })).getD ⟨y, c + 1, ck⟩) = e ∧ e.c = c + 1 := ⟨_, rfl, by cases lookK CEn.x y es <;> rfl⟩
      obtain ⟨e, e3, e4⟩ := e2
      rw [e3]
      show y ∈ _ ∧ 1 ≤ e.c ∧ e.c ≤ j + 1
      rw [e4]
      refine ⟨?_, by omega, by omega⟩
      split
      · assumption
      · simp
    · rw [if_neg e]
      have hy := h2 y
      cases e3 : lookK CEn.x y es with
      | none =>
        rw [e3] at hy
        show y ∉ _
        split
        · exact hy
        · simp only [List.mem_append, List.mem_singleton]; exact fun h => h.elim hy e
      | some z =>
        rw [e3] at hy
        show y ∈ _ ∧ 1 ≤ z.c ∧ z.c ≤ j + 1
        refine ⟨?_, hy.2.1, by have := hy.2.2; omega⟩
        split
        · exact hy.1
        · simp [hy.1]
end Go.Proofs.Ytkialkjhjenkhaa
