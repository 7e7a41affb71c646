/- Layer 12 in plain words: rising lists of numbers. No program's text. Slices made, and copied into, as lists of cells. No program's text. -/
import Derived.Test.YtefhnjepocbodaaGreatDoorMSl
namespace Go.Proofs.YtefhnjepocbodaaGreatDoor
open Go.RowKit Go.Lib

/-- Rising, each once. -/
def Up (l : List Int) : Prop := l.Pairwise (· < ·)
theorem up_nil : Up [] := List.Pairwise.nil
theorem up_unique : ∀ (a b : List Int), Up a → Up b → (∀ x, x ∈ a ↔ x ∈ b) → a = b
  | [], [], _, _, _ => rfl
  | [], y :: b, _, _, h => by have := (h y).2 (by simp); simp at this
  | x :: a, [], _, _, h => by have := (h x).1 (by simp); simp at this
  | x :: a, y :: b, ha, hb, h => by
    obtain ⟨a1, a2⟩ := List.pairwise_cons.1 ha
    obtain ⟨b1, b2⟩ := List.pairwise_cons.1 hb
    have hxy : x = y := by
      rcases List.mem_cons.1 ((h x).1 (by simp)) with e | m1
      · exact e
      · rcases List.mem_cons.1 ((h y).2 (by simp)) with e | m2
        · exact e.symm
        · have := b1 x m1; have := a1 y m2; omega
    subst hxy
    rw [up_unique a b a2 b2 fun z => ?_]
    constructor
    · intro hz
      rcases List.mem_cons.1 ((h z).1 (by simp [hz])) with e | m
      · have := a1 z hz; omega
      · exact m
    · intro hz
      rcases List.mem_cons.1 ((h z).2 (by simp [hz])) with e | m
      · have := b1 z hz; omega
      · exact m

/-- Ahead of the first greater one. -/
def insZ (n : Int) : List Int → List Int
  | [] => [n]
  | x :: l => if n < x then n :: x :: l else x :: insZ n l
/-- The document's Put. -/
def putZ (l : List Int) (n : Int) : List Int := if n ∈ l then l else insZ n l
theorem insZ_mem (n : Int) : ∀ l y, y ∈ insZ n l ↔ y = n ∨ y ∈ l
  | [], y => by simp [insZ]
  | x :: l, y => by
    unfold insZ
    split
    · simp
    · rw [List.mem_cons, insZ_mem n l y, List.mem_cons]
      constructor
      · rintro (h | h | h) <;> simp [h]
      · rintro (h | h | h) <;> simp [h]
theorem insZ_up (n : Int) : ∀ l, Up l → n ∉ l → Up (insZ n l)
  | [], _, _ => List.pairwise_singleton _ _
  | x :: l, h, hn => by
    obtain ⟨h1, h2⟩ := List.pairwise_cons.1 h
    have hx : x ≠ n := fun e => hn (by simp [e])
    unfold insZ
    split
    · rename_i hlt
      refine List.pairwise_cons.2 ⟨fun y hy => ?_, h⟩
      rcases List.mem_cons.1 hy with rfl | hy
      · exact hlt
      · have := h1 y hy; omega
    · rename_i hlt
      refine List.pairwise_cons.2 ⟨fun y hy => ?_, insZ_up n l h2 (fun e => hn (by simp [e]))⟩
      rcases (insZ_mem n l y).1 hy with rfl | hy
      · omega
      · exact h1 y hy
theorem insZ_len (n : Int) : ∀ l, (insZ n l).length = l.length + 1
  | [] => rfl
  | x :: l => by
    unfold insZ
    split
    · rfl
    · rw [List.length_cons, insZ_len n l]; rfl
theorem putZ_mem (l : List Int) (n y : Int) : y ∈ putZ l n ↔ y = n ∨ y ∈ l := by
  unfold putZ
  split
  · rename_i h
    constructor
    · exact fun h => .inr h
    · rintro (rfl | h')
      · exact h
      · exact h'
  · exact insZ_mem n l y
theorem putZ_up (l : List Int) (n : Int) (h : Up l) : Up (putZ l n) := by
  unfold putZ
  split
  · exact h
  · rename_i hn; exact insZ_up n l h hn
theorem putZ_len (l : List Int) (n : Int) : (putZ l n).length ≤ l.length + 1 := by
  unfold putZ
  split
  · omega
  · rw [insZ_len]; exact Nat.le_refl _

/-- The document's Any: of all numbers of all lists. -/
def anyZ (ls : List (List Int)) : List Int := ls.flatten.foldl putZ []
theorem foldP_mem : ∀ (l acc : List Int) (y : Int), y ∈ l.foldl putZ acc ↔ y ∈ acc ∨ y ∈ l
  | [], acc, y => by simp
  | n :: l, acc, y => by
    rw [List.foldl_cons, foldP_mem l, putZ_mem, List.mem_cons]
    constructor
    · rintro ((h | h) | h) <;> simp [h]
    · rintro (h | h | h) <;> simp [h]
theorem foldP_up : ∀ (l acc : List Int), Up acc → Up (l.foldl putZ acc)
  | [], _, h => h
  | n :: l, acc, h => by rw [List.foldl_cons]; exact foldP_up l _ (putZ_up acc n h)
theorem foldP_len : ∀ (l acc : List Int), (l.foldl putZ acc).length ≤ acc.length + l.length
  | [], acc => by simp
  | n :: l, acc => by
    rw [List.foldl_cons, List.length_cons]
    have := foldP_len l (putZ acc n)
    have := putZ_len acc n
    omega
theorem anyZ_mem (ls : List (List Int)) (y : Int) : y ∈ anyZ ls ↔ ∃ l ∈ ls, y ∈ l := by
  unfold anyZ
  rw [foldP_mem, List.mem_flatten]
  simp
theorem anyZ_up (ls : List (List Int)) : Up (anyZ ls) := foldP_up _ [] up_nil

/-- Those of a list that are in another one, or those that aren't. -/
def pickZ (l o : List Int) (b : Bool) : List Int := l.filter fun x => decide (x ∈ o) == b
theorem filter_up {l : List Int} (h : Up l) (f : Int → Bool) : Up (l.filter f) := h.sublist List.filter_sublist
theorem pickZ_up {l : List Int} (o : List Int) (b : Bool) (h : Up l) : Up (pickZ l o b) := filter_up h _
theorem pickZ_mem (l o : List Int) (b : Bool) (y : Int) : y ∈ pickZ l o b ↔ y ∈ l ∧ decide (y ∈ o) = b := by
  unfold pickZ; simp [List.mem_filter]
/-- What lies below a number asked for now plays no part any more. -/
theorem drop_less {o : List Int} (n : Int) : ∀ (k : Nat), (∀ j x, j < k → o[j]? = some x → x < n) → (n ∈ o ↔ n ∈ o.drop k)
  | 0, _ => by simp
  | k + 1, h => by
    rw [drop_less n k fun j x hj => h j x (by omega)]
    cases hk : o[k]? with
    | none =>
      have : o.length ≤ k := by
        rcases Nat.lt_or_ge k o.length with hlt | hge
        · rw [List.getElem?_eq_getElem hlt] at hk; cases hk
        · exact hge
      rw [List.drop_of_length_le this, List.drop_of_length_le (by omega)]
    | some x =>
      have hlt := (List.getElem?_eq_some_iff.1 hk).1
      have hx : o[k] = x := (List.getElem?_eq_some_iff.1 hk).2
      rw [List.drop_eq_getElem_cons hlt, List.mem_cons, hx]
      have := h k x (by omega) hk
      constructor
      · rintro (e | e)
        · omega
        · exact e
      · exact fun e => .inr e
/-- The first that isn't less is the number, or the number isn't there. -/
theorem head_is {o : List Int} (ho : Up o) (n : Int) (h : ∀ x, o.head? = some x → ¬ x < n) : n ∈ o ↔ o.head? = some n := by
  cases o with
  | nil => simp
  | cons x l =>
    have hx := h x rfl
    have h1 := (List.pairwise_cons.1 ho).1
    constructor
    · intro hm
      rcases List.mem_cons.1 hm with rfl | hm
      · rfl
      · have := h1 n hm; omega
    · intro e
      have : x = n := Option.some.inj e
      simp [this]
/-- In all lists. -/
def bothZ (ls : List (List Int)) : List Int := (anyZ ls).filter fun n => ls.all fun l => decide (n ∈ l)
theorem bothZ_mem (ls : List (List Int)) (y : Int) : y ∈ bothZ ls ↔ (∃ l ∈ ls, y ∈ l) ∧ ∀ l ∈ ls, y ∈ l := by
  unfold bothZ; rw [List.mem_filter, anyZ_mem]; simp
theorem bothZ_up (ls : List (List Int)) : Up (bothZ ls) := filter_up (anyZ_up ls) _
/-- One list behind the other: what the program's Both leaves. -/
def bothP : List (List Int) → List Int
  | [] => []
  | l :: ls => ls.foldl (fun acc o => pickZ acc o true) l
theorem bothP_go : ∀ (ls : List (List Int)) (acc : List Int), Up acc → Up (ls.foldl (fun acc o => pickZ acc o true) acc) ∧ ∀ y, y ∈ ls.foldl (fun acc o => pickZ acc o true) acc ↔ y ∈ acc ∧ ∀ l ∈ ls, y ∈ l
  | [], acc, h => ⟨h, fun y => by simp⟩
  | o :: ls, acc, h => by
    obtain ⟨h1, h2⟩ := bothP_go ls (pickZ acc o true) (pickZ_up o true h)
    refine ⟨h1, fun y => ?_⟩
    rw [List.foldl_cons, h2, pickZ_mem]
    simp [and_assoc]
theorem both_same (ls : List (List Int)) (h : ∀ l ∈ ls, Up l) : bothP ls = bothZ ls := by
  cases ls with
  | nil => rfl
  | cons l ls =>
    obtain ⟨h1, h2⟩ := bothP_go ls l (h l (by simp))
    refine up_unique _ _ h1 (bothZ_up _) fun y => ?_
    rw [bothZ_mem]
    refine (h2 y).trans ⟨fun ⟨a, b⟩ => ⟨⟨l, by simp, a⟩, fun o ho => ?_⟩, fun ⟨_, b⟩ => ⟨b l (by simp), fun o ho => b o (by simp [ho])⟩⟩
    rcases List.mem_cons.1 ho with rfl | ho
    · exact a
    · exact b o ho
/-- Equal neighbours once. -/
def oneZ : List Int → List Int
  | [] => []
  | [x] => [x]
  | x :: y :: l => if x = y then oneZ (y :: l) else x :: oneZ (y :: l)
theorem oneZ_mem : ∀ (l : List Int) (z : Int), z ∈ oneZ l ↔ z ∈ l
  | [], _ => by simp [oneZ]
  | [x], _ => by simp [oneZ]
  | x :: y :: l, z => by
    unfold oneZ
    split
    · rename_i e
      rw [oneZ_mem (y :: l) z, e]; simp
    · rw [List.mem_cons, oneZ_mem (y :: l) z]; simp
theorem oneZ_up : ∀ (l : List Int), l.Pairwise (· ≤ ·) → Up (oneZ l)
  | [], _ => up_nil
  | [x], _ => List.pairwise_singleton _ _
  | x :: y :: l, h => by
    obtain ⟨h1, h2⟩ := List.pairwise_cons.1 h
    unfold oneZ
    split
    · exact oneZ_up (y :: l) h2
    · rename_i hne
      refine List.pairwise_cons.2 ⟨fun z hz => ?_, oneZ_up (y :: l) h2⟩
      have hz := (oneZ_mem (y :: l) z).1 hz
      have hxy := h1 y (by simp)
      have hyz : y ≤ z := by
        rcases List.mem_cons.1 hz with rfl | hz
        · exact Int.le_refl _
        · exact (List.pairwise_cons.1 h2).1 z hz
      omega
/-- Sorted, each once, it is the document's Any. -/
theorem any_same (ls : List (List Int)) (l : List Int) (hp : l.Perm ls.flatten) (hs : l.Pairwise (· ≤ ·)) : oneZ l = anyZ ls := by
  refine up_unique _ _ (oneZ_up l hs) (anyZ_up ls) fun y => ?_
  rw [oneZ_mem, hp.mem_iff, anyZ_mem, List.mem_flatten]
end Go.Proofs.YtefhnjepocbodaaGreatDoor

namespace Go.Proofs.YtefhnjepocbodaaGreatDoor
open Go.RowKit Go.Lib

section
variable {P : Program}
/-- 'make([]T, l, c)', one cell an element. -/
theorem run_make_sl (w : World) (t e : TypeId) (i : TypeInfo) (z : Value) (ht : P.underlying t = some (.slice e)) (hi : P.info? e = some i) (hz : i.zero = some z) (hs1 : i.size = 1)
    (kl kc : IntKind) (l c : Int) (h0 : 0 ≤ l) (hlc : l ≤ c) (hbytes : (i.bytes : Int) * c ≤ 281474976710656) (h63 : c ≤ 9223372036854775807) :
    ∃ w' xs, (Instr.makeSlice t (.int kl l) (.int kc c)).run P w = .ok (.slice (some ⟨w.heap.size, 0, none⟩) l.toNat c.toNat) w' ∧ Sl w' w.heap.size 1 (.slice (some ⟨w.heap.size, 0, none⟩) l.toNat c.toNat) l.toNat xs ∧ w.grownBy w' none := by
  have hr := run_make (P := P) w t e i z ht hi hz kl kc l c h0 hlc hbytes h63
  have hsz : (madeCells z.cells (c.toNat * i.size)).size = c.toNat := by rw [size_madeCells, hs1, Nat.mul_one]
  have hown := World.ownsRow_made (e := e) (size := 1) w (madeCells z.cells (c.toNat * i.size)) c.toNat (Nat.le_refl _) (by unfold maxLen; omega) (by rw [hsz, Nat.mul_one])
  have hs0 := Sl.of_owns hown
  refine ⟨_, (madeCells z.cells (c.toNat * i.size)).toList.take l.toNat, hr, ⟨?_, .inr ⟨w.heap.size, 0, c.toNat, rfl, Nat.le_refl _, by simp, by omega, by unfold maxLen; omega, ?_, ?_⟩⟩, World.grownBy_alloc w _ none⟩
  · rw [List.length_take, Array.length_toList, hsz]; omega
  · rcases hs0.2 with ⟨h, _⟩ | ⟨g', off', cap', he, _, _, _, _, hfree, _⟩
    · cases h
    · cases he
      exact hfree
  · intro j hj
    rw [cell_of_row _ _ (0 + j) _ _ _ (heap_alloc_new w _), Nat.zero_add, List.getElem?_take, if_pos (by omega)]
    simp

theorem wpList_make_sl (w : World) {ops : Array Oper} {rest : List Oper} {o : Oper} {a : Act} {Q : Exit → Act → World → Prop} (hgd : o.guard = none) (l c : Operand) (t : TypeId) (ho : o.op = Op.makeSlice t l c)
    (e : TypeId) (i : TypeInfo) (z : Value) (ht : P.underlying t = some (.slice e)) (hi : P.info? e = some i) (hz : i.zero = some z) (hs1 : i.size = 1) (hb1 : i.bytes = 1)
    (kl kc : IntKind) (L C : Int) (hl : a.eval l = .int kl L) (hc : a.eval c = .int kc C) (G n m : Nat) (hG : w.heap.size = G) (hL : L = (n : Int)) (hC : C = (m : Int)) (hlc : n ≤ m) (hbytes : m ≤ 140737488355328)
    (h : ∀ w' xs, Sl w' G 1 (.slice (some ⟨G, 0, none⟩) n m) n xs → w.grownBy w' none → G < w'.heap.size → wpList P ops Q rest (a.put o.dst (.slice (some ⟨G, 0, none⟩) n m)) w') : wpList P ops Q (o :: rest) a w := by
  subst hG; subst hL; subst hC
  refine wpList_plain hgd fun K hK => ?_
  obtain ⟨w', xs, hr, h2, h3⟩ := run_make_sl (P := P) w t e i z ht hi hz hs1 kl kc n m (by omega) (by omega) (by rw [hb1]; omega) (by omega)
  rw [Int.toNat_natCast, Int.toNat_natCast] at hr h2
  unfold Oper.wp
  simp [execOp, ho, hl, hc, hr, Result.andThen]
  exact hK _ _ (h w' xs h2 h3 (h2.lt _ rfl).2)

/-- 'copy(d, s)', as many elements in s as in d, one cell each. -/
theorem run_copy_sl (w : World) (dT sT ty elem : TypeId) (hu : P.underlying dT = some (.slice elem)) (hsz : (P.info? elem).map (·.size) = some 1)
    (base b2 g off n cap : Nat) (s : Value) (xs ys : List Value) (hd : Sl w base 1 (.slice (some ⟨g, off, none⟩) n cap) n xs) (hs : Sl w b2 1 s n ys) (h1 : ∀ v ∈ ys, v.oneCell' = true) :
    ∃ w', (Builtin.copy_ #[dT, sT] ty #[.slice (some ⟨g, off, none⟩) n cap, s]).run P w = .ok (goInt n) w' ∧ Sl w' base 1 (.slice (some ⟨g, off, none⟩) n cap) n ys ∧ w.grownBy w' (some g) := by
  have hyl : ys.length = n := by have := hs.1; omega
  rcases hs.2 with ⟨rfl, rfl⟩ | ⟨g2, off2, cap2, rfl, _, _, _, _, _, _⟩
  · have hy : ys = [] := List.eq_nil_of_length_eq_zero hyl
    subst hy
    have hr := run_copy_none (P := P) w dT sT ty elem (some ⟨g, off, none⟩) none 0 cap 0 0 hu hsz rfl
    have hx : xs = [] := List.eq_nil_of_length_eq_zero (by have := hd.1; omega)
    subst hx
    exact ⟨w, hr, hd, World.grownBy.refl _ _⟩
  · rcases hd.2 with ⟨h, _⟩ | ⟨g1, off1, cap1, he, hb1, hg1, hn1, hc1, hfree1, hcell1⟩
    · cases h
    cases he
    have hr := run_copy_cells (P := P) w dT sT ty elem g off n cap ⟨g2, off2, none⟩ n cap2 ys hu hsz (by rw [hyl]; exact (Nat.min_self n).symm) hs.cells
      (fun j hj => (hfree1 j (by omega)).1) (fun j hj => (hfree1 j (by omega)).2) h1
    rw [hyl] at hr
    refine ⟨_, hr, ⟨by omega, .inr ⟨g, off, cap, rfl, hb1, by rw [size_setCells]; exact hg1, hn1, hc1, fun j hj => ⟨?_, ?_⟩, fun j hj => ?_⟩⟩, grownBy_setCells g ys off w⟩
    · by_cases hj' : j < ys.length
      · rw [World.cell?_setCells_in g ys off w (fun i hi => (hfree1 i (by omega)).1) j hj']; rfl
      · rw [World.cell?_setCells_out g ys off w ⟨g, off + j, none⟩ (fun _ _ => by simp only; omega)]
        exact (hfree1 j hj).1
    · rw [World.frozen?_setCells]; exact (hfree1 j hj).2
    · rw [World.cell?_setCells_in g ys off w (fun i hi => (hfree1 i (by omega)).1) j (by omega), List.getElem?_eq_getElem (by omega)]

theorem wpList_copy_sl (w : World) {ops : Array Oper} {rest : List Oper} {o : Oper} {a : Act} {Q : Exit → Act → World → Prop} (hgd : o.guard = none) (d s : Operand) (dT sT : TypeId)
    (ho : o.op = .call { callee := .builtin .copy, args := #[d, s], argTypes := #[dT, sT] }) (elem : TypeId) (hu : P.underlying dT = some (.slice elem)) (hsz : (P.info? elem).map (·.size) = some 1)
    (base b2 g off n cap : Nat) (sv : Value) (xs ys : List Value) (hdv : a.eval d = .slice (some ⟨g, off, none⟩) n cap) (hsv : a.eval s = sv) (hd : Sl w base 1 (.slice (some ⟨g, off, none⟩) n cap) n xs) (hs : Sl w b2 1 sv n ys) (h1 : ∀ v ∈ ys, v.oneCell' = true)
    (h : ∀ w', Sl w' base 1 (.slice (some ⟨g, off, none⟩) n cap) n ys → w.grownBy w' (some g) → wpList P ops Q rest (a.put o.dst (goInt n)) w') : wpList P ops Q (o :: rest) a w := by
  refine wpList_plain hgd fun K hK => ?_
  obtain ⟨w', hr, h2, h3⟩ := run_copy_sl (P := P) w dT sT o.type elem hu hsz base b2 g off n cap sv xs ys hd hs h1
  unfold Oper.wp
  simp [execOp, ho, resolve, invoke, builtin, hdv, hsv, hr, Result.andThen]
  exact hK _ _ (h w' h2 h3)
end

theorem cb_one (l : List UInt8) : ∀ v ∈ cb l, v.oneCell' = true := by
  intro v hv
  simp only [cb, List.mem_map] at hv
  obtain ⟨b, _, rfl⟩ := hv
  rfl

/-- A new block of two cells, and what lies below the next one is as it was: its cells. -/
theorem box_at {w W : World} {x y : Value} {t : TypeId} (h : Below (w.heap.size + 1) (w.alloc (.cells #[x, y] t)) W) : W.cell? ⟨w.heap.size, 0, none⟩ = some x ∧ W.cell? ⟨w.heap.size, 1, none⟩ = some y := by
  have hblk := heap_alloc_new w (.cells #[x, y] t)
  constructor
  · rw [h.cell (p := ⟨w.heap.size, 0, none⟩) (by simp), cell_of_row _ _ 0 _ _ _ hblk]; rfl
  · rw [h.cell (p := ⟨w.heap.size, 1, none⟩) (by simp), cell_of_row _ _ 1 _ _ _ hblk]; rfl

theorem below_rowed {B : Nat} {a w w' : World} {row : Option Nat} (h : Below B a w) (hg : w.grownBy w' row) (hB : B ≤ a.heap.size) (hr : ∀ k, row = some k → B ≤ k) : Below B a w' :=
  h.grown hg (Nat.le_trans hB h.size) hr

end Go.Proofs.YtefhnjepocbodaaGreatDoor
