/- Layer 5: a map of objects, and the document's list: plain maths. -/
import Derived.Test.YtnjoojffefhgpaaMP3
import Derived.Test.YtnjoojffefhgpaaMG6
namespace Go.Proofs.Ytnjoojffefhgpaa
open Go.Conc Go.RowKit

abbrev bl (b : ByteArray) : List UInt8 := b.data.toList
theorem bl_inj {a b : ByteArray} (h : bl a = bl b) : a = b := ByteArray.ext (Array.toList_inj.1 h)
/-- An object, as the document's. -/
def Ob.toR (x : Ob) : Rj := ⟨x.name, x.data, x.tm⟩
def Rj.inf (x : Rj) : Inf := ⟨x.name, x.data.size, x.tm⟩
def SortR (xs : List Rj) : Prop := xs.Pairwise fun x y => bl x.name < bl y.name
/-- The list is the map's objects, by rising names. -/
def RelB (os : List Ob) (xs : List Rj) : Prop := SortR xs ∧ (os.map Ob.toR).Perm xs

theorem uniq_inf : ∀ (a b : List Inf), a.Perm b → a.Pairwise (fun x y => ¬ bl y.name < bl x.name) → b.Pairwise (fun x y => bl x.name < bl y.name) → a = b
  | [], b, h, _, _ => h.nil_eq
  | x :: a, [], h, _, _ => by have := h.length_eq; simp at this
  | x :: a, y :: b, h, ha, hb => by
    obtain ⟨ha1, ha2⟩ := List.pairwise_cons.1 ha
    obtain ⟨hb1, hb2⟩ := List.pairwise_cons.1 hb
    have hxy : x = y := by
      rcases List.mem_cons.1 (h.mem_iff.1 List.mem_cons_self) with e | hx
      · exact e
      · rcases List.mem_cons.1 (h.mem_iff.2 List.mem_cons_self) with e | hy
        · exact e.symm
        · exact absurd (hb1 x hx) (ha1 y hy)
    subst hxy
    rw [uniq_inf a b (List.perm_cons x |>.1 h) ha2 hb2]
theorem relB_names {os : List Ob} {xs : List Rj} (h : RelB os xs) : (os.map (·.name)).Nodup := by
  have h1 : (xs.map (·.name)).Nodup := by
    rw [List.nodup_iff_pairwise_ne, List.pairwise_map]
    exact h.1.imp fun hlt e => by rw [e] at hlt; exact bytes_lt_irrefl _ hlt
  have h2 := (h.2.map (·.name)).nodup_iff.2 h1
  rw [List.map_map] at h2
  exact h2
theorem relB_len {os : List Ob} {xs : List Rj} (h : RelB os xs) : xs.length = os.length := by
  have := h.2.length_eq
  rw [List.length_map] at this
  exact this.symm
theorem infs_is {os : List Ob} {xs : List Rj} (h : RelB os xs) (p : ByteArray) (ds : List Inf) (hd : ds.Perm (infsO p os)) (hs : ds.Pairwise (fun x y => ¬ bl y.name < bl x.name)) : ds = (preR p xs).map Rj.inf := by
  refine uniq_inf _ _ ?_ hs ?_
  · refine hd.trans ?_
    have h1 : infsO p os = ((os.map Ob.toR).filter fun x => pre (bl p) (bl x.name)).map Rj.inf := by
      unfold infsO
      rw [List.filter_map, List.map_map]
      rfl
    rw [h1]
    exact (h.2.filter _).map _
  · rw [List.pairwise_map]
    exact (h.1.sublist (List.filter_sublist (l := xs)))
theorem look_rel {os : List Ob} {xs : List Rj} (h : RelB os xs) (k : ByteArray) : (lookO k os = none ∧ idxR k xs = none) ∨ ∃ x i, lookO k os = some x ∧ idxR k xs = some i ∧ xs[i]? = some x.toR := by
  have hidx : ∀ (xs : List Rj), SortR xs → (idxR k xs = none ∧ ∀ x ∈ xs, x.name ≠ k) ∨ ∃ i x, idxR k xs = some i ∧ xs[i]? = some x ∧ x.name = k := by
    intro xs
    induction xs with
    | nil => intro _; exact .inl ⟨rfl, by simp⟩
    | cons y ys ih =>
      intro hs
      by_cases hy : y.name = k
      · exact .inr ⟨0, y, by simp [idxR, hy], rfl, hy⟩
      · rcases ih (List.pairwise_cons.1 hs).2 with ⟨h1, h2⟩ | ⟨i, x, h1, h2, h3⟩
        · exact .inl ⟨by simp [idxR, hy, h1], by simpa [hy] using h2⟩
        · exact .inr ⟨i + 1, x, by simp [idxR, hy, h1], by simpa using h2, h3⟩
  rcases hidx xs h.1 with ⟨h1, h2⟩ | ⟨i, x, h1, h2, h3⟩
  · refine .inl ⟨?_, h1⟩
    rw [look_noneO]
    intro hm
    obtain ⟨o, ho, he⟩ := List.mem_map.1 hm
    exact h2 o.toR (h.2.mem_iff.1 (List.mem_map_of_mem ho)) he
  · have hx : x ∈ os.map Ob.toR := h.2.mem_iff.2 (List.mem_of_getElem? h2)
    obtain ⟨o, ho, rfl⟩ := List.mem_map.1 hx
    have ho2 : lookO k os = some o := by
      have hn := relB_names h
      clear h h1 h2 hx hidx
      induction os with
      | nil => cases ho
      | cons y ys ih =>
        rw [List.map_cons, List.nodup_cons] at hn
        rcases List.mem_cons.1 ho with rfl | ho
        · have h3 : o.name = k := h3
          simp [lookO, h3]
        · have hy : ¬ k = y.name := by
            intro e
            have h3 : o.name = k := h3
            exact hn.1 (by rw [← e, ← h3]; exact List.mem_map_of_mem ho)
          simp only [lookO, if_neg hy]
          exact ih ho hn.2
    exact .inr ⟨o, i, ho2, h1, h2⟩

/-- The document's list with an object. -/
def insL (x : Rj) : List Rj → List Rj
  | [] => [x]
  | o :: l => if bl x.name < bl o.name then x :: o :: l else o :: insL x l
theorem insL_perm (x : Rj) : ∀ l, (insL x l).Perm (x :: l)
  | [] => List.Perm.refl _
  | o :: l => by
    unfold insL
    split
    · exact List.Perm.refl _
    · exact ((insL_perm x l).cons o).trans (List.Perm.swap _ _ _)
theorem insL_len (x : Rj) (l : List Rj) : (insL x l).length = l.length + 1 := (insL_perm x l).length_eq
theorem insL_sort (x : Rj) : ∀ l, SortR l → (∀ o ∈ l, o.name ≠ x.name) → SortR (insL x l)
  | [], _, _ => List.pairwise_singleton _ _
  | o :: l, h, hn => by
    obtain ⟨h1, h2⟩ := List.pairwise_cons.1 h
    unfold insL
    split
    · rename_i hlt
      refine List.pairwise_cons.2 ⟨fun y hy => ?_, h⟩
      rcases List.mem_cons.1 hy with rfl | hy
      · exact hlt
      · exact bytes_lt_trans hlt (h1 y hy)
    · rename_i hge
      refine List.pairwise_cons.2 ⟨fun y hy => ?_, insL_sort x l h2 fun y hy => hn y (by simp [hy])⟩
      rcases List.mem_cons.1 ((insL_perm x l).mem_iff.1 hy) with rfl | hy
      · rcases bytes_not_lt hge with e | h3
        · exact absurd (bl_inj e).symm (hn o (by simp))
        · exact h3
      · exact h1 y hy
def withR (x : Rj) (xs : List Rj) : List Rj := insL x (outR x.name xs)
theorem out_rel {os : List Ob} {xs : List Rj} (h : RelB os xs) (k : ByteArray) : RelB (delO k os) (outR k xs) := by
  refine ⟨h.1.sublist (List.filter_sublist (l := xs)), ?_⟩
  have h1 : (delO k os).map Ob.toR = (os.map Ob.toR).filter fun x => decide (x.name ≠ k) := by
    have hn := relB_names h
    clear h
    induction os with
    | nil => rfl
    | cons y ys ih =>
      rw [List.map_cons, List.nodup_cons] at hn
      by_cases hy : k = y.name
      · have hf : ∀ x ∈ ys.map Ob.toR, decide (x.name ≠ k) = true := by
          intro x hx
          obtain ⟨o, ho, rfl⟩ := List.mem_map.1 hx
          refine decide_eq_true fun e => hn.1 ?_
          rw [← hy, ← e]
          exact List.mem_map_of_mem ho
        rw [delO, if_pos hy, List.map_cons, List.filter_cons_of_neg (by simp [Ob.toR, hy]), List.filter_eq_self.2 hf]
      · rw [delO, if_neg hy, List.map_cons, List.map_cons, List.filter_cons_of_pos (p := fun x : Rj => decide (x.name ≠ k)) (a := y.toR) (decide_eq_true fun e : y.name = k => hy e.symm), ih hn.2]
  rw [h1]
  exact h.2.filter _
theorem set_del (k d : ByteArray) (t : Int) (b : Nat) : ∀ (os : List Ob), (os.map (·.name)).Nodup → ((setO k d t b os).map Ob.toR).Perm (⟨k, d, t⟩ :: (delO k os).map Ob.toR)
  | [], _ => List.Perm.refl _
  | y :: ys, hn => by
    rw [List.map_cons, List.nodup_cons] at hn
    by_cases hy : k = y.name
    · rw [setO, if_pos hy, delO, if_pos hy, List.map_cons]
      have : Ob.toR { y with data := d, tm := t } = ⟨k, d, t⟩ := by rw [hy]; rfl
      rw [this]
    · rw [setO, if_neg hy, delO, if_neg hy, List.map_cons, List.map_cons]
      exact ((set_del k d t b ys hn.2).cons _).trans (List.Perm.swap _ _ _)
theorem with_rel {os : List Ob} {xs : List Rj} (h : RelB os xs) (k d : ByteArray) (t : Int) (b : Nat) : RelB (setO k d t b os) (withR ⟨k, d, t⟩ xs) := by
  have ho := out_rel h k
  refine ⟨insL_sort _ _ ho.1 fun o hm => ?_, ?_⟩
  · have := (List.mem_filter.1 hm).2
    simpa using this
  · exact (set_del k d t b os (relB_names h)).trans ((ho.2.cons _).trans (insL_perm _ _).symm)

/-- The loop that puts it in: is it in, what is there. -/
def stepW (x : Rj) (r : Bool × List Rj) (o : Rj) : Bool × List Rj := if r.1 = false ∧ bl x.name < bl o.name then (true, r.2 ++ [x, o]) else (r.1, r.2 ++ [o])
def foldW (x : Rj) (l : List Rj) : Bool × List Rj := l.foldl (stepW x) (false, [])
theorem foldW_snoc (x : Rj) (l : List Rj) (o : Rj) : foldW x (l ++ [o]) = stepW x (foldW x l) o := by simp [foldW, List.foldl_append]
theorem foldW_in (x : Rj) : ∀ (l acc : List Rj), l.foldl (stepW x) (true, acc) = (true, acc ++ l)
  | [], acc => by simp
  | o :: l, acc => by rw [List.foldl_cons, stepW, if_neg (by simp), foldW_in x l]; simp
theorem foldW_go (x : Rj) : ∀ (l acc : List Rj), (if (l.foldl (stepW x) (false, acc)).1 = true then (l.foldl (stepW x) (false, acc)).2 else (l.foldl (stepW x) (false, acc)).2 ++ [x]) = acc ++ insL x l
  | [], acc => by simp [insL]
  | o :: l, acc => by
    rw [List.foldl_cons, insL]
    by_cases h : bl x.name < bl o.name
    · have hs : stepW x (false, acc) o = (true, acc ++ [x, o]) := if_pos ⟨rfl, h⟩
      rw [hs, if_pos h, foldW_in]; simp
    · have hs : stepW x (false, acc) o = (false, acc ++ [o]) := if_neg fun e => h e.2
      rw [hs, if_neg h]
      have := foldW_go x l (acc ++ [o])
      rw [this]; simp
theorem foldW_is (x : Rj) (l : List Rj) : (if (foldW x l).1 = true then (foldW x l).2 else (foldW x l).2 ++ [x]) = insL x l := by
  have := foldW_go x l []
  rw [List.nil_append] at this
  exact this
theorem foldW_len (x : Rj) (l : List Rj) : (foldW x l).2.length ≤ l.length + 1 := by
  have h1 := congrArg List.length (foldW_is x l)
  rw [insL_len] at h1
  split at h1
  · omega
  · rw [List.length_append] at h1; simp at h1; omega
end Go.Proofs.Ytnjoojffefhgpaa
