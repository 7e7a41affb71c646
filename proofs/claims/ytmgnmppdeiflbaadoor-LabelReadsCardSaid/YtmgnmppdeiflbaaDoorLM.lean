/- Layer 6: a key and a text come back. Plain maths. -/
import Derived.Test.YtmgnmppdeiflbaaDoorLK
namespace Go.Proofs.YtmgnmppdeiflbaaDoor
open Go.RowKit Go.Lib

theorem tkP_enc (x : Pr) (r : List UInt8) (h1 : x.n.length ≤ 40) (h2 : x.v.length ≤ 40) : tkP (keyP x ++ r) = (x, r, 0) := by
  have e1 := Leb.takeT_enc x.n (Leb.encT x.v ++ r) 40 (by omega) (by unfold Leb.two64; omega)
  have e2 := Leb.takeT_enc x.v r 40 (by omega) (by unfold Leb.two64; omega)
  unfold tkP keyP
  rw [List.append_assoc, e1]
  simp only [ne_eq, not_true, if_false, e2]
theorem tkN_enc : ∀ (ds : List Pr) (t : List UInt8), (∀ x ∈ ds, x.n.length ≤ 40 ∧ x.v.length ≤ 40) → tkN ds.length (ds.flatMap keyP ++ t) = (ds, t, 0)
  | [], t, _ => rfl
  | x :: ds, t, h => by
    have ih := tkN_enc ds t (fun y hy => h y (by simp [hy]))
    obtain ⟨h1, h2⟩ := h x (by simp)
    rw [List.length_cons, List.flatMap_cons, List.append_assoc]
    simp only [tkN, tkP_enc x _ h1 h2, ih, ne_eq, not_true, if_false]
theorem chkR_mem : ∀ (l : List Pr) (o : Option (List UInt8)), chkR o l = true → ∀ x ∈ l, nameB x.n = true ∧ valB x.v = true
  | [], _, _, x, hx => by simp at hx
  | p :: l, o, h, x, hx => by
    rw [chkR_cons] at h
    simp only [Bool.and_eq_true] at h
    rcases List.mem_cons.1 hx with rfl | hx
    · exact ⟨h.1, h.2.1⟩
    · exact chkR_mem l _ h.2.2.2 x hx
theorem chkR_ahead : ∀ (l : List Pr) (q : List UInt8), chkR (some q) l = true → ∀ x ∈ l, q < x.n
  | [], _, _, x, hx => by simp at hx
  | p :: l, q, h, x, hx => by
    rw [chkR_cons] at h
    simp only [Bool.and_eq_true, aheadB, decide_eq_true_eq] at h
    rcases List.mem_cons.1 hx with rfl | hx
    · exact h.2.2.1
    · exact List.lt_trans h.2.2.1 (chkR_ahead l _ h.2.2.2 x hx)
theorem chkR_rising : ∀ (l : List Pr) (o : Option (List UInt8)), chkR o l = true → l.Pairwise fun x y => x.n < y.n
  | [], _, _ => List.Pairwise.nil
  | p :: l, o, h => by
    rw [chkR_cons] at h
    simp only [Bool.and_eq_true] at h
    exact List.pairwise_cons.2 ⟨fun y hy => chkR_ahead l _ h.2.2.2 y hy, chkR_rising l _ h.2.2.2⟩
theorem chk_parts {ds : List Pr} (h : chk ds = true) : 1 ≤ ds.length ∧ ds.length ≤ 8 ∧ chkR none ds = true := by
  unfold chk at h
  simp only [Bool.and_eq_true, decide_eq_true_eq] at h
  exact h
theorem nameB_len {l : List UInt8} (h : nameB l = true) : l.length ≤ 40 := by
  cases l with
  | nil => simp
  | cons c l => simp only [nameB, Bool.and_eq_true, decide_eq_true_eq] at h; simpa using h.1
theorem valB_len {l : List UInt8} (h : valB l = true) : l.length ≤ 40 := by
  simp only [valB, Bool.and_eq_true, decide_eq_true_eq] at h; exact h.2
theorem nameB_all {l : List UInt8} (h : nameB l = true) : ∀ c ∈ l, (begB c || digB c) = true := by
  cases l with
  | nil => simp
  | cons c l =>
    simp only [nameB, Bool.and_eq_true, List.all_eq_true] at h
    intro d hd
    rcases List.mem_cons.1 hd with rfl | hd
    · simp [h.2.1]
    · exact h.2.2 d hd
theorem nameB_not {l : List UInt8} (h : nameB l = true) : 61 ∉ l ∧ 44 ∉ l := by
  have := nameB_all h
  exact ⟨fun hm => by have := this 61 hm; revert this; decide, fun hm => by have := this 44 hm; revert this; decide⟩
/-- The key comes back. -/
theorem tkS_key (ds : List Pr) (t : List UInt8) (h : chk ds = true) : tkS (keyL ds ++ t) = (ds, t, 0) := by
  obtain ⟨h1, h2, h3⟩ := chk_parts h
  have hN := tkN_enc ds t (fun x hx => by obtain ⟨a, b⟩ := chkR_mem ds _ h3 x hx; exact ⟨nameB_len a, valB_len b⟩)
  have hU := Leb.takeU_enc ds.length (by unfold Leb.two64; omega) (ds.flatMap keyP ++ t)
  have hM := Leb.takeM_ok (most := 8) hU (by omega)
  unfold tkS keyL
  rw [List.append_assoc, hM]
  simp only [ne_eq, not_true, if_false, hN, glue, List.nil_append, h, if_true]
theorem sortP_chk (ds : List Pr) (h : chk ds = true) : sortP ds = ds := by
  refine (sortP_of (List.Perm.refl ds) ?_).symm
  refine (chkR_rising ds _ (chk_parts h).2.2).imp ?_
  intro x y hxy hyx
  rcases hyx with h' | ⟨h', _⟩
  · exact absurd (List.lt_trans hxy h') (List.lt_irrefl _)
  · rw [h'] at hxy; exact absurd hxy (List.lt_irrefl _)
theorem index_at (a : List UInt8) (c : UInt8) (b : List UInt8) (h : c ∉ a) : Lib.indexByte (a ++ c :: b) c = a.length := by
  induction a with
  | nil => simp [Lib.indexByte]
  | cons x a ih =>
    have hx : ¬ x = c := fun e => h (by simp [e])
    have ih := ih (fun e => h (by simp [e]))
    rw [List.cons_append, Lib.indexByte, ih, if_neg (by simpa using hx), if_neg (by simp)]
    simp
theorem cutP_pair (p : Pr) (h : 61 ∉ p.n) : cutP (pairT p) = some p := by
  have hi := index_at p.n 61 p.v h
  unfold cutP pairT cutL
  rw [if_pos (by simp), hi]
  simp
theorem pairs_txt : ∀ (ds : List Pr) (p : Pr), (∀ x ∈ p :: ds, 61 ∉ x.n ∧ 44 ∉ x.n ∧ 44 ∉ x.v) → pairsL (parts 44 (txt (p :: ds))) = some (p :: ds)
  | [], p, h => by
    obtain ⟨h1, h2, h3⟩ := h p (by simp)
    have hn : 44 ∉ pairT p := by unfold pairT; simp [h2, h3]
    simp only [txt, txtR, List.append_nil]
    rw [parts_none _ _ hn]
    simp [pairsL, cutP_pair p h1]
  | q :: ds, p, h => by
    obtain ⟨h1, h2, h3⟩ := h p (by simp)
    have hn : 44 ∉ pairT p := by unfold pairT; simp [h2, h3]
    have ih := pairs_txt ds q (fun x hx => h x (by simp at hx ⊢; right; exact hx))
    have e : txt (p :: q :: ds) = pairT p ++ 44 :: txt (q :: ds) := by simp [txt, txtR]
    rw [e, parts_app _ _ _ hn]
    simp only [pairsL, cutP_pair p h1, ih]
end Go.Proofs.YtmgnmppdeiflbaaDoor
