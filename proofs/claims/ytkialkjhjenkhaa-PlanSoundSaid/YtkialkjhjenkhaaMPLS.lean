/- Layer 20: what a plan is: plain maths. -/
import Derived.Test.YtkialkjhjenkhaaMPLP
namespace Go.Proofs.Ytkialkjhjenkhaa
open Go.RowKit Go.Lib
set_option linter.unusedVariables false

def totOf (t : Tot) (l : List Mq) : Tot := l.foldl (fun t q => t.with q.m) t
theorem totOf_snoc (t : Tot) (l : List Mq) (q : Mq) : totOf t (l ++ [q]) = (totOf t l).with q.m := by unfold totOf; rw [List.foldl_append]; rfl
theorem fstG_fits (wd frm : Int) : ∀ (l : List Mq) (t : Tot) (acc : List Mq) (t0 : Tot), t = totOf t0 acc → t.fits = true → (totOf t0 (fstG wd frm l t acc)).fits = true
  | [], t, acc, t0, h, k => by unfold fstG; rw [← h]; exact k
  | q :: r, t, acc, t0, h, k => by
    unfold fstG
    split
    · rw [← h]; exact k
    · split
      · exact fstG_fits wd frm r t acc t0 h k
      · split
        · rename_i hf
          exact fstG_fits wd frm r _ _ t0 (by rw [totOf_snoc, h]) hf
        · rw [← h]; exact k
theorem fstG_sub (wd frm : Int) : ∀ (l : List Mq) (t : Tot) (acc : List Mq), (fstG wd frm l t acc).Sublist (acc ++ l)
  | [], t, acc => by unfold fstG; simp
  | q :: r, t, acc => by
    unfold fstG
    split
    · exact List.sublist_append_left _ _
    · split
      · exact (fstG_sub wd frm r t acc).trans (List.Sublist.append (List.Sublist.refl _) (List.sublist_cons_self _ _))
      · split
        · have := fstG_sub wd frm r (t.with q.m) (acc ++ [q])
          rw [List.append_assoc] at this
          exact this
        · exact List.sublist_append_left _ _
theorem fstG_range (wd frm : Int) : ∀ (l : List Mq) (t : Tot) (acc : List Mq), ∀ q ∈ fstG wd frm l t acc, q ∈ acc ∨ (q ∈ l ∧ q.m.mn - frm < wd ∧ q.m.mx - frm ≤ wd)
  | [], t, acc, q, h => .inl h
  | x :: r, t, acc, q, h => by
    unfold fstG at h
    split at h
    · exact .inl h
    · split at h
      · exact (fstG_range wd frm r t acc q h).imp id (fun h => ⟨List.mem_cons_of_mem _ h.1, h.2⟩)
      · split at h
        · rcases fstG_range wd frm r _ _ q h with h | h
          · rcases List.mem_append.1 h with h | h
            · exact .inl h
            · rw [List.mem_singleton] at h; subst h; exact .inr ⟨List.mem_cons_self .., by omega, by omega⟩
          · exact .inr ⟨List.mem_cons_of_mem _ h.1, h.2⟩
        · exact .inl h
theorem scan_tail (wd : Int) : ∀ (l s : List Mq), scanQ wd l = some s → ∃ q r, (q :: r).Sublist l ∧ s = fstQ wd (q :: r) ∧ 1 < s.length
  | [], s, h => by cases h
  | q :: r, s, h => by
    unfold scanQ at h
    split at h
    · rename_i hl
      have e := Option.some.inj h
      exact ⟨q, r, List.Sublist.refl _, e.symm, by rw [← e]; exact hl⟩
    · obtain ⟨q', r', h1, h2⟩ := scan_tail wd r s h
      exact ⟨q', r', h1.trans (List.sublist_cons_self _ _), h2⟩
/-- What holds of a plan's blocks. -/
structure PlanOk (wd : Int) (rs s : List Mq) (p0 : Mq) : Prop where
  sub : s.Sublist rs
  more : 1 < s.length
  most : s.length ≤ 20
  bytes : (s.map fun q => sumF q.m.files).sum ≤ 262144
  lo : ∀ q ∈ s, p0.m.mn ≤ q.m.mn
  hi : ∀ q ∈ s, q.m.mx ≤ toQ s
  range : p0.m.mn / (9 * wd) = (toQ s - 1) / (9 * wd)
  pos : 0 ≤ p0.m.mn ∧ 1 ≤ toQ s ∧ toQ s ≤ 1000000
  lv : 2 ≤ min (lvQ s + 1) 9 ∧ min (lvQ s + 1) 9 ≤ 9
theorem tot_by (s : List Mq) : ∀ (t : Tot), (totOf t s).b = t.b + s.length ∧ (totOf t s).y = t.y + (s.map fun q => sumF q.m.files).sum := by
  induction s with
  | nil => intro t; simp [totOf]
  | cons q s ih =>
    intro t
    have h := ih (t.with q.m)
    unfold totOf at *
    simp only [List.foldl_cons, List.map_cons, List.sum_cons, List.length_cons]
    rw [h.1, h.2]
    unfold Tot.with
    simp only
    omega
theorem toQ_ge (s : List Mq) : ∀ (a : Int), a ≤ s.foldl (fun a q => max a q.m.mx) a ∧ ∀ q ∈ s, q.m.mx ≤ s.foldl (fun a q => max a q.m.mx) a := by
  induction s with
  | nil => intro a; simp
  | cons x s ih =>
    intro a
    have h := ih (max a x.m.mx)
    simp only [List.foldl_cons, List.mem_cons]
    refine ⟨by have := h.1; omega, fun q hq => ?_⟩
    rcases hq with rfl | hq
    · have := h.1; omega
    · exact h.2 q hq
theorem toQ_le (s : List Mq) (b : Int) : ∀ (a : Int), a ≤ b → (∀ q ∈ s, q.m.mx ≤ b) → s.foldl (fun a q => max a q.m.mx) a ≤ b := by
  induction s with
  | nil => intro a h _; exact h
  | cons x s ih =>
    intro a h k
    exact ih _ (by have := k x (List.mem_cons_self ..); simp only; omega) (fun q hq => k q (List.mem_cons_of_mem _ hq))
theorem lvQ_ge (s : List Mq) : ∀ (a : Int), ∀ q ∈ s, q.m.lv ≤ s.foldl (fun a q => max a q.m.lv) a := by
  have up : ∀ (l : List Mq) (a : Int), a ≤ l.foldl (fun a q => max a q.m.lv) a := by
    intro l
    induction l with
    | nil => intro a; simp
    | cons x l ih => intro a; have := ih (max a x.m.lv); simp only [List.foldl_cons]; omega
  induction s with
  | nil => intro a q h; cases h
  | cons x s ih =>
    intro a q hq
    simp only [List.foldl_cons]
    rcases List.mem_cons.1 hq with rfl | hq
    · have := up s (max a q.m.lv); omega
    · exact ih _ q hq
theorem div_same (W D x y c : Int) (hW : 0 < W) (hD : D = W ∨ D = 3 * W) (h0 : W * c ≤ x) (h1 : x < W * c + W) (h2 : W * c ≤ y) (h3 : y < W * c + W) : x / D = y / D := by
  have hx : x / W = c := by
    apply Int.le_antisymm
    · exact Int.lt_add_one_iff.1 (Int.ediv_lt_of_lt_mul hW (by rw [Int.mul_comm, Int.mul_add, Int.mul_one]; exact h1))
    · exact Int.le_ediv_of_mul_le hW (by rw [Int.mul_comm]; exact h0)
  have hy : y / W = c := by
    apply Int.le_antisymm
    · exact Int.lt_add_one_iff.1 (Int.ediv_lt_of_lt_mul hW (by rw [Int.mul_comm, Int.mul_add, Int.mul_one]; exact h3))
    · exact Int.le_ediv_of_mul_le hW (by rw [Int.mul_comm]; exact h2)
  rcases hD with rfl | rfl
  · rw [hx, hy]
  · rw [Int.mul_comm 3 W, Int.ediv_mul_of_nonneg (by omega), Int.ediv_mul_of_nonneg (by omega), hx, hy]
/-- A block of the statements: its times, and its two files. -/
def OkP (m : Mt.Me) : Prop := OkB m ∧ m.mn + 1 ≤ m.mx ∧ 1 ≤ m.lv
theorem plan_ok (wd W : Int) (hw : 1 ≤ wd ∧ wd ≤ 1000) (hW : W = 3 * wd ∨ W = 9 * wd) (rs s : List Mq) (p0 : Mq) (hs : scanQ W rs = some s) (hp : s[0]? = some p0) (hup : (rs.map Mq.m).Pairwise ltM) (hok : ∀ q ∈ rs, OkP q.m) : PlanOk wd rs s p0 := by
  obtain ⟨q, r, hsub, rfl, hlen⟩ := scan_tail W rs s hs
  have hWp : 0 < W := by omega
  have hq := hok q (hsub.subset (List.mem_cons_self ..))
  have hmod0 : 0 ≤ q.m.mn % W := Int.emod_nonneg _ (by omega)
  have hdm := Int.emod_add_mul_ediv q.m.mn W
  have hc0 : 0 ≤ q.m.mn / W := Int.ediv_nonneg hq.1.1.1 (by omega)
  have hfrm : frmOf W q.m.mn = W * (q.m.mn / W) := by unfold frmOf; omega
  have hfrm0 : 0 ≤ frmOf W q.m.mn := by rw [hfrm]; exact Int.mul_nonneg (by omega) hc0
  have hfq : frmOf W q.m.mn ≤ q.m.mn := by unfold frmOf; omega
  have sub1 : (fstQ W (q :: r)).Sublist (q :: r) := by
    have := fstG_sub W (frmOf W q.m.mn) (q :: r) ⟨0, 0, 0, 0⟩ []
    simpa [fstQ] using this
  have hsub2 : (fstQ W (q :: r)).Sublist rs := sub1.trans hsub
  have hrange : ∀ x ∈ fstQ W (q :: r), x.m.mn - frmOf W q.m.mn < W ∧ x.m.mx - frmOf W q.m.mn ≤ W := by
    intro x hx
    exact ((fstG_range W (frmOf W q.m.mn) (q :: r) ⟨0, 0, 0, 0⟩ [] x hx).resolve_left (by simp)).2
  have hfit := fstG_fits W (frmOf W q.m.mn) (q :: r) ⟨0, 0, 0, 0⟩ [] ⟨0, 0, 0, 0⟩ rfl (by decide)
  have hfit2 : (totOf ⟨0, 0, 0, 0⟩ (fstQ W (q :: r))).fits = true := hfit
  obtain ⟨hb, hy⟩ := tot_by (fstQ W (q :: r)) ⟨0, 0, 0, 0⟩
  unfold Tot.fits at hfit2
  simp only [Bool.and_eq_true, decide_eq_true_eq] at hfit2
  rw [hb, hy] at hfit2
  simp only at hfit2
  have pw : ((q :: r).map Mq.m).Pairwise ltM := hup.sublist (hsub.map Mq.m)
  have pws : ((fstQ W (q :: r)).map Mq.m).Pairwise ltM := hup.sublist (hsub2.map Mq.m)
  have hge : ∀ x ∈ q :: r, q.m.mn ≤ x.m.mn := by
    rw [List.map_cons, List.pairwise_cons] at pw
    intro x hx
    rcases List.mem_cons.1 hx with rfl | hx
    · omega
    · rcases pw.1 x.m (List.mem_map_of_mem hx) with h | h <;> omega
  have hp0 : p0 ∈ fstQ W (q :: r) := List.mem_of_getElem? hp
  have hmx : ∀ x ∈ fstQ W (q :: r), x.m.mx ≤ toQ (fstQ W (q :: r)) := (toQ_ge _ 0).2
  have hto : toQ (fstQ W (q :: r)) ≤ frmOf W q.m.mn + W := toQ_le _ _ 0 (by omega) (fun x hx => by have := (hrange x hx).2; omega)
  have hto2 : toQ (fstQ W (q :: r)) ≤ 1000000 := toQ_le _ _ 0 (by omega) (fun x hx => (hok x (hsub2.subset hx)).1.2.1.2)
  have hp0m := hok p0 (hsub2.subset hp0)
  have hpm1 : p0.m.mn + 1 ≤ p0.m.mx := hp0m.2.1
  have hpm0 : 0 ≤ p0.m.mn := hp0m.1.1.1
  have hp0q := hge p0 (sub1.subset hp0)
  have hp0r := hrange p0 hp0
  have hp0x := hmx p0 hp0
  refine ⟨hsub2, hlen, by omega, by omega, fun x hx => ?_, hmx, ?_, ⟨hp0m.1.1.1, by omega, hto2⟩, ?_⟩
  · -- sorted
    cases hS : fstQ W (q :: r) with
    | nil => rw [hS] at hx; cases hx
    | cons y ys =>
      rw [hS] at hp hx pws
      obtain rfl : y = p0 := by simpa using hp
      rw [List.map_cons, List.pairwise_cons] at pws
      rcases List.mem_cons.1 hx with rfl | hx
      · omega
      · rcases pws.1 x.m (List.mem_map_of_mem hx) with h | h <;> omega
  · refine div_same W (9 * wd) _ _ (q.m.mn / W) hWp (by omega) ?_ ?_ ?_ ?_ <;> rw [← hfrm] <;> omega
  · have h1 := lvQ_ge (fstQ W (q :: r)) 0 p0 hp0
    have h2 : p0.m.lv ≤ lvQ (fstQ W (q :: r)) := h1
    have h3 := hp0m.2.2
    omega
end Go.Proofs.Ytkialkjhjenkhaa
