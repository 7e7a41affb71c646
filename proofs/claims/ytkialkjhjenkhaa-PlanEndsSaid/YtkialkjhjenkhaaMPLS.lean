/- Layer 20: what a plan is: plain maths. The library's contract of slices.Sort at []string, laid over this program. Layer 20: a plan's names, rising. -/
import Derived.Test.YtkialkjhjenkhaaMPLN
import Derived.Shelf.Sort.Plain
import Derived.Shelf.Slices.In.SortNone
import Derived.Test.YtkialkjhjenkhaaProg
import Derived.Test.YtkialkjhjenkhaaMPLK
namespace Go.Proofs.Ytkialkjhjenkhaa
open Go.RowKit Go.Lib
set_option linter.unusedVariables false

def totOf (t : Tot) (l : List Mq) : Tot := l.foldl (fun t q => t.with q.m) t
theorem totOf_snoc (t : Tot) (l : List Mq) (q : Mq) : totOf t (l ++ [q]) = (totOf t l).with q.m := by unfold totOf; rw [List.foldl_append]; rfl
theorem fstG_fits (wd frm : Int) : ∀ (l : List Mq) (t : Tot) (acc : List Mq) (t0 : Tot), t = totOf t0 acc → t.fits = true → (totOf t0 (fstG wd frm l t acc)).fits = true
  | [], t, acc, t0, h, k => by unfold fstG; rw [← h]; exact k
  | q :: r, t, acc, t0, h, k => by
    unfold fstG
    split
    · rw [← h]; exact k
    · split
      · exact fstG_fits wd frm r t acc t0 h k
      · split
        · rename_i hf
          exact fstG_fits wd frm r _ _ t0 (by rw [totOf_snoc, h]) hf
        · rw [← h]; exact k
theorem fstG_sub (wd frm : Int) : ∀ (l : List Mq) (t : Tot) (acc : List Mq), (fstG wd frm l t acc).Sublist (acc ++ l)
  | [], t, acc => by unfold fstG; simp
  | q :: r, t, acc => by
    unfold fstG
    split
    · exact List.sublist_append_left _ _
    · split
      · exact (fstG_sub wd frm r t acc).trans (List.Sublist.append (List.Sublist.refl _) (List.sublist_cons_self _ _))
      · split
        · have := fstG_sub wd frm r (t.with q.m) (acc ++ [q])
          rw [List.append_assoc] at this
          exact this
        · exact List.sublist_append_left _ _
theorem fstG_range (wd frm : Int) : ∀ (l : List Mq) (t : Tot) (acc : List Mq), ∀ q ∈ fstG wd frm l t acc, q ∈ acc ∨ (q ∈ l ∧ q.m.mn - frm < wd ∧ q.m.mx - frm ≤ wd)
  | [], t, acc, q, h => .inl h
  | x :: r, t, acc, q, h => by
    unfold fstG at h
    split at h
    · exact .inl h
    · split at h
      · exact (fstG_range wd frm r t acc q h).imp id (fun h => ⟨List.mem_cons_of_mem _ h.1, h.2⟩)
      · split at h
        · rcases fstG_range wd frm r _ _ q h with h | h
          · rcases List.mem_append.1 h with h | h
            · exact .inl h
            · rw [List.mem_singleton] at h; subst h; exact .inr ⟨List.mem_cons_self .., by omega, by omega⟩
          · exact .inr ⟨List.mem_cons_of_mem _ h.1, h.2⟩
        · exact .inl h
theorem scan_tail (wd : Int) : ∀ (l s : List Mq), scanQ wd l = some s → ∃ q r, (q :: r).Sublist l ∧ s = fstQ wd (q :: r) ∧ 1 < s.length
  | [], s, h => by cases h
  | q :: r, s, h => by
    unfold scanQ at h
    split at h
    · rename_i hl
      have e := Option.some.inj h
      exact ⟨q, r, List.Sublist.refl _, e.symm, by rw [← e]; exact hl⟩
    · obtain ⟨q', r', h1, h2⟩ := scan_tail wd r s h
      exact ⟨q', r', h1.trans (List.sublist_cons_self _ _), h2⟩
/-- What holds of a plan's blocks. -/
structure PlanOk (wd : Int) (rs s : List Mq) (p0 : Mq) : Prop where
  sub : s.Sublist rs
  more : 1 < s.length
  most : s.length ≤ 20
  bytes : (s.map fun q => sumF q.m.files).sum ≤ 262144
  lo : ∀ q ∈ s, p0.m.mn ≤ q.m.mn
  hi : ∀ q ∈ s, q.m.mx ≤ toQ s
  range : p0.m.mn / (9 * wd) = (toQ s - 1) / (9 * wd)
  pos : 0 ≤ p0.m.mn ∧ 1 ≤ toQ s ∧ toQ s ≤ 1000000
  lv : 2 ≤ min (lvQ s + 1) 9 ∧ min (lvQ s + 1) 9 ≤ 9
theorem tot_by (s : List Mq) : ∀ (t : Tot), (totOf t s).b = t.b + s.length ∧ (totOf t s).y = t.y + (s.map fun q => sumF q.m.files).sum := by
  induction s with
  | nil => intro t; simp [totOf]
  | cons q s ih =>
    intro t
    have h := ih (t.with q.m)
    unfold totOf at *
    simp only [List.foldl_cons, List.map_cons, List.sum_cons, List.length_cons]
    rw [h.1, h.2]
    unfold Tot.with
    simp only
    omega
theorem toQ_ge (s : List Mq) : ∀ (a : Int), a ≤ s.foldl (fun a q => max a q.m.mx) a ∧ ∀ q ∈ s, q.m.mx ≤ s.foldl (fun a q => max a q.m.mx) a := by
  induction s with
  | nil => intro a; simp
  | cons x s ih =>
    intro a
    have h := ih (max a x.m.mx)
    simp only [List.foldl_cons, List.mem_cons]
    refine ⟨by have := h.1; omega, fun q hq => ?_⟩
    rcases hq with rfl | hq
    · have := h.1; omega
    · exact h.2 q hq
theorem toQ_le (s : List Mq) (b : Int) : ∀ (a : Int), a ≤ b → (∀ q ∈ s, q.m.mx ≤ b) → s.foldl (fun a q => max a q.m.mx) a ≤ b := by
  induction s with
  | nil => intro a h _; exact h
  | cons x s ih =>
    intro a h k
    exact ih _ (by have := k x (List.mem_cons_self ..); simp only; omega) (fun q hq => k q (List.mem_cons_of_mem _ hq))
theorem lvQ_ge (s : List Mq) : ∀ (a : Int), ∀ q ∈ s, q.m.lv ≤ s.foldl (fun a q => max a q.m.lv) a := by
  have up : ∀ (l : List Mq) (a : Int), a ≤ l.foldl (fun a q => max a q.m.lv) a := by
    intro l
    induction l with
    | nil => intro a; simp
    | cons x l ih => intro a; have := ih (max a x.m.lv); simp only [List.foldl_cons]; omega
  induction s with
  | nil => intro a q h; cases h
  | cons x s ih =>
    intro a q hq
    simp only [List.foldl_cons]
    rcases List.mem_cons.1 hq with rfl | hq
    · have := up s (max a q.m.lv); omega
    · exact ih _ q hq
theorem div_same (W D x y c : Int) (hW : 0 < W) (hD : D = W ∨ D = 3 * W) (h0 : W * c ≤ x) (h1 : x < W * c + W) (h2 : W * c ≤ y) (h3 : y < W * c + W) : x / D = y / D := by
  have hx : x / W = c := by
    apply Int.le_antisymm
    · exact Int.lt_add_one_iff.1 (Int.ediv_lt_of_lt_mul hW (by rw [Int.mul_comm, Int.mul_add, Int.mul_one]; exact h1))
    · exact Int.le_ediv_of_mul_le hW (by rw [Int.mul_comm]; exact h0)
  have hy : y / W = c := by
    apply Int.le_antisymm
    · exact Int.lt_add_one_iff.1 (Int.ediv_lt_of_lt_mul hW (by rw [Int.mul_comm, Int.mul_add, Int.mul_one]; exact h3))
    · exact Int.le_ediv_of_mul_le hW (by rw [Int.mul_comm]; exact h2)
  rcases hD with rfl | rfl
  · rw [hx, hy]
  · rw [Int.mul_comm 3 W, Int.ediv_mul_of_nonneg (by omega), Int.ediv_mul_of_nonneg (by omega), hx, hy]
/-- A block of the statements: its times, and its two files. -/
def OkP (m : Mt.Me) : Prop := OkB m ∧ m.mn + 1 ≤ m.mx ∧ 1 ≤ m.lv
theorem plan_ok (wd W : Int) (hw : 1 ≤ wd ∧ wd ≤ 1000) (hW : W = 3 * wd ∨ W = 9 * wd) (rs s : List Mq) (p0 : Mq) (hs : scanQ W rs = some s) (hp : s[0]? = some p0) (hup : (rs.map Mq.m).Pairwise ltM) (hok : ∀ q ∈ rs, OkP q.m) : PlanOk wd rs s p0 := by
  obtain ⟨q, r, hsub, rfl, hlen⟩ := scan_tail W rs s hs
  have hWp : 0 < W := by omega
  have hq := hok q (hsub.subset (List.mem_cons_self ..))
  have hmod0 : 0 ≤ q.m.mn % W := Int.emod_nonneg _ (by omega)
  have hdm := Int.emod_add_mul_ediv q.m.mn W
  have hc0 : 0 ≤ q.m.mn / W := Int.ediv_nonneg hq.1.1.1 (by omega)
  have hfrm : frmOf W q.m.mn = W * (q.m.mn / W) := by unfold frmOf; omega
  have hfrm0 : 0 ≤ frmOf W q.m.mn := by rw [hfrm]; exact Int.mul_nonneg (by omega) hc0
  have hfq : frmOf W q.m.mn ≤ q.m.mn := by unfold frmOf; omega
  have sub1 : (fstQ W (q :: r)).Sublist (q :: r) := by
    have := fstG_sub W (frmOf W q.m.mn) (q :: r) ⟨0, 0, 0, 0⟩ []
    simpa [fstQ] using this
  have hsub2 : (fstQ W (q :: r)).Sublist rs := sub1.trans hsub
  have hrange : ∀ x ∈ fstQ W (q :: r), x.m.mn - frmOf W q.m.mn < W ∧ x.m.mx - frmOf W q.m.mn ≤ W := by
    intro x hx
    exact ((fstG_range W (frmOf W q.m.mn) (q :: r) ⟨0, 0, 0, 0⟩ [] x hx).resolve_left (by simp)).2
  have hfit := fstG_fits W (frmOf W q.m.mn) (q :: r) ⟨0, 0, 0, 0⟩ [] ⟨0, 0, 0, 0⟩ rfl (by decide)
  have hfit2 : (totOf ⟨0, 0, 0, 0⟩ (fstQ W (q :: r))).fits = true := hfit
  obtain ⟨hb, hy⟩ := tot_by (fstQ W (q :: r)) ⟨0, 0, 0, 0⟩
  unfold Tot.fits at hfit2
  simp only [Bool.and_eq_true, decide_eq_true_eq] at hfit2
  rw [hb, hy] at hfit2
  simp only at hfit2
  have pw : ((q :: r).map Mq.m).Pairwise ltM := hup.sublist (hsub.map Mq.m)
  have pws : ((fstQ W (q :: r)).map Mq.m).Pairwise ltM := hup.sublist (hsub2.map Mq.m)
  have hge : ∀ x ∈ q :: r, q.m.mn ≤ x.m.mn := by
    rw [List.map_cons, List.pairwise_cons] at pw
    intro x hx
    rcases List.mem_cons.1 hx with rfl | hx
    · omega
    · rcases pw.1 x.m (List.mem_map_of_mem hx) with h | h <;> omega
  have hp0 : p0 ∈ fstQ W (q :: r) := List.mem_of_getElem? hp
  have hmx : ∀ x ∈ fstQ W (q :: r), x.m.mx ≤ toQ (fstQ W (q :: r)) := (toQ_ge _ 0).2
  have hto : toQ (fstQ W (q :: r)) ≤ frmOf W q.m.mn + W := toQ_le _ _ 0 (by omega) (fun x hx => by have := (hrange x hx).2; omega)
  have hto2 : toQ (fstQ W (q :: r)) ≤ 1000000 := toQ_le _ _ 0 (by omega) (fun x hx => (hok x (hsub2.subset hx)).1.2.1.2)
  have hp0m := hok p0 (hsub2.subset hp0)
  have hpm1 : p0.m.mn + 1 ≤ p0.m.mx := hp0m.2.1
  have hpm0 : 0 ≤ p0.m.mn := hp0m.1.1.1
  have hp0q := hge p0 (sub1.subset hp0)
  have hp0r := hrange p0 hp0
  have hp0x := hmx p0 hp0
  refine ⟨hsub2, hlen, by omega, by omega, fun x hx => ?_, hmx, ?_, ⟨hp0m.1.1.1, by omega, hto2⟩, ?_⟩
  · -- sorted
    cases hS : fstQ W (q :: r) with
    | nil => rw [hS] at hx; cases hx
    | cons y ys =>
      rw [hS] at hp hx pws
      obtain rfl : y = p0 := by simpa using hp
      rw [List.map_cons, List.pairwise_cons] at pws
      rcases List.mem_cons.1 hx with rfl | hx
      · omega
      · rcases pws.1 x.m (List.mem_map_of_mem hx) with h | h <;> omega
  · refine div_same W (9 * wd) _ _ (q.m.mn / W) hWp (by omega) ?_ ?_ ?_ ?_ <;> rw [← hfrm] <;> omega
  · have h1 := lvQ_ge (fstQ W (q :: r)) 0 p0 hp0
    have h2 : p0.m.lv ≤ lvQ (fstQ W (q :: r)) := h1
    have h3 := hp0m.2.2
    omega
end Go.Proofs.Ytkialkjhjenkhaa

namespace Go.Proofs.Ytkialkjhjenkhaa
open Go.Shelf Go.Proofs
def lays190_ren : Go.Shelf.Ren := ⟨fun | 190 => 31 | 125 => 48 | 258 => 47 | 128 => 64 | 129 => 65 | 302 => 55 | 303 => 56 | 304 => 57 | 305 => 58 | 306 => 59 | 307 => 60 | 308 => 61 | 309 => 62 | 310 => 63 | 333 => 76 | 329 => 77 | 330 => 78 | 334 => 79 | 335 => 80 | 336 => 81 | 344 => 86 | n => n, fun | 31 => 43 | 9 => 9 | 3 => 3 | 46 => 100 | 0 => 0 | 51 => 55 | 53 => 119 | 4 => 4 | 183 => 111 | 182 => 110 | 131 => 54 | 5 => 5 | 218 => 125 | 222 => 129 | 228 => 134 | 229 => 135 | n => n, fun | n => n⟩
theorem lays190 : Go.Proofs.Lays.n190 Try.prog lays190_ren := {
  mixed := by kernel_rfl
  f125 := Try.func48.trans (congrArg some (by kernel_rfl))
  f128 := Try.func64.trans (congrArg some (by kernel_rfl))
  f129 := Try.func65.trans (congrArg some (by kernel_rfl))
  f190 := Try.func31.trans (congrArg some (by kernel_rfl))
  f258 := Try.func47.trans (congrArg some (by kernel_rfl))
  f302 := Try.func55.trans (congrArg some (by kernel_rfl))
  f303 := Try.func56.trans (congrArg some (by kernel_rfl))
  f304 := Try.func57.trans (congrArg some (by kernel_rfl))
  f305 := Try.func58.trans (congrArg some (by kernel_rfl))
  f306 := Try.func59.trans (congrArg some (by kernel_rfl))
  f307 := Try.func60.trans (congrArg some (by kernel_rfl))
  f308 := Try.func61.trans (congrArg some (by kernel_rfl))
  f309 := Try.func62.trans (congrArg some (by kernel_rfl))
  f310 := Try.func63.trans (congrArg some (by kernel_rfl))
  f329 := Try.func77.trans (congrArg some (by kernel_rfl))
  f330 := Try.func78.trans (congrArg some (by kernel_rfl))
  f333 := Try.func76.trans (congrArg some (by kernel_rfl))
  f334 := Try.func79.trans (congrArg some (by kernel_rfl))
  f335 := Try.func80.trans (congrArg some (by kernel_rfl))
  f336 := Try.func81.trans (congrArg some (by kernel_rfl))
  f344 := Try.func86.trans (congrArg some (by kernel_rfl))
  t0 := Try.underlying0
  a0 := Try.isAgg0
  z0 := Try.sizeOf0
  v0 := Try.zeroValue0
  t3 := Try.underlying3
  a3 := Try.isAgg3
  z3 := Try.sizeOf3
  v3 := Try.zeroValue3
  t4 := Try.underlying4
  a4 := Try.isAgg4
  z4 := Try.sizeOf4
  v4 := Try.zeroValue4
  t5 := Try.underlying5
  a5 := Try.isAgg5
  z5 := Try.sizeOf5
  v5 := Try.zeroValue5
  t9 := Try.underlying9
  a9 := Try.isAgg9
  z9 := Try.sizeOf9
  v9 := Try.zeroValue9
  t31 := Try.underlying43
  a31 := Try.isAgg43
  z31 := Try.sizeOf43
  v31 := Try.zeroValue43
  t46 := Try.underlying100
  a46 := Try.isAgg100
  z46 := Try.sizeOf100
  v46 := Try.zeroValue100
  t51 := Try.underlying55
  a51 := Try.isAgg55
  z51 := Try.sizeOf55
  v51 := Try.zeroValue55
  t53 := Try.underlying119
  a53 := Try.isAgg119
  z53 := Try.sizeOf119
  v53 := Try.zeroValue119
  t131 := Try.underlying54
  a131 := Try.isAgg54
  z131 := Try.sizeOf54
  v131 := Try.zeroValue54
  t182 := Try.underlying110
  a182 := Try.isAgg110
  z182 := Try.sizeOf110
  v182 := Try.zeroValue110
  t183 := Try.underlying111
  a183 := Try.isAgg111
  z183 := Try.sizeOf111
  v183 := Try.zeroValue111
  t218 := Try.underlying125
  a218 := Try.isAgg125
  z218 := Try.sizeOf125
  v218 := Try.zeroValue125
  t222 := Try.underlying129
  a222 := Try.isAgg129
  z222 := Try.sizeOf129
  v222 := Try.zeroValue129
  t228 := Try.underlying134
  a228 := Try.isAgg134
  z228 := Try.sizeOf134
  v228 := Try.zeroValue134
  t229 := Try.underlying135
  a229 := Try.isAgg135
  z229 := Try.sizeOf135
  v229 := Try.zeroValue135 }
open Go.Sort Go.RowKit in
theorem slices_Sort_string (blk off cap : Nat) (ss : List (List UInt8)) (w : World) (hH : Holds encStr w blk off ss.toArray) (hblk : blk < w.heap.size) (hsz : ss.length < 4611686018427387904) :
    Calls Try.prog 31 #[.slice (some ⟨blk, off, none⟩) ss.length cap] w fun e w' =>
      e = .returned (.tuple #[]) ∧ ∃ n os, w' = grow (putRow encStr (Sort.ahead w n) blk off (ss.mergeSort fun x y => decide (x ≤ y)).toArray) os := Any.slices_Sort_string lays190 blk off cap ss w hH hblk hsz
open Go.Sort Go.RowKit in
theorem slices_Sort_string_none (p : Option Addr) (cap : Nat) (w : World) :
    Calls Try.prog 31 #[.slice p 0 cap] w fun e w' => e = .returned (.tuple #[]) ∧ w' = w := Any.slices_Sort_string_none lays190 p cap w
end Go.Proofs.Ytkialkjhjenkhaa

namespace Go.Proofs.Ytkialkjhjenkhaa
open Go.RowKit Go.Lib
open Go.Proofs (encStr)
set_option linter.unusedVariables false

theorem get_str20 (ss : List (List UInt8)) (j : Nat) (hj : j < ss.length) : (ss.map encStr)[j]? = some (encStr ss.toArray[j]!) := by
  simp [hj]
def sortN (ss : List (List UInt8)) : List (List UInt8) := ss.mergeSort fun x y => decide (x ≤ y)
theorem sc_enc (ss : List (List UInt8)) : sc ss = ss.map encStr := rfl
/-- Names sorted where they lie. -/
theorem sortn_any (v : Value) (ss : List (List UInt8)) (base : Nat) (w : World) (hs : Sl w base 1 v ss.length (sc ss)) (hlen : ss.length ≤ 1000) :
    Calls Try.prog 31 #[v] w fun e w' => e = .returned (.tuple #[]) ∧ Sl w' base 1 v ss.length (sc (sortN ss)) ∧ Turn (fun k => v.ownBlock = some k) w w' := by
  rcases hs.2 with ⟨rfl, h0⟩ | ⟨g, off, cap, rfl, hb, hg, hnc, hcm, hfree, hcell⟩
  · have hnil : ss = [] := List.eq_nil_of_length_eq_zero h0
    subst hnil
    refine (slices_Sort_string_none none 0 w).mono ?_
    rintro e w' ⟨rfl, rfl⟩
    exact ⟨rfl, by simpa [sortN] using hs, Turn.refl _ _⟩
  · have hH : Sort.Holds encStr w g off ss.toArray := by
      intro j hj
      have hj' : j < ss.length := by simpa using hj
      exact ⟨(hcell j (by omega)).trans (get_str20 ss j hj'), (hfree j (by omega)).2⟩
    refine (slices_Sort_string g off cap ss w hH hg (by omega)).mono ?_
    rintro e w' ⟨rfl, n, os, rfl⟩
    obtain ⟨ts, hts⟩ : ∃ ts, ts = sortN ss := ⟨_, rfl⟩
    have htl : ts.length = ss.length := by rw [hts]; exact List.length_mergeSort ss
    rw [← hts]
    rw [show (ss.mergeSort fun x y => decide (x ≤ y)) = ts from hts.symm]
    have hg' : g < (Sort.putRow encStr (Sort.ahead w n) g off ts.toArray).heap.size := by simpa using hg
    have hcells : ∀ j, j < ts.length → (Sort.grow (Sort.putRow encStr (Sort.ahead w n) g off ts.toArray) os).cell? ⟨g, off + j, none⟩ = some (encStr ts.toArray[j]!) := fun j hj => by
      rw [Sort.cell?_grow _ _ _ hg']
      exact Sort.cell?_putRow encStr (Sort.ahead w n) g off ss.toArray ts.toArray hH (by simp [htl]) j (by simpa using hj)
    refine ⟨rfl, ⟨by simp [sc_enc, htl], .inr ⟨g, off, cap, rfl, hb, by simp; omega, hnc, hcm, fun j hj => ⟨?_, ?_⟩, fun j hj => ?_⟩⟩, rfl, rfl, rfl, by simp, fun k hk hne => ?_⟩
    · by_cases hjt : j < ts.length
      · rw [hcells j hjt]; rfl
      · rw [Sort.cell?_grow _ _ _ hg', Sort.cell?_putRow_other _ _ _ _ _ _ (.inr (.inr (by simp; omega)))]
        exact (hfree j hj).1
    · rw [Sort.frozen?_grow _ _ _ hg', Sort.frozen?_putRow]
      exact (hfree j hj).2
    · rw [hcells j (by omega)]
      exact (get_str20 ts j (by omega)).symm
    · rw [Sort.heap_grow_old _ _ (by simpa using hk)]
      have hgk : g ≠ k := fun e => hne (by rw [e]; rfl)
      simp [Sort.putRow, Sort.mapBlock, Sort.ahead, Array.getElem?_modify, hgk]
/-- Of names that differ: they rise. -/
theorem sortN_up (ss : List (List UInt8)) (h : ss.Pairwise (fun x y => x ≠ y)) : (sortN ss).Pairwise (· < ·) := by
  have hp : (sortN ss).Perm ss := List.mergeSort_perm ss _
  have h1 : (sortN ss).Pairwise (fun a b => decide (a ≤ b) = true) := List.pairwise_mergeSort (fun a b c h k => by
    simp only [decide_eq_true_eq] at *; exact List.le_trans h k) (fun a b => by
    simp only [Bool.or_eq_true, decide_eq_true_eq]; exact List.le_total a b) ss
  have h2 : (sortN ss).Pairwise (fun x y => x ≠ y) := (hp.symm.pairwise_iff (fun {a b} h e => h e.symm)).1 h
  refine (h1.and h2).imp (fun {a b} hab => ?_)
  have h3 : a ≤ b := by simpa using hab.1
  rcases bytes_tri a b with e | e | e
  · exact e
  · exact absurd e hab.2
  · exact absurd e (List.not_lt.2 h3)
set_option maxHeartbeats 1000000 in
set_option maxRecDepth 100000 in
theorem pnames_any (a b c : Int) (v : Value) (qs : List Mq) (w : World) (h : MsR w v qs) (hm : qs.length ≤ 1000) :
    Calls Try.prog 16 #[planV a b c v] w fun e w' => ∃ v', e = .returned v' ∧ Sl w' w.heap.size 1 v' qs.length (sc (sortN (ids qs))) ∧ Below w.heap.size w w' := by
  have NM := Lib.hid (fun W (bb : Below w.heap.size w W) => names_any v qs W (h.on bb) hm)
  obtain ⟨av, kv, rfl⟩ := rd_form h.rd
  have hidl : (ids qs).length = qs.length := by simp [ids]
  have HIL := Lib.hid hidl
  have BA := Lib.hid (show Below w.heap.size w (w.alloc (.cells #[.int .i64 a, .int .i64 b, .int .i64 c, .slice av qs.length kv] 33)) from (Below.refl _ _).alloc (Nat.le_refl _) _)
  clear h hidl
  unfold planV
  go_enter Try.func16, Try.ntmps16
  go_wp2_with (first
    | (go_at_call 27; (with_reducible refine (NM.out _ BA.out).mono ?_); rintro e w1 ⟨v1, rfl, sl1, b1⟩; have B1 := Lib.hid (BA.out.trans (b1.mono (by simp))); have z1 := b1.size; have SL1 := Lib.hid sl1; have SR := Lib.hid (sortn_any v1 (ids qs) (w.alloc (.cells #[.int .i64 a, .int .i64 b, .int .i64 c, .slice av qs.length kv] 33)).heap.size w1 (by rw [HIL.out]; exact sl1) (by rw [HIL.out]; exact hm)); clear sl1 b1)
    | (go_at_call 31; (with_reducible refine SR.out.mono ?_); rintro e w2 ⟨rfl, sl2, t2⟩)
    | fail)
  go_ret
  rw [HIL.out] at sl2
  refine ⟨_, rfl, sl2.mono (by simp), B1.out.trans (t2.below (by simp at z1; omega) (fun k hk => by have := (SL1.out.lt k hk).1; simp at this; omega))⟩
end Go.Proofs.Ytkialkjhjenkhaa
