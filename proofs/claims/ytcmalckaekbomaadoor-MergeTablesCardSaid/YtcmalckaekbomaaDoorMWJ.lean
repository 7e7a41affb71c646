/- Layer 14: slices of slices of samples of series that came in, opened; lists being made in a slice. Layer 14: what is between two times, in plain words. -/
import Derived.Test.YtcmalckaekbomaaDoorMWG
namespace Go.Proofs.YtcmalckaekbomaaDoor
open Go.RowKit Go.Lib Go.Deep Go.ChangeShapes Go.WideShapes Hp
set_option linter.unusedVariables false

structure Ol where
  a : Option Addr
  n : Nat
  c : Nat
  zs : List On
/-- Slices of samples in a slice, read from cells. -/
def OnlR (w : World) (ao : Option Addr) (len : Nat) (L : List Ol) : Prop :=
  len ≤ maxLen ∧ L.length = len ∧ (0 < len → ∃ g off, ao = some ⟨g, off, none⟩ ∧ g < w.heap.size ∧ ∀ j o, L[j]? = some o → w.cell? ⟨g, off + j, none⟩ = some (.slice o.a o.n o.c) ∧ OnR w o.a o.n o.zs)
theorem list_of14 {α : Type} {n : Nat} {P : Nat → α → Prop} (h : ∀ j, j < n → ∃ x, P j x) : ∃ l : List α, l.length = n ∧ ∀ (j : Nat) x, l[j]? = some x → P j x := by
  induction n with
  | zero => exact ⟨[], rfl, fun j x hx => by simp at hx⟩
  | succ n ih =>
    obtain ⟨l, hl, hP⟩ := ih fun j hj => h j (by omega)
    obtain ⟨x, hx⟩ := h n (by omega)
    refine ⟨l ++ [x], by simp [hl], fun j y hy => ?_⟩
    rcases Nat.lt_or_ge j n with hj | hj
    · rw [List.getElem?_append_left (by omega)] at hy
      exact hP j y hy
    · have : j = n := by have := (List.getElem?_eq_some_iff.1 hy).1; simp at this; omega
      subst this
      rw [List.getElem?_append_right (by omega), hl, Nat.sub_self] at hy
      obtain rfl : x = y := by simpa using hy
      exact hx
theorem onl_open {H : Type} {enc : TypeId × Value → H} {W : World} {base : Nat} {spare : Nat → Bool} {held : Bool} {fuel : Nat} {ao : Option Addr} {len cap : Nat} {x : DataW H × List MemPlace}
    (h : DataW.trod enc Tryd.prog W base spare held fuel 22 [.slice ao len cap] = some x) : ∃ L, len ≤ maxLen ∧ OnlR W ao len L := by
  have ce : Tryd.prog.cellsOf 28 = 1 := by kernel_rfl
  rcases DataW.trod_slice Tryd.underlying22 h with ⟨hcs, _⟩ | ⟨a, len', cap', elems, rest, n, _, hcs, _, hb, hl, hm, hlen, hel, _, _⟩
  · simp only [List.cons.injEq, Value.slice.injEq, and_true] at hcs
    obtain ⟨rfl, rfl, rfl⟩ := hcs
    exact ⟨[], Nat.zero_le _, Nat.zero_le _, rfl, fun h => absurd h (Nat.lt_irrefl 0)⟩
  · simp only [List.cons.injEq, Value.slice.injEq, and_true] at hcs
    obtain ⟨rfl, rfl, rfl⟩ := hcs
    have each : ∀ j, j < len → ∃ o : Ol, W.cell? (a.add j) = some (.slice o.a o.n o.c) ∧ OnR W o.a o.n o.zs := fun j hj => by
      have hy := hel j hj
      rw [List.getElem?_eq_getElem (by omega), ce, Nat.mul_one, Option.bind_eq_some_iff] at hy
      obtain ⟨cs', hcs', hy'⟩ := hy
      rcases DataW.trod_slice Tryd.underlying28 hy' with ⟨rfl, _⟩ | ⟨a2, len2, cap2, _, _, _, _, rfl, _⟩
      · obtain ⟨zs, _, hz⟩ := ons_open hy'
        exact ⟨⟨_, _, _, zs⟩, cell_of_cells?_one hcs', hz⟩
      · obtain ⟨zs, _, hz⟩ := ons_open hy'
        exact ⟨⟨_, _, _, zs⟩, cell_of_cells?_one hcs', hz⟩
    obtain ⟨L, hll, hP⟩ := list_of14 each
    refine ⟨L, Nat.le_trans hl hm, Nat.le_trans hl hm, hll, fun h0 => ?_⟩
    obtain ⟨hv, _⟩ := hP 0 (L[0]'(by omega)) (List.getElem?_eq_getElem (by omega))
    obtain ⟨g, off, spot⟩ := a
    have hspot : spot = none := by
      have := World.cell?_spot hv
      simpa [Addr.add] using this
    subst hspot
    have hg := World.block_lt_of_cell? W _ hv
    refine ⟨g, off, rfl, by simpa [Addr.add] using hg, fun j o hj => ?_⟩
    obtain ⟨h1, h2⟩ := hP j o hj
    rw [Addr.add_lit] at h1
    exact ⟨h1, h2⟩

/-- A list as it lies. -/
structure Xi where
  v : Value
  l : List Sp
instance : Inhabited Xi := ⟨⟨.slice none 0 0, []⟩⟩
/-- Lists that are being laid into a slice. -/
structure LsN (w : World) (B : Nat) (v : Value) (qs : List Xi) : Prop where
  sl : Sl w B 1 v qs.length (qs.map Xi.v)
  ok : ∀ q ∈ qs, Rd w 2 q.v q.l.length (spc q.l) ∧ Capd q.v q.l.length ∧ Off q.v q.l.length v
theorem LsN.on {w w' : World} {B : Nat} {v : Value} {qs : List Xi} (h : LsN w B v qs) (b : Below w.heap.size w w') : LsN w' B v qs :=
  ⟨h.sl.on b, fun q hq => ⟨(h.ok q hq).1.on b, (h.ok q hq).2⟩⟩
theorem Ext.off2 {base size size2 n0 n m : Nat} {w w' : World} {v0 v x : Value} {xs0 xs ys : List Value} (h : Ext base size w v0 n0 xs0 w' v n xs) (hr : Rd w size2 x m ys) (ho : Off x m v0) : Off x m v := by
  intro hm k hk
  obtain ⟨g, hg, hlt⟩ := hr.own hm
  have hkg : k = g := Option.some.inj (hk.symm.trans hg)
  rcases h.alias with ⟨a, cap, e0, e1, _⟩ | hnew
  · have := ho hm k hk
    rw [e0] at this
    rw [e1, ownBlock_slice a n n0 cap cap]
    exact this
  · intro e
    have := hnew k e
    omega
theorem LsN.push {w w' : World} {B m c : Nat} {a : Option Addr} {v' x : Value} {qs : List Xi} {l : List Sp} (h : LsN w B (.slice a m c) qs) (hm : m = qs.length) (hx : Ext B 1 w (.slice a m c) m (qs.map Xi.v) w' v' (m + 1) (qs.map Xi.v ++ [x])) (hr : Rd w 2 x l.length (spc l)) (hc : Capd x l.length) (ho : Off x l.length (.slice a m c)) : LsN w' B v' (qs ++ [⟨x, l⟩]) := by
  subst hm
  refine ⟨?_, fun q hq => ?_⟩
  · rw [List.length_append, List.map_append]
    exact hx.now
  · have key : Rd w 2 q.v q.l.length (spc q.l) ∧ Capd q.v q.l.length ∧ Off q.v q.l.length (.slice a qs.length c) := by
      rcases List.mem_append.1 hq with hq | hq
      · exact h.ok q hq
      · rw [List.mem_singleton] at hq
        subst hq
        exact ⟨hr, hc, ho⟩
    obtain ⟨k1, k2, k3⟩ := key
    refine ⟨k1.grown hx.grown (fun hn e => ?_), k2, hx.off2 k1 k3⟩
    obtain ⟨g, hg, _⟩ := k1.own hn
    exact k3 hn g hg (e.symm.trans hg)
def curX (qs : List Xi) (p : Nat) : List Sp := (qs.getD p default).l
def ivX (qs : List Xi) (p : Nat) : Value := (qs.getD p default).v
theorem LsN.read {w : World} {B : Nat} {v : Value} {qs : List Xi} (h : LsN w B v qs) : LsR w v qs.length (curX qs) (ivX qs) := by
  have hg : ∀ p, p < qs.length → ∃ q, qs.getD p default = q ∧ qs[p]? = some q ∧ q ∈ qs := fun p hp => ⟨qs[p], by simp [hp], List.getElem?_eq_getElem hp, List.getElem_mem hp⟩
  refine ⟨?_, fun p hp => ?_, fun p hp => ?_⟩
  · rcases h.sl.2 with ⟨rfl, h0⟩ | ⟨g, off, cap, rfl, hb, hgw, hnc, hcm, hfree, hcell⟩
    · exact ⟨none, 0, 0, 0, by rw [h0], fun hk => by omega, fun p hp => by omega⟩
    · refine ⟨_, cap, g, off, rfl, fun _ => ⟨rfl, hgw⟩, fun p hp => ?_⟩
      obtain ⟨q, h1, h2, h3⟩ := hg p hp
      rw [hcell p (by omega), List.getElem?_map, h2]
      unfold ivX
      rw [h1]; rfl
  · obtain ⟨q, h1, h2, h3⟩ := hg p hp
    unfold ivX curX
    rw [h1]
    exact (h.ok q h3).1
  · obtain ⟨q, h1, h2, h3⟩ := hg p hp
    unfold ivX curX
    rw [h1]
    exact (h.ok q h3).2.1
theorem wantS_congr {c c' : Nat → List Sp} : ∀ k, (∀ p, p < k → c p = c' p) → wantS c k = wantS c' k
  | 0, _ => rfl
  | k + 1, h => by rw [wantS, wantS, wantS_congr k (fun p hp => h p (by omega)), h k (by omega)]
/-- The samples of the first fifteen, put in. -/
def putL (zs : List On) : List Sp := zs.foldl (fun x z => putS x ⟨z.t, z.v⟩) []
theorem putL_snoc (zs : List On) (z : On) : putL (zs ++ [z]) = putS (putL zs) ⟨z.t, z.v⟩ := by simp [putL, List.foldl_append]
theorem putL_len : ∀ (zs : List On) (x : List Sp), (zs.foldl (fun x z => putS x ⟨z.t, z.v⟩) x).length ≤ x.length + zs.length
  | [], x => by simp
  | z :: zs, x => by
    have h1 := putL_len zs (putS x ⟨z.t, z.v⟩)
    have h2 := putS_one x ⟨z.t, z.v⟩
    rw [List.foldl_cons, List.length_cons]
    omega
theorem putL_up (zs : List On) : Up (putL zs) := by
  have : putL zs = (zs.map fun z => (⟨z.t, z.v⟩ : Sp)).foldl putS [] := by unfold putL; rw [List.foldl_map]
  rw [this]
  exact putF_up _ List.Pairwise.nil
theorem putF_len : ∀ (m l : List Sp), (m.foldl putS l).length ≤ l.length + m.length
  | [], l => by simp
  | x :: m, l => by
    have h1 := putF_len m (putS l x)
    have h2 := putS_one l x
    rw [List.foldl_cons, List.length_cons]
    omega
theorem putF_snoc (l m : List Sp) (x : Sp) : (m ++ [x]).foldl putS l = putS (m.foldl putS l) x := by rw [List.foldl_append]; rfl
end Go.Proofs.YtcmalckaekbomaaDoor

namespace Go.Proofs.YtcmalckaekbomaaDoor
open Go.RowKit Go.Lib Hp
set_option linter.unusedVariables false

def inB (f t : Int) (s : Sp) : Bool := decide (f ≤ s.t) && decide (s.t < t)
def betw (f t : Int) : List Rw → List Rw
  | [] => []
  | r :: l => if (r.ss.filter (inB f t)).length = 0 then betw f t l else ⟨r.ls, r.ss.filter (inB f t)⟩ :: betw f t l
theorem betw_snoc (f t : Int) (r : Rw) : ∀ l : List Rw, betw f t (l ++ [r]) = betw f t l ++ (if (r.ss.filter (inB f t)).length = 0 then [] else [⟨r.ls, r.ss.filter (inB f t)⟩])
  | [] => by simp only [List.nil_append, betw]
  | x :: l => by
    simp only [List.cons_append, betw]
    rw [betw_snoc f t r l]
    split <;> simp
theorem betw_len (f t : Int) : ∀ l : List Rw, (betw f t l).length ≤ l.length
  | [] => by simp [betw]
  | x :: l => by
    have := betw_len f t l
    unfold betw
    split
    · simp only [List.length_cons]; omega
    · simp only [List.length_cons]; omega
theorem betw_mem (f t : Int) {l : List Rw} {r : Rw} (h : r ∈ betw f t l) : r.ss ≠ [] ∧ ∃ x ∈ l, r.ls = x.ls ∧ r.ss = x.ss.filter (inB f t) := by
  induction l with
  | nil => simp [betw] at h
  | cons x l ih =>
    unfold betw at h
    split at h
    · obtain ⟨h1, y, hy, h2⟩ := ih h
      exact ⟨h1, y, by simp [hy], h2⟩
    · rename_i hn
      simp only [List.mem_cons] at h
      rcases h with rfl | h
      · exact ⟨fun e => hn (by rw [show x.ss.filter (inB f t) = [] from e]; rfl), x, by simp, rfl, rfl⟩
      · obtain ⟨h1, y, hy, h2⟩ := ih h
        exact ⟨h1, y, by simp [hy], h2⟩
theorem look_filter (f t a : Int) : ∀ l : List Sp, look (l.filter (inB f t)) a = if f ≤ a ∧ a < t then look l a else none
  | [] => by simp [look]
  | x :: l => by
    have ih := look_filter f t a l
    by_cases hx : inB f t x = true
    · rw [List.filter_cons_of_pos hx, look, ih, look]
      by_cases ha : x.t = a
      · have : f ≤ a ∧ a < t := by simpa [inB, ha] using hx
        simp [ha, this]
      · simp [ha]
    · rw [List.filter_cons_of_neg hx, ih, look]
      by_cases ha : x.t = a
      · have : ¬ (f ≤ a ∧ a < t) := by simpa [inB, ha] using hx
        rw [if_neg this, if_neg this]
      · simp [ha]
theorem betw_up (f t : Int) {l : List Rw} (h : UpT l) : UpT (betw f t l) := by
  refine ⟨?_, fun r hr => ?_⟩
  · induction l with
    | nil => exact List.Pairwise.nil
    | cons x l ih =>
      obtain ⟨h1, h2⟩ := List.pairwise_cons.1 h.1
      have ih' := ih ⟨h2, fun r hr => h.2 r (by simp [hr])⟩
      unfold betw
      split
      · exact ih'
      · refine List.pairwise_cons.2 ⟨fun y hy => ?_, ih'⟩
        obtain ⟨_, z, hz, e, _⟩ := betw_mem f t hy
        rw [e]
        exact h1 z hz
  · obtain ⟨_, x, hx, _, e⟩ := betw_mem f t hr
    rw [e]
    exact List.Pairwise.sublist List.filter_sublist (h.2 x hx)
theorem betw_look (f t : Int) (ls : List Pr) (a : Int) : ∀ l : List Rw, lookT (betw f t l) ls a = if f ≤ a ∧ a < t then lookT l ls a else none
  | [] => by simp [betw, lookT]
  | x :: l => by
    have ih := betw_look f t ls a l
    have hf := look_filter f t a x.ss
    unfold betw
    split
    · rename_i h0
      rw [List.eq_nil_of_length_eq_zero h0] at hf
      rw [ih, lookT]
      by_cases hr : f ≤ a ∧ a < t
      · rw [if_pos hr] at hf
        rw [if_pos hr, if_pos hr, ← hf]
        simp [look]
      · rw [if_neg hr, if_neg hr]
    · rw [lookT, ih, hf, lookT]
      by_cases hr : f ≤ a ∧ a < t
      · simp [hr]
      · simp [hr]
theorem lookP_filter (f t : Int) (ls : List Pr) (a : Int) : ∀ ps : Ps, lookP (ps.filter fun p => inB f t p.2) ls a = if f ≤ a ∧ a < t then lookP ps ls a else none
  | [] => by simp [lookP]
  | p :: ps => by
    have ih := lookP_filter f t ls a ps
    by_cases hx : inB f t p.2 = true
    · rw [List.filter_cons_of_pos (p := fun p : List Pr × Sp => inB f t p.2) hx, lookP, ih, lookP]
      by_cases ha : p.1 = ls ∧ p.2.t = a
      · have : f ≤ a ∧ a < t := by simpa [inB, ha.2] using hx
        simp [ha, this]
      · by_cases hr : f ≤ a ∧ a < t <;> simp [ha, hr]
    · rw [List.filter_cons_of_neg (p := fun p : List Pr × Sp => inB f t p.2) hx, ih, lookP]
      by_cases ha : p.1 = ls ∧ p.2.t = a
      · have : ¬ (f ≤ a ∧ a < t) := by simpa [inB, ha.2] using hx
        rw [if_neg this, if_neg this]
      · simp [ha]
theorem betw_P (f t : Int) (ps : Ps) : betw f t (addF [] ps) = addF [] (ps.filter fun p => inB f t p.2) := by
  obtain ⟨a1, a2, a3⟩ := addF_nil ps
  obtain ⟨b1, b2, b3⟩ := addF_nil (ps.filter fun p => inB f t p.2)
  refine upT_one (betw_up f t a1) b1 (fun r hr => (betw_mem f t hr).1) b2 fun ls a => ?_
  rw [betw_look, a3, b3, lookP_filter]
/-- Two parts together. -/
theorem betw_split {f m t : Int} (h1 : f ≤ m) (h2 : m ≤ t) (ps : Ps) : addF [] ([ps.filter fun p => inB f m p.2, ps.filter fun p => inB m t p.2]).flatten = addF [] (ps.filter fun p => inB f t p.2) := addF_one fun ls a => by
  rw [List.flatten_cons, List.flatten_cons, List.flatten_nil, List.append_nil, lookP_append, lookP_filter, lookP_filter, lookP_filter]
  by_cases c1 : f ≤ a
  · by_cases c2 : a < m
    · rw [if_pos ⟨c1, c2⟩, if_neg (by omega), if_pos ⟨c1, by omega⟩]; simp
    · by_cases c3 : a < t
      · rw [if_neg (by omega), if_pos ⟨by omega, c3⟩, if_pos ⟨c1, c3⟩]; simp
      · rw [if_neg (by omega), if_neg (by omega), if_neg (by omega)]; rfl
  · rw [if_neg (by omega), if_neg (by omega), if_neg (by omega)]; rfl
end Go.Proofs.YtcmalckaekbomaaDoor
