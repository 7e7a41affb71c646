/- Layer 12 in plain words: series as they are told; what an index says behind Adds and Drops of them. The library's contracts, laid over this program. Layer 6: a set as a text; what a name says. Layer 6: the first known answers. -/
import Derived.Test.YtefhnjepocbodaaGreatDoorMIX7
import Derived.Shelf.Strings.Builder1
import Derived.Test.YtefhnjepocbodaaGreatDoorProg
import Derived.Test.YtefhnjepocbodaaGreatDoorML8
namespace Go.Proofs.YtefhnjepocbodaaGreatDoor
open Go.RowKit Go.Lib
set_option linter.unusedVariables false

/-- A series: its number, its labels. -/
structure Sr where
  n : Int
  ps : List Pr
instance : Inhabited Sr := ⟨⟨0, []⟩⟩

/-- Of each name the first label. -/
def uniqStep (acc : List Pr) (p : Pr) : List Pr := if p.n ∈ acc.map Pr.n then acc else acc ++ [p]
def uniqN (l : List Pr) : List Pr := l.foldl uniqStep []
theorem uniqN_snoc (l : List Pr) (p : Pr) : uniqN (l ++ [p]) = uniqStep (uniqN l) p := by simp [uniqN, List.foldl_append]
theorem uniqStep_nodup {acc : List Pr} (p : Pr) (h : (acc.map Pr.n).Nodup) : ((uniqStep acc p).map Pr.n).Nodup := by
  unfold uniqStep
  split
  · exact h
  · rename_i hp
    rw [List.map_append, List.nodup_append]
    refine ⟨h, by simp, fun x hx y hy e => ?_⟩
    simp at hy
    exact hp (by rw [← hy, ← e]; exact hx)
theorem uniqF_nodup : ∀ (l acc : List Pr), (acc.map Pr.n).Nodup → ((l.foldl uniqStep acc).map Pr.n).Nodup
  | [], _, h => h
  | p :: l, _, h => uniqF_nodup l _ (uniqStep_nodup p h)
theorem uniqN_names (l : List Pr) : ((uniqN l).map Pr.n).Nodup := uniqF_nodup l [] List.nodup_nil
theorem uniqN_nodup (l : List Pr) : (uniqN l).Nodup := by
  have := uniqN_names l
  exact List.Pairwise.of_map Pr.n (fun a b h e => h (by rw [e])) this
theorem uniqF_len : ∀ (l acc : List Pr), (l.foldl uniqStep acc).length ≤ acc.length + l.length
  | [], _ => by simp
  | p :: l, acc => by
    have h1 := uniqF_len l (uniqStep acc p)
    have h2 : (uniqStep acc p).length ≤ acc.length + 1 := by unfold uniqStep; split <;> simp
    rw [List.foldl_cons, List.length_cons]; omega
theorem uniqN_len (l : List Pr) : (uniqN l).length ≤ l.length := by
  have h := uniqF_len l []
  rw [List.length_nil, Nat.zero_add] at h
  exact h
theorem uniqF_mem : ∀ (l acc : List Pr) (p : Pr), p ∈ l.foldl uniqStep acc → p ∈ acc ∨ p ∈ l
  | [], _, _, h => .inl h
  | q :: l, acc, p, h => by
    rcases uniqF_mem l _ p h with h | h
    · unfold uniqStep at h
      split at h
      · exact .inl h
      · rcases List.mem_append.1 h with h | h
        · exact .inl h
        · rw [List.mem_singleton] at h; exact .inr (by simp [h])
    · exact .inr (by simp [h])
theorem uniqN_mem {l : List Pr} {p : Pr} (h : p ∈ uniqN l) : p ∈ l := (uniqF_mem l [] p h).resolve_left (by simp)

theorem out_put {l : List Int} {n : Int} (hu : Up l) (h : n ∉ l) : outZ (putZ l n) n = l := by
  refine up_unique _ _ (outZ_up n (putZ_up l n hu)) hu fun x => ?_
  rw [outZ_mem, putZ_mem]
  constructor
  · rintro ⟨h1 | h1, h2⟩
    · exact absurd h1 h2
    · exact h1
  · exact fun hx => ⟨.inr hx, fun e => h (e ▸ hx)⟩

/-- What an index says of series that were added. -/
structure Grown (T : List Sr) (A : List Int) (H : List HEn) (L : List LEn) : Prop where
  up : Up A
  mem : ∀ m, m ∈ A ↔ ∃ s ∈ T, s.n = m
  len : A.length ≤ T.length
  get : ∀ x y, Up (getH H x y)
  gmem : ∀ x y m, m ∈ getH H x y ↔ ∃ s ∈ T, s.n = m ∧ (⟨x, y⟩ : Pr) ∈ s.ps
  glen : ∀ x y, (getH H x y).length ≤ T.length
  lab0 : ∀ m, (∀ s ∈ T, s.n ≠ m) → getL L m = []
  labl : ∀ m, (getL L m).length ≤ 10
  full : Full H

theorem Grown.nil : Grown [] [] [] [] :=
  ⟨up_nil, fun m => by simp, Nat.le_refl _, fun x y => up_nil, fun x y m => by simp [getH, lookK], fun x y => Nat.le_refl _, fun m _ => rfl, fun m => Nat.zero_le _, fun h hh => by cases hh⟩
theorem Grown.out {T : List Sr} {A : List Int} {H : List HEn} {L : List LEn} {n : Int} (g : Grown T A H L) (hn : ∀ s ∈ T, s.n ≠ n) : n ∉ A ∧ ∀ x y, n ∉ getH H x y :=
  ⟨fun h => by obtain ⟨s, hs, e⟩ := (g.mem n).1 h; exact hn s hs e, fun x y h => by obtain ⟨s, hs, e, _⟩ := (g.gmem x y n).1 h; exact hn s hs e⟩
/-- A series was added. -/
theorem Grown.kept {T : List Sr} {A : List Int} {H H' : List HEn} {L L' : List LEn} {n : Int} {ps : List Pr} (g : Grown T A H L) (hn : ∀ s ∈ T, s.n ≠ n) (hl : ps.length ≤ 10) (a : AddIn n ps H L H' L') :
    Grown (T ++ [⟨n, ps⟩]) (putZ A n) H' L' := by
  refine ⟨putZ_up _ _ g.up, fun m => ?_, ?_, fun x y => ?_, fun x y m => ?_, fun x y => ?_, fun m hm => ?_, fun m => ?_, a.full g.full⟩
  · rw [putZ_mem, g.mem]
    constructor
    · rintro (rfl | ⟨s, hs, e⟩)
      · exact ⟨⟨m, ps⟩, by simp, rfl⟩
      · exact ⟨s, by simp [hs], e⟩
    · rintro ⟨s, hs, e⟩
      rcases List.mem_append.1 hs with hs | hs
      · exact .inr ⟨s, hs, e⟩
      · rw [List.mem_singleton] at hs; subst hs; exact .inl e.symm
  · have := putZ_len A n; have := g.len; simp; omega
  · rw [a.get]; split
    · exact putZ_up _ _ (g.get x y)
    · exact g.get x y
  · rw [a.get]
    by_cases hp : (⟨x, y⟩ : Pr) ∈ ps
    · rw [if_pos hp, putZ_mem, g.gmem]
      constructor
      · rintro (rfl | ⟨s, hs, e⟩)
        · exact ⟨⟨m, ps⟩, by simp, rfl, hp⟩
        · exact ⟨s, by simp [hs], e⟩
      · rintro ⟨s, hs, e⟩
        rcases List.mem_append.1 hs with hs | hs
        · exact .inr ⟨s, hs, e⟩
        · rw [List.mem_singleton] at hs; subst hs; exact .inl e.1.symm
    · rw [if_neg hp, g.gmem]
      constructor
      · rintro ⟨s, hs, e⟩
        exact ⟨s, by simp [hs], e⟩
      · rintro ⟨s, hs, e⟩
        rcases List.mem_append.1 hs with hs | hs
        · exact ⟨s, hs, e⟩
        · rw [List.mem_singleton] at hs; subst hs; exact absurd e.2 hp
  · have := putZ_len (getH H x y) n; have := g.glen x y
    rw [a.get]; split <;> simp <;> omega
  · rw [a.lab, if_neg (fun e => hm ⟨n, ps⟩ (by simp) e.symm)]
    exact g.lab0 m fun s hs => hm s (by simp [hs])
  · rw [a.lab]
    split
    · rename_i e
      rw [g.lab0 m (by rw [e]; exact hn)]; simpa using hl
    · exact g.labl m
/-- A series was added and dropped. -/
theorem Grown.gone {T : List Sr} {A : List Int} {H H' H2 : List HEn} {L L' L2 : List LEn} {n : Int} {ps : List Pr} (g : Grown T A H L) (hn : ∀ s ∈ T, s.n ≠ n) (a : AddIn n ps H L H' L') (d : DropIn n (getL L' n) H' H2)
    (hL : ∀ m, getL L2 m = if m = n then [] else getL L' m) : Grown T (outZ (putZ A n) n) H2 L2 := by
  obtain ⟨hA, hH⟩ := g.out hn
  have hp : getL L' n = ps := by rw [a.lab, if_pos rfl, g.lab0 n hn]; rfl
  have hget : ∀ x y, getH H2 x y = getH H x y := fun x y => by
    rw [d.get, hp, a.get]
    split
    · exact out_put (g.get x y) (hH x y)
    · rfl
  have hlab : ∀ m, getL L2 m = getL L m := fun m => by
    rw [hL, a.lab]
    split
    · rename_i e; rw [e, g.lab0 n hn]
    · rfl
  rw [out_put g.up hA]
  exact ⟨g.up, g.mem, g.len, fun x y => by rw [hget]; exact g.get x y, fun x y => by rw [hget]; exact g.gmem x y, fun x y => by rw [hget]; exact g.glen x y, fun m => by rw [hlab]; exact g.lab0 m, fun m => by rw [hlab]; exact g.labl m, d.full (a.full g.full)⟩
/-- What was just added can be dropped. -/
theorem Grown.drops {T : List Sr} {A : List Int} {H H' : List HEn} {L L' : List LEn} {n : Int} {ps : List Pr} (g : Grown T A H L) (hn : ∀ s ∈ T, s.n ≠ n) (a : AddIn n ps H L H' L') :
    getL L' n = ps ∧ ∀ p ∈ getL L' n, n ∈ getH H' p.n p.v := by
  have hp : getL L' n = ps := by rw [a.lab, if_pos rfl, g.lab0 n hn]; rfl
  refine ⟨hp, fun p hm => ?_⟩
  rw [hp] at hm
  rw [a.get, if_pos hm, putZ_mem]
  exact .inl rfl

/-- Numbers that are given out: each once. -/
def num12 (i : Nat) : Int := ((i : Int) * 7 + 3) % 12
theorem num12_inj {i j : Nat} (hi : i < 12) (hj : j < 12) (h : num12 i = num12 j) : i = j := by
  have hall : ∀ a : Fin 12, ∀ b : Fin 12, num12 a.1 = num12 b.1 → a.1 = b.1 := by decide
  exact hall ⟨i, hi⟩ ⟨j, hj⟩ h
theorem num12_bd (i : Nat) (hi : i < 12) : 0 ≤ num12 i ∧ num12 i ≤ 11 := by
  have hall : ∀ a : Fin 12, 0 ≤ num12 a.1 ∧ num12 a.1 ≤ 11 := by decide
  exact hall ⟨i, hi⟩
end Go.Proofs.YtefhnjepocbodaaGreatDoor

namespace Go.Proofs.YtefhnjepocbodaaGreatDoor
open Go.Shelf Go.Proofs
end Go.Proofs.YtefhnjepocbodaaGreatDoor

namespace Go.Proofs.YtefhnjepocbodaaGreatDoor
open Go.RowKit Go.Lib

/-- A pair's text. -/
def pairT (p : Pr) : List UInt8 := p.n ++ 61 :: p.v
/-- The texts of pairs behind others. -/
def txtR : List Pr → List UInt8
  | [] => []
  | p :: l => 44 :: pairT p ++ txtR l
/-- A set's text. -/
def txt : List Pr → List UInt8
  | [] => []
  | p :: l => pairT p ++ txtR l
theorem txtR_snoc (l : List Pr) (p : Pr) : txtR (l ++ [p]) = txtR l ++ 44 :: pairT p := by
  induction l with
  | nil => simp [txtR]
  | cons q l ih => simp [txtR, ih]
theorem txt_snoc (q : Pr) (l : List Pr) (p : Pr) : txt (q :: l ++ [p]) = txt (q :: l) ++ 44 :: pairT p := by
  simp [txt, txtR_snoc]
theorem txt_step (ds : List Pr) (i : Nat) (x : Pr) (hx : ds[i]? = some x) : txt (ds.take (i + 1)) = (if i = 0 then [] else txt (ds.take i) ++ [44]) ++ (x.n ++ [61] ++ x.v) := by
  have hi : i < ds.length := (List.getElem?_eq_some_iff.1 hx).1
  have ht : ds.take (i + 1) = ds.take i ++ [x] := by
    rw [List.take_add_one, hx]; rfl
  rw [ht]
  cases i with
  | zero => simp [txt, txtR, pairT]
  | succ j =>
    cases ds with
    | nil => simp at hi
    | cons q r =>
      rw [List.take_succ_cons, txt_snoc]
      simp [pairT]
theorem txtR_append (a b : List Pr) : txtR (a ++ b) = txtR a ++ txtR b := by
  induction a with
  | nil => rfl
  | cons q a ih => simp [txtR, ih]
theorem txtR_len (a b : List Pr) : (txtR a).length ≤ (txtR (a ++ b)).length := by
  rw [txtR_append, List.length_append]; omega
theorem txt_len (ds : List Pr) (i : Nat) : (txt (ds.take i)).length ≤ (txt ds).length := by
  conv => rhs; rw [← List.take_append_drop i ds]
  cases hd : ds.take i with
  | nil => simp [txt]
  | cons q a =>
    have := txtR_len a (ds.drop i)
    simp [txt]; omega

/-- A pair in a box of its own. -/
def PB (P : Nat) (x : Pr) (w : World) : Prop := w.heap[P]? = some (.cells #[.string (bs x.n), .string (bs x.v)] 53 (0, 0))
theorem PB.c0 {P : Nat} {x : Pr} {w : World} (h : PB P x w) : w.cell? ⟨P, 0, none⟩ = some (.string (bs x.n)) := by rw [Lib.cell_of_heap h]; rfl
theorem PB.c1 {P : Nat} {x : Pr} {w : World} (h : PB P x w) : w.cell? ⟨P, 1, none⟩ = some (.string (bs x.v)) := by rw [Lib.cell_of_heap h]; rfl
theorem PB.new (w : World) (x : Pr) : PB w.heap.size x (w.alloc (.cells #[.string (bs x.n), .string (bs x.v)] 53)) := heap_alloc_new w _

/-- What a name says. -/
def getP (n : List UInt8) : List Pr → List UInt8
  | [] => []
  | p :: l => if p.n = n then p.v else getP n l
set_option maxHeartbeats 1000000 in
set_option maxRecDepth 100000 in
theorem get_lb (v : Value) (ds : List Pr) (q : List UInt8) (w : World) (h : Rd w 2 v ds.length (prc ds)) (hn0 : ds.length ≤ 1000000) :
    Calls Tryz.prog 39 #[v, .string (bs q)] w fun e w' => e = .returned (.string (bs (getP q ds))) ∧ Below w.heap.size w w' := by
  have hT := bs_toList
  obtain ⟨_, a, cap, g, off, rfl, hg, hc⟩ := h
  obtain ⟨n, hn⟩ : ∃ n, n = ds.length := ⟨_, rfl⟩
  rw [← hn] at hg hc hn0 ⊢
  have HN := Lib.hid hn
  have HC := Lib.hid hc
  have HG := Lib.hid hg
  clear hn hc hg
  go_enter Tryz.func39, Tryz.ntmps39
  go_wp2_with fail
  go_loopw [9] (fun i' wr => ∃ (i : Nat), i' = .int .i64 i ∧ i ≤ n ∧ Hid (getP q ds = getP q (ds.drop i)) ∧ Below w.heap.size w wr) (fun i' _ => n - (intOf i').toNat)
  case atStart => exact ⟨0, rfl, by omega, rfl, Below.refl _ _⟩
  case round =>
    obtain ⟨i, rfl, hi, hk, hb⟩ := hrel
    by_cases hlt : i < n
    · obtain ⟨rfl, hgl⟩ := HG.out (by omega)
      obtain ⟨x, hx⟩ : ∃ x, ds[i]? = some x := ⟨ds[i]'(by have := HN.out; omega), List.getElem?_eq_getElem (by have := HN.out; omega)⟩
      obtain ⟨v0, v1⟩ := prc_at ds i x hx
      have q0 := ((hb.cell (p := ⟨g, off + i * 2, none⟩) hgl).trans (HC.out (i * 2) (by omega))).trans v0
      have q1 := ((hb.cell (p := ⟨g, off + (i * 2 + 1), none⟩) hgl).trans (HC.out (i * 2 + 1) (by omega))).trans v1
      rw [← Nat.add_assoc] at q1
      have hd : ds.drop i = x :: ds.drop (i + 1) := by
        rw [List.drop_eq_getElem_cons (by have := HN.out; omega)]
        congr 1
        rw [List.getElem?_eq_getElem (by have := HN.out; omega)] at hx
        exact Option.some.inj hx
      have hkk := hk.out
      rw [hd, getP] at hkk
      have hgw : g ≠ wr.heap.size := by have := hb.size; omega
      have hil : (i : Int) < n := by omega
      by_cases he : x.n = q
      · rw [if_pos he] at hkk
        have HQ := Lib.hid hkk
        have hbq : (x.n == q) = true := by simpa using he
        clear hkk hk hd v0 v1 hx he
        go_wp2
        go_ret
        exact ⟨by rw [HQ.out]; rfl, hb.alloc hb.size _⟩
      · rw [if_neg he] at hkk
        have HQ := Lib.hid hkk
        have hbq : (x.n == q) = false := by simpa using he
        clear hkk hk hd v0 v1 hx he
        go_wp2
        exact ⟨⟨i + 1, by simp, by omega, HQ.out, hb.alloc hb.size _⟩, by simp [intOf]; omega⟩
    · have hil : ¬ (i : Int) < n := by omega
      have hd : ds.drop i = [] := List.drop_eq_nil_of_le (by have := HN.out; omega)
      have hkk := hk.out
      rw [hd, getP] at hkk
      have HQ := Lib.hid hkk
      clear hkk hk hd
      go_wp2
      go_ret
      exact ⟨by rw [HQ.out]; rfl, hb⟩
end Go.Proofs.YtefhnjepocbodaaGreatDoor

namespace Go.Proofs.YtefhnjepocbodaaGreatDoor
open Go.RowKit Go.Lib

def setOf (w : World) (v : Value) (ds : List Pr) : Prop := Rd w 2 v ds.length (prc ds)
end Go.Proofs.YtefhnjepocbodaaGreatDoor
