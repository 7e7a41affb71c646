/- Layer 6: a set as a text; what a name says. -/
import Derived.Test.YtobdlfikomnmcaaGreatDoorML8
import Derived.Test.YtobdlfikomnmcaaGreatDoorMBld
namespace Go.Proofs.YtobdlfikomnmcaaGreatDoor
open Go.RowKit Go.Lib

/-- A builder (block b): its bytes l lie in the slice v. -/
structure Bd (b : Nat) (l : List UInt8) (v : Value) (w : World) : Prop where
  heap : ∃ p, (p = .pointer none ∨ p = .pointer (some ⟨b, 0, none⟩)) ∧ w.heap[b]? = some (.cells #[p, v] 74 (0, 0))
  own : w.ownsRow b 5 1 v l.length (Lib.byteCells l)
  ne : v.ownBlock ≠ some b
theorem Bd.new (w : World) : Bd w.heap.size [] (.slice none 0 0) (w.alloc (.cells #[.pointer none, .slice none 0 0] 74)) :=
  ⟨⟨_, .inl rfl, heap_alloc_new w _⟩, World.ownsRow_nil _ _ _ _, by simp [Value.ownBlock]⟩
theorem Bd.lt {b : Nat} {l : List UInt8} {v : Value} {w : World} (h : Bd b l v w) : b < w.heap.size := by
  obtain ⟨p, _, hp⟩ := h.heap
  exact (Array.getElem?_eq_some_iff.1 hp).1
theorem Bd.turn {b : Nat} {l : List UInt8} {v : Value} {w w' : World} (h : Bd b l v w) (hg : w.grownBy w' none) : Bd b l v w' := by
  obtain ⟨p, hp, hh⟩ := h.heap
  exact ⟨⟨p, hp, (hg.block b h.lt (by simp)).trans hh⟩, h.own.kept hg (by cases hv : v.ownBlock <;> simp), h.ne⟩
theorem Bd.alloc {b : Nat} {l : List UInt8} {v : Value} {w : World} (h : Bd b l v w) (o : Obj) : Bd b l v (w.alloc o) := h.turn (World.grownBy_alloc w o none)

theorem copy_any (b : Nat) (l : List UInt8) (v : Value) (w : World) (h : Bd b l v w) :
    Calls Tryz.prog 58 #[.pointer (some ⟨b, 0, none⟩)] w fun e w' => e = .returned (.tuple #[]) ∧ w'.heap[b]? = some (.cells #[.pointer (some ⟨b, 0, none⟩), v] 74 (0, 0)) ∧ w.grownBy w' (some b) := by
  obtain ⟨p, hp, hh⟩ := h.heap
  rcases hp with rfl | rfl
  · refine (Any.Builder_copyCheck_fresh { wrStr with } wrX.toX72 b w (by simp [World.cell?, hh]) (by simp [World.shape?, hh]; rfl) (by simp [World.frozen?, hh])).mono ?_
    rintro e w' ⟨rfl, rfl⟩
    refine ⟨rfl, ?_, grownBy_setCell' _ _ _⟩
    show (w.heap.modify b _)[b]? = _
    obtain ⟨hlt, hk⟩ := Array.getElem?_eq_some_iff.1 hh
    rw [Array.getElem?_eq_getElem (by rw [Array.size_modify]; exact hlt), Array.getElem_modify_self, hk]
    rfl
  · refine (Any.Builder_copyCheck_used { wrStr with } wrX.toX72 b w (by simp [World.cell?, hh])).mono ?_
    rintro e w' ⟨rfl, rfl⟩
    exact ⟨rfl, hh, World.grownBy.refl _ _⟩

/-- Behind a write. -/
def WroteB (b : Nat) (l : List UInt8) (v : Value) (n : Int) (w : World) (e : Ending) (w' : World) : Prop :=
  ∃ v', e = .returned (.tuple #[.int .i64 n, .nilIface]) ∧ Bd b l v' w' ∧ Turn (fun k => k = b ∨ v.ownBlock = some k) w w'

set_option maxHeartbeats 1000000 in
set_option maxRecDepth 100000 in
theorem wr_any (b : Nat) (l s : List UInt8) (v : Value) (w : World) (h : Bd b l v w) (hm : l.length + s.length ≤ 10000000) :
    Calls Tryz.prog 39 #[.pointer (some ⟨b, 0, none⟩), .string (bs s)] w (WroteB b (l ++ s) v s.length w) := by
  obtain ⟨i0, hi, hz0, hz1, hz2⟩ := info_parts wrX.infoByte
  have hlt := h.lt
  have hown := h.own
  have hne := h.ne
  have hss : (bs s).size = s.length := bs_size s
  go_enter Tryz.func39, Tryz.ntmps39
  go_wp2_with fail
  refine (copy_any b l v w h).mono ?_
  rintro e w1 ⟨rfl, hbk, hg1⟩
  have hz1' := hg1.size
  have hown1 : w1.ownsRow b 5 1 v l.length (Lib.byteCells l) := hown.kept hg1 (.inr hne)
  have c0 : w1.cell? ⟨b, 0, none⟩ = some (.pointer (some ⟨b, 0, none⟩)) := by rw [Lib.cell_of_heap hbk]; rfl
  have c1 : w1.cell? ⟨b, 1, none⟩ = some v := by rw [Lib.cell_of_heap hbk]; rfl
  have n3 : l.length + (bs s).size ≤ maxLen := by unfold maxLen; omega
  have n4 : l.length + (bs s).size ≤ 140737488355328 := by omega
  have n5 : b ≤ w1.heap.size := by omega
  go_wp2_with (at_builtin; refine Lib.wpList_append_own_string _ rfl _ _ 71 9 rfl b 5 i0 Tryz.underlying71 Tryz.underlying9 hi hz0 hz1 hz2 _ _ _ rfl hown1 (bs s) rfl n3 n4 n5 ?_)
  intro v' w2 hown' hgrow _
  have hlt1 : b < w1.heap.size := by omega
  have hb2 : w2.heap[b]? = some (.cells #[.pointer (some ⟨b, 0, none⟩), v] 74 (0, 0)) := by
    rw [hgrow.block b hlt1 (fun e => hne e.symm)]
    exact hbk
  have d0 : w2.cell? ⟨b, 0, none⟩ = some (.pointer (some ⟨b, 0, none⟩)) := by rw [Lib.cell_of_heap hb2]; rfl
  have d1 : w2.cell? ⟨b, 1, none⟩ = some v := by rw [Lib.cell_of_heap hb2]; rfl
  have f1 : w2.frozen? ⟨b, 1, none⟩ = false := Lib.frozen_of_heap hb2 1
  obtain ⟨ao, n', cap, rfl⟩ : ∃ ao n' cap, v' = .slice ao n' cap := by
    rcases hown'.2 with ⟨hv, _⟩ | ⟨g, cap, cur, hv, _⟩
    · exact ⟨_, _, _, hv⟩
    · exact ⟨_, _, _, hv⟩
  have HO := Lib.hid hown'
  have HG := Lib.hid hgrow
  clear hown' hgrow
  go_wp2
  go_ret2
  have hgrow := HG.out
  have hbs : Lib.byteCells l ++ Lib.strCells (bs s) = Lib.byteCells (l ++ s) := by simp [Lib.byteCells, Lib.strCells, bs_list]
  have hown2 : w2.ownsRow b 5 1 (.slice ao n' cap) (l ++ s).length (Lib.byteCells (l ++ s)) := by
    have := HO.out
    rw [hbs, ← List.length_append] at this
    exact this
  have hbo := Lib.BuilderAt.put (T := 74) (e := 5) (B := b) (Nat.le_refl _) hb2 (bs' := Lib.byteCells (l ++ s)) (by rw [Lib.byteCells_length]; exact hown2) (by decide)
  obtain ⟨_, v2, hv2, hrow2, hne2⟩ := hbo
  rw [Lib.byteCells_length] at hrow2
  have hvv : v2 = .slice ao n' cap := by
    have hc := cell_setCell_same w2 b 1 (.slice ao n' cap) (by rw [d1]; rfl)
    rw [Lib.cell_of_heap hv2] at hc
    exact Option.some.inj hc
  subst hvv
  refine ⟨_, ?_, ⟨⟨_, .inr rfl, hv2⟩, hrow2, hne2⟩, ?_⟩
  · rfl
  · refine ⟨by rw [← hg1.os, ← hgrow.os]; rfl, by rw [← hg1.tape, ← hgrow.tape]; rfl, by rw [← hg1.output, ← hgrow.output]; rfl, by have := hgrow.size; simp [World.setCell]; omega, fun k hk hn => ?_⟩
    rw [Below.heap_setCell _ _ _ _ (by show k ≠ b; exact fun e => hn (.inl e)), hgrow.block k (by omega) (fun e => hn (.inr e.symm)), hg1.block k hk (fun e => hn (.inl (Option.some.inj e)))]

theorem str_any (b : Nat) (l : List UInt8) (v : Value) (w : World) (h : Bd b l v w) :
    Calls Tryz.prog 40 #[.pointer (some ⟨b, 0, none⟩)] w fun e w' => e = .returned (.string (bs l)) ∧ Below b w w' := by
  obtain ⟨p, hp, hh⟩ := h.heap
  refine Any.Builder_String_any strB strX b b l w ?_ (Nat.le_of_lt h.lt)
  have ho : w.ownsRow b 5 1 v (Lib.byteCells l).length (Lib.byteCells l) := by rw [Lib.byteCells_length]; exact h.own
  rcases hp with rfl | rfl
  · exact .inl ⟨Nat.le_refl _, v, hh, ho, h.ne⟩
  · exact .inr ⟨Nat.le_refl _, v, hh, ho, h.ne⟩

/-- A pair's text. -/
def pairT (p : Pr) : List UInt8 := p.n ++ 61 :: p.v
/-- The texts of pairs behind others. -/
def txtR : List Pr → List UInt8
  | [] => []
  | p :: l => 44 :: pairT p ++ txtR l
/-- A set's text. -/
def txt : List Pr → List UInt8
  | [] => []
  | p :: l => pairT p ++ txtR l
theorem txtR_snoc (l : List Pr) (p : Pr) : txtR (l ++ [p]) = txtR l ++ 44 :: pairT p := by
  induction l with
  | nil => simp [txtR]
  | cons q l ih => simp [txtR, ih]
theorem txt_snoc (q : Pr) (l : List Pr) (p : Pr) : txt (q :: l ++ [p]) = txt (q :: l) ++ 44 :: pairT p := by
  simp [txt, txtR_snoc]
theorem txt_step (ds : List Pr) (i : Nat) (x : Pr) (hx : ds[i]? = some x) : txt (ds.take (i + 1)) = (if i = 0 then [] else txt (ds.take i) ++ [44]) ++ (x.n ++ [61] ++ x.v) := by
  have hi : i < ds.length := (List.getElem?_eq_some_iff.1 hx).1
  have ht : ds.take (i + 1) = ds.take i ++ [x] := by
    rw [List.take_add_one, hx]; rfl
  rw [ht]
  cases i with
  | zero => simp [txt, txtR, pairT]
  | succ j =>
    cases ds with
    | nil => simp at hi
    | cons q r =>
      rw [List.take_succ_cons, txt_snoc]
      simp [pairT]
theorem txtR_append (a b : List Pr) : txtR (a ++ b) = txtR a ++ txtR b := by
  induction a with
  | nil => rfl
  | cons q a ih => simp [txtR, ih]
theorem txtR_len (a b : List Pr) : (txtR a).length ≤ (txtR (a ++ b)).length := by
  rw [txtR_append, List.length_append]; omega
theorem txt_len (ds : List Pr) (i : Nat) : (txt (ds.take i)).length ≤ (txt ds).length := by
  conv => rhs; rw [← List.take_append_drop i ds]
  cases hd : ds.take i with
  | nil => simp [txt]
  | cons q a =>
    have := txtR_len a (ds.drop i)
    simp [txt]; omega

/-- A pair in a box of its own. -/
def PB (P : Nat) (x : Pr) (w : World) : Prop := w.heap[P]? = some (.cells #[.string (bs x.n), .string (bs x.v)] 65 (0, 0))
theorem PB.c0 {P : Nat} {x : Pr} {w : World} (h : PB P x w) : w.cell? ⟨P, 0, none⟩ = some (.string (bs x.n)) := by rw [Lib.cell_of_heap h]; rfl
theorem PB.c1 {P : Nat} {x : Pr} {w : World} (h : PB P x w) : w.cell? ⟨P, 1, none⟩ = some (.string (bs x.v)) := by rw [Lib.cell_of_heap h]; rfl
theorem PB.new (w : World) (x : Pr) : PB w.heap.size x (w.alloc (.cells #[.string (bs x.n), .string (bs x.v)] 65)) := heap_alloc_new w _

theorem wr_pb (b P : Nat) (x : Pr) (l s : List UInt8) (v : Value) (w : World) (h : Bd b l v w) (hp : PB P x w) (hm : l.length + s.length ≤ 10000000) :
    Calls Tryz.prog 39 #[.pointer (some ⟨b, 0, none⟩), .string (bs s)] w fun e w' => e = .returned (.tuple #[.int .i64 s.length, .nilIface]) ∧ PB P x w' ∧ Below b w w' ∧ ∃ v', Bd b (l ++ s) v' w' := by
  refine (wr_any b l s v w h hm).mono ?_
  rintro e w' ⟨v', he, hb, ht⟩
  have hlt : P < w.heap.size := (Array.getElem?_eq_some_iff.1 hp).1
  have hPb : P ≠ b := by
    rintro rfl
    obtain ⟨p, _, hh⟩ := h.heap
    rw [show w.heap[P]? = _ from hp] at hh
    simp at hh
  have hPv : v.ownBlock ≠ some P := by
    rcases h.own.2 with ⟨rfl, _⟩ | ⟨g, cap, cur, rfl, _, hgb, _⟩
    · simp [Value.ownBlock]
    · intro e'
      obtain rfl : g = P := by simpa [Value.ownBlock] using e'
      rw [show w.heap[g]? = _ from hp] at hgb
      simp at hgb
  refine ⟨he, (ht.block P hlt (fun k => k.elim hPb hPv)).trans hp, ht.below (Nat.le_of_lt h.lt) (fun k hk => ?_), v', hb⟩
  rcases hk with rfl | hk
  · exact Nat.le_refl _
  · exact (h.own.lt k hk).1

/-- What a name says. -/
def getP (n : List UInt8) : List Pr → List UInt8
  | [] => []
  | p :: l => if p.n = n then p.v else getP n l
set_option maxHeartbeats 1000000 in
set_option maxRecDepth 100000 in
theorem get_lb (v : Value) (ds : List Pr) (q : List UInt8) (w : World) (h : Rd w 2 v ds.length (prc ds)) (hn0 : ds.length ≤ 1000000) :
    Calls Tryz.prog 32 #[v, .string (bs q)] w fun e w' => e = .returned (.string (bs (getP q ds))) ∧ Below w.heap.size w w' := by
  have hT := bs_toList
  obtain ⟨_, a, cap, g, off, rfl, hg, hc⟩ := h
  obtain ⟨n, hn⟩ : ∃ n, n = ds.length := ⟨_, rfl⟩
  rw [← hn] at hg hc hn0 ⊢
  have HN := Lib.hid hn
  have HC := Lib.hid hc
  have HG := Lib.hid hg
  clear hn hc hg
  go_enter Tryz.func32, Tryz.ntmps32
  go_wp2_with fail
  go_loopw [9] (fun i' wr => ∃ (i : Nat), i' = .int .i64 i ∧ i ≤ n ∧ Hid (getP q ds = getP q (ds.drop i)) ∧ Below w.heap.size w wr) (fun i' _ => n - (intOf i').toNat)
  case atStart => exact ⟨0, rfl, by omega, rfl, Below.refl _ _⟩
  case round =>
    obtain ⟨i, rfl, hi, hk, hb⟩ := hrel
    by_cases hlt : i < n
    · obtain ⟨rfl, hgl⟩ := HG.out (by omega)
      obtain ⟨x, hx⟩ : ∃ x, ds[i]? = some x := ⟨ds[i]'(by have := HN.out; omega), List.getElem?_eq_getElem (by have := HN.out; omega)⟩
      obtain ⟨v0, v1⟩ := prc_at ds i x hx
      have q0 := ((hb.cell (p := ⟨g, off + i * 2, none⟩) hgl).trans (HC.out (i * 2) (by omega))).trans v0
      have q1 := ((hb.cell (p := ⟨g, off + (i * 2 + 1), none⟩) hgl).trans (HC.out (i * 2 + 1) (by omega))).trans v1
      rw [← Nat.add_assoc] at q1
      have hd : ds.drop i = x :: ds.drop (i + 1) := by
        rw [List.drop_eq_getElem_cons (by have := HN.out; omega)]
        congr 1
        rw [List.getElem?_eq_getElem (by have := HN.out; omega)] at hx
        exact Option.some.inj hx
      have hkk := hk.out
      rw [hd, getP] at hkk
      have hgw : g ≠ wr.heap.size := by have := hb.size; omega
      have hil : (i : Int) < n := by omega
      by_cases he : x.n = q
      · rw [if_pos he] at hkk
        have HQ := Lib.hid hkk
        have hbq : (x.n == q) = true := by simpa using he
        clear hkk hk hd v0 v1 hx he
        go_wp2
        go_ret
        exact ⟨by rw [HQ.out]; rfl, hb.alloc hb.size _⟩
      · rw [if_neg he] at hkk
        have HQ := Lib.hid hkk
        have hbq : (x.n == q) = false := by simpa using he
        clear hkk hk hd v0 v1 hx he
        go_wp2
        exact ⟨⟨i + 1, by simp, by omega, HQ.out, hb.alloc hb.size _⟩, by simp [intOf]; omega⟩
    · have hil : ¬ (i : Int) < n := by omega
      have hd : ds.drop i = [] := List.drop_eq_nil_of_le (by have := HN.out; omega)
      have hkk := hk.out
      rw [hd, getP] at hkk
      have HQ := Lib.hid hkk
      clear hkk hk hd
      go_wp2
      go_ret
      exact ⟨by rw [HQ.out]; rfl, hb⟩
end Go.Proofs.YtobdlfikomnmcaaGreatDoor
