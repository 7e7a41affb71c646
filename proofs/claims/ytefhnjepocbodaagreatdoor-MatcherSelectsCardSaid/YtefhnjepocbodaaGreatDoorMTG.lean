/- Layer 12: the first series; the first known answers. Layer 12: the document's Any, walked. Layer 12: the document's Both, walked. Layer 12: New, Get, All; the first known answers. -/
import Derived.Test.YtefhnjepocbodaaGreatDoorMTF
import Derived.Test.YtefhnjepocbodaaGreatDoorMT4
namespace Go.Proofs.YtefhnjepocbodaaGreatDoor
open Go.RowKit Go.Lib

set_option maxHeartbeats 2000000 in
set_option maxRecDepth 100000 in
theorem add_first (b mh ml ch cl : Nat) (n : Int) (x y : List UInt8) (sv : Value) (w : World) (h : IxB b mh ml (.slice none 0 0) w) (hmh : MapIs mh [] ch w) (hml : MapIsJ ml [] cl w) (hs : Rd w 2 sv 1 (prc [⟨x, y⟩])) (hne : ∀ k, sv.ownBlock = some k → k ≠ b) :
    Calls Tryz.prog 15 #[.pointer (some ⟨b, 0, none⟩), .int .i64 n, sv] w fun e w' => e = .returned (.tuple #[]) ∧ ∃ va mi c1 c2 vl, w.heap.size ≤ mi ∧ IxB b mh ml va w' ∧ MapIs mh [⟨bs x, .map (some mi), ch⟩] c1 w' ∧ MapIs mi [⟨bs y, vl, 0⟩] c2 w' ∧ Nc w' va [n] ∧ Nc w' vl [n] ∧ Turn (fun k => k = b ∨ k = mh ∨ k = ml) w w' := by
  have hbw : b < w.heap.size := (Array.getElem?_eq_some_iff.1 h.box).1
  have hmw := mapIs_lt hmh
  have hlw := mapIsJ_lt hml
  have c0 : w.cell? ⟨b, 0, none⟩ = some (.slice none 0 0) := Lib.cell_of_heap h.box 0
  obtain ⟨_, sa, sc, sg, so, rfl, hsg, hsc⟩ := hs
  obtain ⟨rfl, hsw⟩ := hsg (by omega)
  have v0 : w.cell? ⟨sg, so, none⟩ = some (.string (bs x)) := hsc 0 (by omega)
  have v1 : w.cell? ⟨sg, so + 1, none⟩ = some (.string (bs y)) := hsc 1 (by omega)
  have hsb : sg ≠ b := hne sg rfl
  clear hsg hsc hne
  go_enter Tryz.func15, Tryz.ntmps15
  go_wp2_with fail
  refine (with_nil n _).mono ?_
  rintro e w1 ⟨va, rfl, s1, b1⟩
  obtain ⟨a1, k1, e1⟩ := s1.slice
  have e1 : va = .slice a1 1 k1 := e1
  subst e1
  have z1 := b1.size
  have c01 := (b1.cell (p := ⟨b, 0, none⟩) hbw).trans c0
  have f01 := (b1.frozen (p := ⟨b, 0, none⟩) hbw).trans (Lib.frozen_of_heap h.box 0)
  obtain ⟨W2, hW2⟩ : ∃ W2, W2 = w1.setCell ⟨b, 0, none⟩ (.slice a1 1 k1) := ⟨_, rfl⟩
  have t2 : Turn (fun k => k = b) w W2 := by rw [hW2]; exact (Turn.of_below b1).setCell _ _ rfl
  have bx : W2.heap[b]? = some (.cells #[.slice a1 1 k1, .map (some mh), .map (some ml)] 77) := by
    have := heap_setCell_same w1 b 0 _ _ (.slice a1 1 k1) ((b1.block b hbw).trans h.box)
    rw [hW2, this]; rfl
  have sa2 : Sl W2 w.heap.size 1 (.slice a1 1 k1) 1 (ic [n]) := by rw [hW2]; exact sl_else s1 _ _ (by show b < w.heap.size; exact hbw)
  have u0 := (t2.cell (p := ⟨sg, so, none⟩) hsw hsb).trans v0
  have u1 := (t2.cell (p := ⟨sg, so + 1, none⟩) hsw hsb).trans v1
  have h2 := hmh.turn t2 (fun e => h.bh e.symm)
  have l2 := hml.turn t2 (fun e => h.bl e.symm)
  have z2 := t2.size
  obtain ⟨P, hP⟩ : ∃ P : Obj, P = .cells #[.string (bs x), .string (bs y)] 53 := ⟨_, rfl⟩
  have tP : Turn (fun _ => False) W2 (W2.alloc P) := (Turn.refl _ W2).alloc P
  have zP : (W2.alloc P).heap.size = W2.heap.size + 1 := by simp
  have AP := Lib.hid (addp_first b mh ml ch cl (.slice a1 1 k1) n x y (W2.alloc P) ⟨(tP.block b (by omega) id).trans bx, h.bh, h.bl, h.hl⟩ (h2.turn tP id) (l2.turn tP id))
  rw [hP] at AP
  have HBX := Lib.hid bx
  have HSA := Lib.hid sa2
  have HT := Lib.hid t2
  have hsz2 : sg < W2.heap.size := by omega
  clear s1 b1 c0 v0 v1 h2 l2 sa2 bx
  go_wp2_with fail
  go_loopw [19] (fun i' wr => (i' = .int .i64 0 ∧ W2 = wr) ∨ (i' = .int .i64 1 ∧ Hid (∃ va mi c1 c2 vl, w.heap.size ≤ mi ∧ IxB b mh ml va wr ∧ MapIs mh [⟨bs x, .map (some mi), ch⟩] c1 wr ∧ MapIs mi [⟨bs y, vl, 0⟩] c2 wr ∧ Nc wr va [n] ∧ Nc wr vl [n] ∧ Turn (fun k => k = b ∨ k = mh ∨ k = ml) w wr))) (fun i' _ => 1 - (RowKit.intOf i').toNat)
  case atStart => exact .inl ⟨rfl, hW2⟩
  case round =>
    rcases hrel with ⟨rfl, rfl⟩ | ⟨rfl, hf⟩
    · clear hW2
      go_wp2_with fail
      refine AP.out.mono ?_
      rintro e w3 ⟨rfl, mi, c1, c2, vl, hmi, m1, m2, nl, t3⟩
      have tt : Turn (fun k => k = mh ∨ k = ml) W2 w3 := by
        rw [← hP] at t3
        exact ((Turn.refl _ W2).alloc P).trans t3
      have FF := Lib.hid (show ∃ va mi c1 c2 vl, w.heap.size ≤ mi ∧ IxB b mh ml va w3 ∧ MapIs mh [⟨bs x, .map (some mi), ch⟩] c1 w3 ∧ MapIs mi [⟨bs y, vl, 0⟩] c2 w3 ∧ Nc w3 va [n] ∧ Nc w3 vl [n] ∧ Turn (fun k => k = b ∨ k = mh ∨ k = ml) w w3 from
        ⟨.slice a1 1 k1, mi, c1, c2, vl, by rw [← hP] at hmi; omega, ⟨(tt.block b (by omega) (fun e => e.elim h.bh h.bl)).trans HBX.out, h.bh, h.bl, h.hl⟩, m1, m2, Nc.of_sl (base := w.heap.size) (sl_turnT HSA.out tt (fun k hk e => by have := (HSA.out.lt k hk).1; rcases e with e | e <;> omega)) (by simp), nl, (HT.out.mono (fun k hk => .inl hk)).trans (tt.mono (fun k hk => .inr hk))⟩)
      clear m1 m2 nl t3 tt
      go_wp2
      exact ⟨.inr ⟨rfl, FF.out⟩, by simp [RowKit.intOf]⟩
    · have HF := Lib.hid hf.out
      clear hf hW2
      go_wp2
      go_end0
      exact ⟨rfl, HF.out⟩
end Go.Proofs.YtefhnjepocbodaaGreatDoor

namespace Go.Proofs.YtefhnjepocbodaaGreatDoor
open Go.RowKit Go.Lib

theorem Nc.ns {w : World} {v : Value} {l : List Int} (h : Nc w v l) : Ns w v l := by
  obtain ⟨hl, a, cap, g, off, hv, hc, h1, h2⟩ := h
  refine ⟨⟨by rw [ic_length, Nat.mul_one], a, cap, g, off, hv, h1, fun j hj => ?_⟩, hl⟩
  have hj : j < l.length := by omega
  rw [h2 j l[j] (List.getElem?_eq_getElem hj), ic_at l j l[j] (List.getElem?_eq_getElem hj)]

theorem foldP_snoc (q : List Int) (n : Int) : (q ++ [n]).foldl putZ [] = putZ (q.foldl putZ []) n := by simp [List.foldl_append]
theorem take_flat_len (ls : List (List Int)) (i : Nat) : (ls.take i).flatten.length ≤ ls.flatten.length := by
  have h : ls.flatten = (ls.take i).flatten ++ (ls.drop i).flatten := by rw [← List.flatten_append, List.take_append_drop]
  rw [h, List.length_append]; omega
theorem take_flat_succ (ls : List (List Int)) (i : Nat) (l : List Int) (h : ls[i]? = some l) : (ls.take (i + 1)).flatten = (ls.take i).flatten ++ l := by
  rw [List.take_add_one, h]; simp

/-- So many numbers put, one behind the other. -/
def foldZ (q : List Int) : List Int := q.foldl putZ []
end Go.Proofs.YtefhnjepocbodaaGreatDoor

namespace Go.Proofs.YtefhnjepocbodaaGreatDoor
open Go.RowKit Go.Lib

def allZ (ls : List (List Int)) (n : Int) : Bool := ls.all fun l => decide (n ∈ l)
theorem allZ_succ (ls : List (List Int)) (j : Nat) (l : List Int) (n : Int) (h : ls[j]? = some l) : allZ (ls.take (j + 1)) n = (allZ (ls.take j) n && decide (n ∈ l)) := by
  rw [List.take_add_one, h]; simp [allZ, List.all_append]
def selZ (ls : List (List Int)) (q : List Int) : List Int := q.filter fun n => allZ ls n
theorem selZ_snoc (ls : List (List Int)) (q : List Int) (n : Int) : selZ ls (q ++ [n]) = selZ ls q ++ (if allZ ls n = true then [n] else []) := by
  unfold selZ
  rw [List.filter_append]
  congr 1
  cases hb : allZ ls n <;> simp [hb]

end Go.Proofs.YtefhnjepocbodaaGreatDoor

namespace Go.Proofs.YtefhnjepocbodaaGreatDoor
open Go.RowKit Go.Lib

set_option maxHeartbeats 1000000 in
set_option maxRecDepth 100000 in
theorem new12 (w : World) : Calls Tryz.prog 11 #[] w fun e w' => ∃ b mh ml, e = .returned (.pointer (some ⟨b, 0, none⟩)) ∧ (w.heap.size ≤ b ∧ w.heap.size ≤ mh ∧ w.heap.size ≤ ml) ∧ IxB b mh ml (.slice none 0 0) w' ∧ MapIs mh [] 0 w' ∧ MapIsJ ml [] 0 w' ∧ Below w.heap.size w w' := by
  have hmm := @run_makeMap Tryz.prog
  go_enter Tryz.func11, Tryz.ntmps11
  go_wp2
  go_ret
  have s1 : (w.alloc (.map #[] 0)).heap.size = w.heap.size + 1 := by simp
  have s2 : ((w.alloc (.map #[] 0)).alloc (.map #[] 0)).heap.size = w.heap.size + 2 := by simp
  have h1 := heap_alloc_new w (.map #[] 0)
  have h2 := heap_alloc_new (w.alloc (.map #[] 0)) (.map #[] 0)
  rw [s1] at h2
  have h3 := heap_alloc_new ((w.alloc (.map #[] 0)).alloc (.map #[] 0)) (.cells #[.slice none 0 0, .map (some w.heap.size), .map (some (w.heap.size + 1))] 77)
  rw [s2] at h3
  exact ⟨w.heap.size + 2, w.heap.size, w.heap.size + 1, rfl, ⟨by omega, by omega, by omega⟩, ⟨h3, by omega, by omega, by omega⟩, (Below.heap_alloc _ _ _ (by omega)).trans ((Below.heap_alloc _ _ _ (by omega)).trans h1), (Below.heap_alloc _ _ _ (by omega)).trans h2, (((Below.refl _ _).alloc (Nat.le_refl _) _).alloc (by omega) _).alloc (by omega) _⟩

set_option maxHeartbeats 1000000 in
set_option maxRecDepth 100000 in
theorem get_first (b mh ml mi ch c1 c2 : Nat) (va vl : Value) (n : Int) (x y : List UInt8) (w : World) (h : IxB b mh ml va w) (m1 : MapIs mh [⟨bs x, .map (some mi), ch⟩] c1 w) (m2 : MapIs mi [⟨bs y, vl, 0⟩] c2 w) (hv : Nc w vl [n]) :
    Calls Tryz.prog 71 #[.pointer (some ⟨b, 0, none⟩), .string (bs x), .string (bs y)] w (NewN w [n]) := by
  have k1 : w.cell? ⟨b, 1, none⟩ = some (.map (some mh)) := Lib.cell_of_heap h.box 1
  have l1 : (Instr.lookup 74 (.map (some mh)) (.string (bs x)) false).run Tryz.prog w = .ok (.map (some mi)) w := by
    have := run_look (P := Tryz.prog) Tryz.underlying74 Tryz.underlying9 (.map none) zv_inner m1 (bs x) false
    simpa [lookE] using this
  have l2 : (Instr.lookup 103 (.map (some mi)) (.string (bs y)) false).run Tryz.prog w = .ok vl w := by
    have := run_look (P := Tryz.prog) Tryz.underlying103 Tryz.underlying9 (.slice none 0 0) zv_list m2 (bs y) false
    simpa [lookE] using this
  have C := Lib.hid (nclone_any vl [n] w hv)
  clear h m1 m2 hv
  go_enter Tryz.func71, Tryz.ntmps71
  go_wp2_with fail
  refine C.out.mono ?_
  rintro e w1 ⟨v1, rfl, s1, b1⟩
  go_wp2
  go_ret
  exact ⟨_, rfl, s1, b1⟩

set_option maxHeartbeats 1000000 in
set_option maxRecDepth 100000 in
theorem all_first (b mh ml : Nat) (va : Value) (n : Int) (w : World) (h : IxB b mh ml va w) (hv : Nc w va [n]) :
    Calls Tryz.prog 23 #[.pointer (some ⟨b, 0, none⟩)] w (NewN w [n]) := by
  have k0 : w.cell? ⟨b, 0, none⟩ = some va := Lib.cell_of_heap h.box 0
  have C := Lib.hid (nclone_any va [n] w hv)
  obtain ⟨a, c, rfl⟩ := nc_form hv
  clear h hv
  go_enter Tryz.func23, Tryz.ntmps23
  go_wp2_with fail
  refine C.out.mono ?_
  rintro e w1 ⟨v1, rfl, s1, b1⟩
  go_wp2
  go_ret
  exact ⟨_, rfl, s1, b1⟩

theorem two_lists (w : World) : Ncs (((w.alloc (.cells #[.int .i64 1, .int .i64 2, .int .i64 5] 3)).alloc (.cells #[.int .i64 2, .int .i64 3, .int .i64 5] 3)).alloc (.cells #[.slice (some ⟨w.heap.size, 0, none⟩) 3 3, .slice (some ⟨w.heap.size + 1, 0, none⟩) 3 3] 39)) (.slice (some ⟨w.heap.size + 1 + 1, 0, none⟩) 2 2) [[1, 2, 5], [2, 3, 5]] := by
  have s1 : (w.alloc (.cells #[.int .i64 1, .int .i64 2, .int .i64 5] 3)).heap.size = w.heap.size + 1 := by simp
  have s2 : ((w.alloc (.cells #[.int .i64 1, .int .i64 2, .int .i64 5] 3)).alloc (.cells #[.int .i64 2, .int .i64 3, .int .i64 5] 3)).heap.size = w.heap.size + 1 + 1 := by simp
  have l1 := ((Sl.lit w 0 1 3 #[.int .i64 1, .int .i64 2, .int .i64 5] 3 (Nat.zero_le _) (by decide) rfl).alloc (.cells #[.int .i64 2, .int .i64 3, .int .i64 5] 3)).alloc (.cells #[.slice (some ⟨w.heap.size, 0, none⟩) 3 3, .slice (some ⟨w.heap.size + 1, 0, none⟩) 3 3] 39)
  have l2 := (Sl.lit (w.alloc (.cells #[.int .i64 1, .int .i64 2, .int .i64 5] 3)) 0 1 3 #[.int .i64 2, .int .i64 3, .int .i64 5] 3 (Nat.zero_le _) (by decide) rfl).alloc (.cells #[.slice (some ⟨w.heap.size, 0, none⟩) 3 3, .slice (some ⟨w.heap.size + 1, 0, none⟩) 3 3] 39)
  have l3 := Sl.lit ((w.alloc (.cells #[.int .i64 1, .int .i64 2, .int .i64 5] 3)).alloc (.cells #[.int .i64 2, .int .i64 3, .int .i64 5] 3)) 0 1 2 #[.slice (some ⟨w.heap.size, 0, none⟩) 3 3, .slice (some ⟨w.heap.size + 1, 0, none⟩) 3 3] 39 (Nat.zero_le _) (by decide) rfl
  rw [s1] at l2
  rw [s2] at l3
  refine ⟨by decide, _, 2, w.heap.size + 1 + 1, 0, rfl, by decide, fun _ => ⟨rfl, by simp⟩, fun j l hl => ?_⟩
  match j, hl with
  | 0, hl => cases hl; exact ⟨_, l3.cells 0 _ rfl, Nc.of_sl (base := 0) (l := [1, 2, 5]) l1 (by decide)⟩
  | 1, hl => cases hl; exact ⟨_, l3.cells 1 _ rfl, Nc.of_sl (base := 0) (l := [2, 3, 5]) l2 (by decide)⟩

end Go.Proofs.YtefhnjepocbodaaGreatDoor
