/- The library's contracts, laid over this program. Layer 6: a set as a text; what a name says. Layer 6: the first known answers. -/
import Derived.Shelf.Strings.Builder1
import Derived.Test.YteheojiokbdgmaaDoorProg
import Derived.Test.YteheojiokbdgmaaDoorML8
namespace Go.Proofs.YteheojiokbdgmaaDoor
open Go.Shelf Go.Proofs
end Go.Proofs.YteheojiokbdgmaaDoor

namespace Go.Proofs.YteheojiokbdgmaaDoor
open Go.RowKit Go.Lib

/-- A pair's text. -/
def pairT (p : Pr) : List UInt8 := p.n ++ 61 :: p.v
/-- The texts of pairs behind others. -/
def txtR : List Pr → List UInt8
  | [] => []
  | p :: l => 44 :: pairT p ++ txtR l
/-- A set's text. -/
def txt : List Pr → List UInt8
  | [] => []
  | p :: l => pairT p ++ txtR l
theorem txtR_snoc (l : List Pr) (p : Pr) : txtR (l ++ [p]) = txtR l ++ 44 :: pairT p := by
  induction l with
  | nil => simp [txtR]
  | cons q l ih => simp [txtR, ih]
theorem txt_snoc (q : Pr) (l : List Pr) (p : Pr) : txt (q :: l ++ [p]) = txt (q :: l) ++ 44 :: pairT p := by
  simp [txt, txtR_snoc]
theorem txt_step (ds : List Pr) (i : Nat) (x : Pr) (hx : ds[i]? = some x) : txt (ds.take (i + 1)) = (if i = 0 then [] else txt (ds.take i) ++ [44]) ++ (x.n ++ [61] ++ x.v) := by
  have hi : i < ds.length := (List.getElem?_eq_some_iff.1 hx).1
  have ht : ds.take (i + 1) = ds.take i ++ [x] := by
    rw [List.take_add_one, hx]; rfl
  rw [ht]
  cases i with
  | zero => simp [txt, txtR, pairT]
  | succ j =>
    cases ds with
    | nil => simp at hi
    | cons q r =>
      rw [List.take_succ_cons, txt_snoc]
      simp [pairT]
theorem txtR_append (a b : List Pr) : txtR (a ++ b) = txtR a ++ txtR b := by
  induction a with
  | nil => rfl
  | cons q a ih => simp [txtR, ih]
theorem txtR_len (a b : List Pr) : (txtR a).length ≤ (txtR (a ++ b)).length := by
  rw [txtR_append, List.length_append]; omega
theorem txt_len (ds : List Pr) (i : Nat) : (txt (ds.take i)).length ≤ (txt ds).length := by
  conv => rhs; rw [← List.take_append_drop i ds]
  cases hd : ds.take i with
  | nil => simp [txt]
  | cons q a =>
    have := txtR_len a (ds.drop i)
    simp [txt]; omega

/-- A pair in a box of its own. -/
def PB (P : Nat) (x : Pr) (w : World) : Prop := w.heap[P]? = some (.cells #[.string (bs x.n), .string (bs x.v)] 46 (0, 0))
theorem PB.c0 {P : Nat} {x : Pr} {w : World} (h : PB P x w) : w.cell? ⟨P, 0, none⟩ = some (.string (bs x.n)) := by rw [Lib.cell_of_heap h]; rfl
theorem PB.c1 {P : Nat} {x : Pr} {w : World} (h : PB P x w) : w.cell? ⟨P, 1, none⟩ = some (.string (bs x.v)) := by rw [Lib.cell_of_heap h]; rfl
theorem PB.new (w : World) (x : Pr) : PB w.heap.size x (w.alloc (.cells #[.string (bs x.n), .string (bs x.v)] 46)) := heap_alloc_new w _

/-- What a name says. -/
def getP (n : List UInt8) : List Pr → List UInt8
  | [] => []
  | p :: l => if p.n = n then p.v else getP n l
end Go.Proofs.YteheojiokbdgmaaDoor

namespace Go.Proofs.YteheojiokbdgmaaDoor
open Go.RowKit Go.Lib

def setOf (w : World) (v : Value) (ds : List Pr) : Prop := Rd w 2 v ds.length (prc ds)
end Go.Proofs.YteheojiokbdgmaaDoor
