/- Layer 12: the document's Any, walked. Layer 12: the document's Both, walked. -/
import Derived.Test.YteheojiokbdgmaaGreatDoorMT4
namespace Go.Proofs.YteheojiokbdgmaaGreatDoor
open Go.RowKit Go.Lib

theorem Nc.ns {w : World} {v : Value} {l : List Int} (h : Nc w v l) : Ns w v l := by
  obtain ⟨hl, a, cap, g, off, hv, hc, h1, h2⟩ := h
  refine ⟨⟨by rw [ic_length, Nat.mul_one], a, cap, g, off, hv, h1, fun j hj => ?_⟩, hl⟩
  have hj : j < l.length := by omega
  rw [h2 j l[j] (List.getElem?_eq_getElem hj), ic_at l j l[j] (List.getElem?_eq_getElem hj)]

theorem foldP_snoc (q : List Int) (n : Int) : (q ++ [n]).foldl putZ [] = putZ (q.foldl putZ []) n := by simp [List.foldl_append]
theorem take_flat_len (ls : List (List Int)) (i : Nat) : (ls.take i).flatten.length ≤ ls.flatten.length := by
  have h : ls.flatten = (ls.take i).flatten ++ (ls.drop i).flatten := by rw [← List.flatten_append, List.take_append_drop]
  rw [h, List.length_append]; omega
theorem take_flat_succ (ls : List (List Int)) (i : Nat) (l : List Int) (h : ls[i]? = some l) : (ls.take (i + 1)).flatten = (ls.take i).flatten ++ l := by
  rw [List.take_add_one, h]; simp

/-- So many numbers put, one behind the other. -/
def foldZ (q : List Int) : List Int := q.foldl putZ []
end Go.Proofs.YteheojiokbdgmaaGreatDoor

namespace Go.Proofs.YteheojiokbdgmaaGreatDoor
open Go.RowKit Go.Lib

def allZ (ls : List (List Int)) (n : Int) : Bool := ls.all fun l => decide (n ∈ l)
theorem allZ_succ (ls : List (List Int)) (j : Nat) (l : List Int) (n : Int) (h : ls[j]? = some l) : allZ (ls.take (j + 1)) n = (allZ (ls.take j) n && decide (n ∈ l)) := by
  rw [List.take_add_one, h]; simp [allZ, List.all_append]
def selZ (ls : List (List Int)) (q : List Int) : List Int := q.filter fun n => allZ ls n
theorem selZ_snoc (ls : List (List Int)) (q : List Int) (n : Int) : selZ ls (q ++ [n]) = selZ ls q ++ (if allZ ls n = true then [n] else []) := by
  unfold selZ
  rw [List.filter_append]
  congr 1
  cases hb : allZ ls n <;> simp [hb]

end Go.Proofs.YteheojiokbdgmaaGreatDoor
