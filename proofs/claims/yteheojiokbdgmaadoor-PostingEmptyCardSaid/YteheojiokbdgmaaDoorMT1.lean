/- Layer 12: the document's lists of numbers, walked: In, Put, Less. Layer 12: the document's Put, walked. -/
import Derived.Test.YteheojiokbdgmaaDoorMSl
import Derived.Test.YteheojiokbdgmaaDoorMSl3
namespace Go.Proofs.YteheojiokbdgmaaDoor
open Go.RowKit Go.Lib

/-- The cells of numbers. -/
def ic (l : List Int) : List Value := l.map fun n => Value.int .i64 n
theorem ic_length (l : List Int) : (ic l).length = l.length := by simp [ic]
theorem ic_append (l m : List Int) : ic (l ++ m) = ic l ++ ic m := by simp [ic]
theorem ic_one (l : List Int) : ∀ v ∈ ic l, v.oneCell' = true := by
  intro v hv
  simp only [ic, List.mem_map] at hv
  obtain ⟨n, _, rfl⟩ := hv
  rfl
theorem ic_at (l : List Int) (i : Nat) (n : Int) (h : l[i]? = some n) : (ic l)[i]? = some (.int .i64 n) := by simp [ic, h]
theorem bi_int : (Tryd.prog.info? 3).map (fun i => (i.zero, i.size, i.bytes)) = some (some (.int .i64 0), 1, 8) := by kernel_rfl
/-- A list of numbers that is only read. -/
def Ns (w : World) (v : Value) (l : List Int) : Prop := Rd w 1 v l.length (ic l) ∧ l.length ≤ 100000
theorem Ns.on {w w' : World} {v : Value} {l : List Int} (h : Ns w v l) (b : Below w.heap.size w w') : Ns w' v l := ⟨h.1.on b, h.2⟩
theorem Ns.of_sl {w : World} {base : Nat} {v : Value} {l : List Int} (h : Sl w base 1 v l.length (ic l)) (hl : l.length ≤ 100000) : Ns w v l := ⟨Rd.of_sl h, hl⟩
/-- The answer is a list of these numbers, in new memory. -/
def NewN (w : World) (l : List Int) (e : Ending) (w' : World) : Prop := ∃ v, e = .returned v ∧ Sl w' w.heap.size 1 v l.length (ic l) ∧ Below w.heap.size w w'

theorem lessZ_snoc (l o : List Int) (x : Int) : pickZ (l ++ [x]) o false = pickZ l o false ++ (if x ∈ o then [] else [x]) := by
  unfold pickZ
  rw [List.filter_append]
  congr 1
  by_cases h : x ∈ o <;> simp [h]

end Go.Proofs.YteheojiokbdgmaaDoor

namespace Go.Proofs.YteheojiokbdgmaaDoor
open Go.RowKit Go.Lib

/-- The loop that puts one more in: is it in, what is laid out. -/
def stepN (n : Int) (r : Bool × List Int) (x : Int) : Bool × List Int := if r.1 = false ∧ n < x then (true, r.2 ++ [n, x]) else (r.1, r.2 ++ [x])
def putF (n : Int) (b : Bool) (l : List Int) : Bool × List Int := l.foldl (stepN n) (b, [])
theorem putF_snoc (n : Int) (b : Bool) (l : List Int) (x : Int) : putF n b (l ++ [x]) = stepN n (putF n b l) x := by simp [putF, List.foldl_append]
theorem putF_in (n : Int) : ∀ (l acc : List Int), l.foldl (stepN n) (true, acc) = (true, acc ++ l)
  | [], acc => by simp
  | x :: r, acc => by rw [List.foldl_cons, stepN, if_neg (by simp), putF_in n r]; simp
theorem putF_go (n : Int) : ∀ (l acc : List Int), (if (l.foldl (stepN n) (false, acc)).1 = true then (l.foldl (stepN n) (false, acc)).2 else (l.foldl (stepN n) (false, acc)).2 ++ [n]) = acc ++ insZ n l
  | [], acc => by simp [insZ]
  | x :: r, acc => by
    rw [List.foldl_cons]
    by_cases h : n < x
    · have e : stepN n (false, acc) x = (true, acc ++ [n, x]) := by unfold stepN; rw [if_pos ⟨rfl, h⟩]
      rw [e, putF_in n r, insZ, if_pos h]; simp
    · have e : stepN n (false, acc) x = (false, acc ++ [x]) := by unfold stepN; rw [if_neg (by simp [h])]
      rw [e, putF_go n r, insZ, if_neg h]; simp
theorem putF_is (n : Int) (l : List Int) : (if (putF n (decide (n ∈ l)) l).1 = true then (putF n (decide (n ∈ l)) l).2 else (putF n (decide (n ∈ l)) l).2 ++ [n]) = putZ l n := by
  unfold putZ
  by_cases h : n ∈ l
  · rw [if_pos h, decide_eq_true h, putF, putF_in n l]; simp
  · rw [if_neg h, decide_eq_false h]
    have := putF_go n l []
    rw [List.nil_append] at this
    exact this

end Go.Proofs.YteheojiokbdgmaaDoor
