/- An append to whatever slice of one's own, as one step of a region that draws its order. The document's own buckets: a list of objects. The document's Find: a loop over its list. -/
import Derived.Test.YtnjoojffefhgpaaMSl3
import Derived.Deep.RegionLaw
import Derived.Test.YtnjoojffefhgpaaMG11
namespace Go.Proofs.Ytnjoojffefhgpaa
open Go.RowKit Go.Lib

theorem step_append_sl {P : Program} {ops : Array Oper} {o : Oper} {a : Act} {w : World} {K : Act → World → Prop} {Q : Exit → Act → World → Prop} {E : Prop}
    (hg : o.guard = none) (s x : Operand) (t : TypeId) (ho : o.op = Op.call { callee := Callee.builtin Builtin.append, args := #[s, x], argTypes := #[t, t] })
    (base : Nat) (e : TypeId) (i : TypeInfo) (z : Value) (size bytes : Nat) (ht : P.underlying t = some (.slice e)) (hi : P.info? e = some i) (hz : i.zero = some z)
    (hsize : i.size = size) (hby : i.bytes = bytes) (hzs : z.cells.size = size) (hsz : 0 < size)
    (v : Value) (n : Nat) (xs : List Value) (hs : a.eval s = v) (hown : Sl w base size v n xs)
    (ad : Addr) (m c : Nat) (news : List Value) (hx : a.eval x = .slice (some ad) m c) (hl : news.length = m * size) (hnews : ∀ j u, news[j]? = some u → w.cell? (ad.add j) = some u) (h1 : ∀ u ∈ news, u.oneCell' = true)
    (h63 : n + m ≤ maxLen) (hbytes : (n + m) * bytes ≤ 140737488355328) (hbase : base ≤ w.heap.size)
    (hK : ∀ v' w', Ext base size w v n xs w' v' (n + m) (xs ++ news) → K (a.put o.dst v') w') :
    if Region.wanted o (yielded ops a.tmps) = true then Oper.wp P o a w K Q else E := by
  have hw : Region.wanted o (yielded ops a.tmps) = true := by simp [Region.wanted, hg]
  rw [if_pos hw]
  obtain ⟨v', w', hr, h2⟩ := run_append_sl (P := P) w base t o.type e i z size bytes ht hi hz hsize hby hzs hsz v n xs hown ad m c news hl hnews h1 h63 hbytes hbase
  unfold Oper.wp
  simp [execOp, ho, resolve, invoke, builtin, hs, hx, hr, Result.andThen]
  exact hK v' w' h2
end Go.Proofs.Ytnjoojffefhgpaa

namespace Go.Proofs.Ytnjoojffefhgpaa
open Go.Conc Go.RowKit
set_option linter.unusedVariables false

/-- An object of the document's list. -/
structure Rj where
  name : ByteArray
  data : ByteArray
  tm : Int
instance : Inhabited Rj := ⟨⟨ByteArray.empty, ByteArray.empty, 0⟩⟩
def encRj (x : Rj) : List Value := [.string x.name, .string x.data, .int .i64 x.tm]
def rjc (xs : List Rj) : List Value := xs.flatMap encRj
theorem rjc_append (a b : List Rj) : rjc (a ++ b) = rjc a ++ rjc b := by simp [rjc]
theorem rjc_cons (a : Rj) (b : List Rj) : rjc (a :: b) = encRj a ++ rjc b := by simp [rjc]
theorem rjc_length (xs : List Rj) : (rjc xs).length = xs.length * 3 := by
  induction xs with
  | nil => rfl
  | cons x xs ih => rw [rjc_cons, List.length_append, ih]; simp [encRj]; omega
theorem rjc_one (x : Rj) : ∀ u ∈ encRj x, u.oneCell' = true := by
  intro u hu
  simp only [encRj, List.mem_cons, List.not_mem_nil, or_false] at hu
  rcases hu with rfl | rfl | rfl <;> rfl
theorem rjc_at : ∀ (xs : List Rj) (j : Nat) (x : Rj), xs[j]? = some x → (rjc xs)[j * 3]? = some (.string x.name) ∧ (rjc xs)[j * 3 + 1]? = some (.string x.data) ∧ (rjc xs)[j * 3 + 2]? = some (.int .i64 x.tm)
  | [], j, x, h => by simp at h
  | y :: xs, 0, x, h => by
    simp only [List.getElem?_cons_zero, Option.some.injEq] at h
    subst h
    rw [rjc_cons]
    exact ⟨rfl, rfl, rfl⟩
  | y :: xs, j + 1, x, h => by
    have ih := rjc_at xs j x (by simpa using h)
    have hl : (encRj y).length = 3 := rfl
    rw [rjc_cons]
    refine ⟨?_, ?_, ?_⟩
    · rw [List.getElem?_append_right (by omega), hl, show (j + 1) * 3 - 3 = j * 3 by omega]; exact ih.1
    · rw [List.getElem?_append_right (by omega), hl, show (j + 1) * 3 + 1 - 3 = j * 3 + 1 by omega]; exact ih.2.1
    · rw [List.getElem?_append_right (by omega), hl, show (j + 1) * 3 + 2 - 3 = j * 3 + 2 by omega]; exact ih.2.2
/-- A bucket of the document's, as a value: its list, its faults. -/
def rbv (v u : Value) : Value := .agg #[v, u]

/-- The place of a name. -/
def idxR (k : ByteArray) : List Rj → Option Nat
  | [] => none
  | x :: xs => if x.name = k then some 0 else (idxR k xs).map (· + 1)
def findR (k : ByteArray) (xs : List Rj) : Int := match idxR k xs with | none => -1 | some i => i
theorem idxR_drop (k : ByteArray) : ∀ (xs : List Rj) (i : Nat), (∀ j x, j < i → xs[j]? = some x → x.name ≠ k) → idxR k xs = (idxR k (xs.drop i)).map (· + i)
  | xs, 0, _ => by simp
  | [], i + 1, _ => by simp [idxR]
  | x :: xs, i + 1, h => by
    have hx := h 0 x (by omega) rfl
    have ih := idxR_drop k xs i (fun j y hj hy => h (j + 1) y (by omega) (by simpa using hy))
    show (if x.name = k then some 0 else (idxR k xs).map (· + 1)) = _
    rw [if_neg hx, ih, List.drop_succ_cons, Option.map_map]
    rfl
end Go.Proofs.Ytnjoojffefhgpaa

namespace Go.Proofs.Ytnjoojffefhgpaa
open Go.Conc Go.RowKit
set_option linter.unusedVariables false
theorem bytes_same {a b : ByteArray} (h : a.toList = b.toList) : a = b := by
  rw [ByteArray.toList_eq, ByteArray.toList_eq] at h
  exact ByteArray.ext (Array.toList_inj.1 h)
set_option maxHeartbeats 1000000 in
set_option maxRecDepth 100000 in
theorem rfind_any (base : Nat) (v u : Value) (xs : List Rj) (k : ByteArray) (w : World) (hs : Sl w base 3 v xs.length (rjc xs)) (hlen : xs.length ≤ 1000) (hu : ∃ a n c, u = .slice a n c) :
    Calls Try.prog 71 #[rbv v u, .string k] w fun e w' => e = .returned (.int .i64 (findR k xs)) ∧ Below w.heap.size w w' := by
  obtain ⟨ua, un, uc, rfl⟩ := hu
  obtain ⟨a, cap, gl, ol, rfl, hlp, hcl⟩ := sl_open3 hs
  obtain ⟨n, hn⟩ : ∃ n, n = xs.length := ⟨_, rfl⟩
  rw [← hn] at hlp hcl hlen ⊢
  have HN := Lib.hid hn
  unfold rbv
  clear hn hs
  go_enter Try.func71, Try.ntmps71
  go_wp2_with fail
  obtain ⟨V, hV⟩ : ∃ V, V = w.alloc (.cells #[.slice a n cap, .slice ua un uc] 52) := ⟨_, rfl⟩
  have bV : Below w.heap.size w V := by rw [hV]; exact (Below.refl _ _).alloc (Nat.le_refl _) _
  rw [← hV]
  go_loopw [10] (fun vj wr => ∃ j : Nat, vj = .int .i64 j ∧ j ≤ n ∧ (∀ i x, i < j → xs[i]? = some x → x.name ≠ k) ∧ Below w.heap.size w wr) (fun vj _ => n - (RowKit.intOf vj).toNat)
  case atStart => exact ⟨0, rfl, by omega, fun i x hi => absurd hi (Nat.not_lt_zero _), bV⟩
  case round =>
    obtain ⟨j, rfl, hj, hno, b7⟩ := hrel
    by_cases hjn : j < n
    · obtain ⟨rfl, hlg, hgl⟩ := hlp (by omega)
      obtain ⟨x, hx⟩ : ∃ x, xs[j]? = some x := ⟨xs[j]'(by have := HN.out; omega), List.getElem?_eq_getElem (by have := HN.out; omega)⟩
      obtain ⟨v0, v1, v2⟩ := rjc_at xs j x hx
      have q0 := ((b7.cell (p := ⟨gl, ol + j * 3, none⟩) hgl).trans (hcl (j * 3) (by omega))).trans v0
      have q1 := ((b7.cell (p := ⟨gl, ol + (j * 3 + 1), none⟩) hgl).trans (hcl (j * 3 + 1) (by omega))).trans v1
      have q2 := ((b7.cell (p := ⟨gl, ol + (j * 3 + 2), none⟩) hgl).trans (hcl (j * 3 + 2) (by omega))).trans v2
      rw [← Nat.add_assoc] at q1 q2
      have hjn' : (j : Int) < n := by omega
      clear hcl hlp v0 v1 v2 hV bV
      by_cases hk : x.name = k
      · have hkb : (x.name == k) = true := (MapKept.bytes_beq _ _).2 hk
        go_wp2_with fail
        subst hk
        go_ret
        refine ⟨?_, ?_⟩
        · show Ending.returned (.int .i64 j) = _
          rw [findR, idxR_drop x.name xs j hno, List.drop_eq_getElem_cons (by have := HN.out; omega)]
          have : xs[j]'(by have := HN.out; omega) = x := by rw [List.getElem?_eq_getElem (by have := HN.out; omega)] at hx; exact Option.some.inj hx
          rw [this]
          simp [idxR]
        · exact b7.alloc b7.size _
      · have hkb : (x.name.toList == k.toList) = false := by
          rw [Bool.eq_false_iff]
          intro hb
          exact hk (bytes_same (eq_of_beq hb))
        go_wp2_with fail
        refine ⟨⟨j + 1, by go_num, by omega, fun i y hi hy => ?_, b7.alloc b7.size _⟩, by simp [RowKit.intOf]; omega⟩
        by_cases hij : i < j
        · exact hno i y hij hy
        · have : i = j := by omega
          subst this
          rw [hx] at hy
          cases hy
          exact hk
    · have hjn' : ¬ (j : Int) < n := by omega
      clear hcl hlp hV bV
      go_wp2_with fail
      go_ret
      refine ⟨?_, b7⟩
      show Ending.returned (.int .i64 (-1)) = _
      rw [findR, idxR_drop k xs j hno, List.drop_eq_nil_of_le (by have := HN.out; omega)]
      rfl
end Go.Proofs.Ytnjoojffefhgpaa
