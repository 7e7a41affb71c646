/- Layer 9: the metas that the statements make. Layer 9: Check. Layer 9: Check, its files and its sources. Texts compared: plain maths. -/
import Derived.Test.YtkialkjhjenkhaaMM1
import Derived.Deep.RegionHeld3
import Derived.Laws.BitsLemmas
import Derived.Lib.LaidTab
import Derived.Test.YtkialkjhjenkhaaMB0
import Derived.Lib.Bytealg
import Derived.Sort.Statements
namespace Go.Proofs.Ytkialkjhjenkhaa
open Go.RowKit Go.Lib

theorem i64_mask (n : Int) (k : Nat) (hk : k ≤ 62) : bits .and .i64 n ((2 ^ k - 1 : Nat) : Int) = n % ((2 ^ k : Nat) : Int) := by
  have hle : (2 : Nat) ^ k ≤ 2 ^ 62 := Nat.pow_le_pow_right (by decide) hk
  have h62 : (2 : Nat) ^ 62 = 4611686018427387904 := by decide
  have hp : 0 < (2 : Nat) ^ k := Nat.pow_pos (by decide)
  have h3 : (BitVec.ofInt 64 ((2 ^ k - 1 : Nat) : Int)).toNat = 2 ^ k - 1 := by
    rw [BitVec.ofInt_natCast, BitVec.toNat_ofNat]
    exact Nat.mod_eq_of_lt (by omega)
  have key : (BitVec.ofInt 64 n &&& BitVec.ofInt 64 ((2 ^ k - 1 : Nat) : Int)).toNat = (n % ((2 ^ 64 : Nat) : Int)).toNat % 2 ^ k := by
    rw [BitVec.toNat_and, BitVec.toNat_ofInt, h3, Nat.and_two_pow_sub_one_eq_mod]
  show IntKind.i64.wrap ((BitVec.ofInt 64 n &&& BitVec.ofInt 64 ((2 ^ k - 1 : Nat) : Int)).toNat : Nat) = _
  rw [key, IntKind.wrap_i64]
  have hlt : (n % ((2 ^ 64 : Nat) : Int)).toNat % 2 ^ k < 2 ^ k := Nat.mod_lt _ hp
  have hc : (((n % ((2 ^ 64 : Nat) : Int)).toNat % 2 ^ k : Nat) : Int) = n % ((2 ^ k : Nat) : Int) := by
    rw [Int.natCast_emod, Int.toNat_of_nonneg (Int.emod_nonneg _ (by decide))]
    exact Int.emod_emod_of_dvd n (Int.natCast_dvd_natCast.2 (Nat.pow_dvd_pow 2 (by omega)))
  rw [hc] at *
  have h0 : 0 ≤ n % ((2 ^ k : Nat) : Int) := Int.emod_nonneg _ (by omega)
  have h1 : n % ((2 ^ k : Nat) : Int) < ((2 ^ k : Nat) : Int) := Int.emod_lt_of_pos _ (by omega)
  omega

theorem turn_step {S : Nat → Prop} {a b c : World} (h : Turn S a b) (k : Below a.heap.size b c) : Turn S a c :=
  ⟨k.os.trans h.os, k.tape.trans h.tape, k.output.trans h.output, Nat.le_trans h.size k.size, fun i hi hr => (k.block i hi).trans (h.block i hi hr)⟩
theorem range_snoc (i : Nat) : (List.range (i + 1)).map (Idn.nam 0) = (List.range i).map (Idn.nam 0) ++ [Idn.nam 0 i] := by
  rw [List.range_succ, List.map_append]; rfl

/-- A list of texts as cells; of files. -/
def sc (l : List (List UInt8)) : List Value := l.map fun s => .string (bs s)
theorem sc_len (l : List (List UInt8)) : (sc l).length = l.length := by simp [sc]
theorem sc_append (l m : List (List UInt8)) : sc (l ++ m) = sc l ++ sc m := by simp [sc]
theorem sc_one (l : List (List UInt8)) : ∀ v ∈ sc l, v.oneCell' = true := by
  intro v hv
  simp only [sc, List.mem_map] at hv
  obtain ⟨b, _, rfl⟩ := hv
  rfl
def flc (l : List Mt.Fl) : List Value := l.flatMap fun f => [.string (bs f.name), .int .i64 f.size, .int .u32 f.sum]

/-- A meta as a value. -/
def meV (m : Mt.Me) (vf vs : Value) : Value := .agg #[.string (bs m.id), .int .i64 m.mn, .int .i64 m.mx, .int .i64 m.lv, .int .i64 m.se, .int .i64 m.sa, vf, vs]
/-- The answer: a meta, its lists in new memory. -/
def MadeM (w : World) (m : Mt.Me) (e : Ending) (w' : World) : Prop :=
  ∃ vf vs, e = .returned (meV m vf vs) ∧ Sl w' w.heap.size 3 vf m.files.length (flc m.files) ∧ Sl w' w.heap.size 1 vs m.src.length (sc m.src) ∧ Below w.heap.size w w'

theorem turn_set8 (b : Nat) (W : World) (u0 u1 u2 u3 u4 u5 u6 u7 : Value) : Turn (fun k => k = b) W ((((((((W.setCell ⟨b, 0, none⟩ u0).setCell ⟨b, 1, none⟩ u1).setCell ⟨b, 2, none⟩ u2).setCell ⟨b, 3, none⟩ u3).setCell ⟨b, 4, none⟩ u4).setCell ⟨b, 5, none⟩ u5).setCell ⟨b, 6, none⟩ u6).setCell ⟨b, 7, none⟩ u7) :=
  Turn.setCell (S := fun k => k = b) (Turn.setCell (S := fun k => k = b) (Turn.setCell (S := fun k => k = b) (Turn.setCell (S := fun k => k = b) (Turn.setCell (S := fun k => k = b) (Turn.setCell (S := fun k => k = b) (Turn.setCell (S := fun k => k = b) (Turn.setCell (S := fun k => k = b) (Turn.refl _ W) ⟨b, 0, none⟩ u0 rfl) ⟨b, 1, none⟩ u1 rfl) ⟨b, 2, none⟩ u2 rfl) ⟨b, 3, none⟩ u3 rfl) ⟨b, 4, none⟩ u4 rfl) ⟨b, 5, none⟩ u5 rfl) ⟨b, 6, none⟩ u6 rfl) ⟨b, 7, none⟩ u7 rfl
theorem Sl.turn {S : Nat → Prop} {w w' : World} {base size n : Nat} {v : Value} {xs : List Value} (h : Sl w base size v n xs) (t : Turn S w w') (hv : ∀ k, v.ownBlock = some k → ¬ S k) : Sl w' base size v n xs :=
  h.same t.size fun k hk => t.block k (h.lt k hk).2 (hv k hk)

/-- The loop that fills the sources: block xb, as it stood in W3, holds i of them. -/
def Fill (W3 : World) (xb i : Nat) (wr : World) : Prop :=
  ∃ vs, (∀ k, k < 7 → wr.cell? ⟨xb, k, none⟩ = W3.cell? ⟨xb, k, none⟩) ∧ wr.cell? ⟨xb, 7, none⟩ = some vs ∧ wr.frozen? ⟨xb, 7, none⟩ = false ∧ Sl wr W3.heap.size 1 vs i (sc ((List.range i).map (Idn.nam 0))) ∧ Turn (fun k => k = xb) W3 wr

theorem bi_strM : (Try.prog.info? 9).map (fun i => (i.zero, i.size, i.bytes)) = some (some (.string ⟨#[]⟩), 1, 16) := by kernel_rfl

end Go.Proofs.Ytkialkjhjenkhaa

namespace Go.Proofs.Ytkialkjhjenkhaa
open Go.RowKit Go.Lib

/-- A meta's lists read so. -/
def MeR (w : World) (m : Mt.Me) (vf vs : Value) : Prop := Rd w 3 vf m.files.length (flc m.files) ∧ Rd w 1 vs m.src.length (sc m.src) ∧ m.files.length ≤ 1000000 ∧ m.src.length ≤ 1000000
theorem MeR.on {w w' : World} {m : Mt.Me} {vf vs : Value} (h : MeR w m vf vs) (b : Below w.heap.size w w') : MeR w' m vf vs := ⟨h.1.on b, h.2.1.on b, h.2.2⟩

theorem flc_at : ∀ (l : List Mt.Fl) (i : Nat) (f : Mt.Fl), l[i]? = some f → (flc l)[i * 3]? = some (.string (bs f.name)) ∧ (flc l)[i * 3 + 1]? = some (.int .i64 f.size) ∧ (flc l)[i * 3 + 2]? = some (.int .u32 f.sum)
  | [], i, f, h => by simp at h
  | x :: l, 0, f, h => by
    simp only [List.getElem?_cons_zero, Option.some.injEq] at h
    subst h
    exact ⟨rfl, rfl, rfl⟩
  | x :: l, i + 1, f, h => by
    have ih := flc_at l i f (by simpa using h)
    have e : flc (x :: l) = [.string (bs x.name), .int .i64 x.size, .int .u32 x.sum] ++ flc l := rfl
    have k : ∀ j, (flc (x :: l))[(i + 1) * 3 + j]? = (flc l)[i * 3 + j]? := fun j => by
      rw [e, List.getElem?_append_right (by simp; omega)]
      congr 1
      simp; omega
    exact ⟨(k 0).trans ih.1, (k 1).trans ih.2.1, (k 2).trans ih.2.2⟩

end Go.Proofs.Ytkialkjhjenkhaa

namespace Go.Proofs.Ytkialkjhjenkhaa
open Go.RowKit Go.Lib

/-- Files beside their names. -/
def okZ (l : List (Mt.Fl × List UInt8)) : Bool := l.all fun p => Mt.okF p.1 p.2
theorem okZ_two (f g : Mt.Fl) : Mt.okFs [f, g] = okZ ([f, g].zip [Mt.nmC, Mt.nmI]) := by simp [Mt.okFs, okZ]
theorem okFs_len {l : List Mt.Fl} (h : l.length ≠ 2) : Mt.okFs l = false := by
  match l, h with
  | [], _ => rfl
  | [_], _ => rfl
  | [_, _], h => simp at h
  | _ :: _ :: _ :: _, _ => rfl

end Go.Proofs.Ytkialkjhjenkhaa

namespace Go.Proofs.Ytkialkjhjenkhaa
open Go.RowKit

theorem cmp_spec : ∀ a b : List UInt8, (Lib.compareBytes a b < 0 ↔ a < b) ∧ (Lib.compareBytes a b = 0 ↔ a = b) ∧ (0 < Lib.compareBytes a b ↔ b < a)
  | [], [] => by simp [Lib.compareBytes]
  | [], _ :: _ => by simp [Lib.compareBytes]
  | _ :: _, [] => by simp [Lib.compareBytes]
  | x :: a, y :: b => by
    obtain ⟨h1, h2, h3⟩ := cmp_spec a b
    unfold Lib.compareBytes
    rw [List.cons_lt_cons_iff, List.cons_lt_cons_iff]
    by_cases hxy : x < y
    · have hne : x ≠ y := fun e => by rw [e] at hxy; exact absurd hxy (UInt8.lt_irrefl _)
      have hyx : ¬ y < x := fun h => absurd (UInt8.lt_trans hxy h) (UInt8.lt_irrefl _)
      simp [hxy, hne, hyx, Ne.symm hne]
    · by_cases hyx : y < x
      · have hne : x ≠ y := fun e => by rw [e] at hyx; exact absurd hyx (UInt8.lt_irrefl _)
        simp [hxy, hyx, hne, Ne.symm hne]
      · have he : x = y := UInt8.le_antisymm (UInt8.not_lt.1 hyx) (UInt8.not_lt.1 hxy)
        subst he
        simp [h1, h2, h3]
theorem cmp_lt (a b : List UInt8) : Lib.compareBytes a b < 0 ↔ a < b := (cmp_spec a b).1
theorem cmp_eq (a b : List UInt8) : Lib.compareBytes a b = 0 ↔ a = b := (cmp_spec a b).2.1
theorem cmp_gt (a b : List UInt8) : 0 < Lib.compareBytes a b ↔ b < a := (cmp_spec a b).2.2
theorem cmp_val : ∀ a b : List UInt8, Lib.compareBytes a b = -1 ∨ Lib.compareBytes a b = 0 ∨ Lib.compareBytes a b = 1
  | [], [] => by simp [Lib.compareBytes]
  | [], _ :: _ => by simp [Lib.compareBytes]
  | _ :: _, [] => by simp [Lib.compareBytes]
  | x :: a, y :: b => by
    have := cmp_val a b
    unfold Lib.compareBytes
    split
    · simp
    · split
      · simp
      · exact this
theorem bytes_lt_irrefl (a : List UInt8) : ¬ a < a := List.lt_irrefl a
theorem bytes_lt_trans {a b c : List UInt8} (h : a < b) (k : b < c) : a < c := List.lt_trans h k
theorem bytes_tri (a b : List UInt8) : a < b ∨ a = b ∨ b < a := by
  rcases cmp_val a b with h | h | h
  · exact .inl ((cmp_lt a b).1 (by omega))
  · exact .inr (.inl ((cmp_eq a b).1 h))
  · exact .inr (.inr ((cmp_gt a b).1 (by omega)))
theorem bytes_not_lt {a b : List UInt8} (h : ¬ a < b) : a = b ∨ b < a := (bytes_tri a b).resolve_left h
/-- Texts by rising bytes, as a strict weak order on whatever has one. -/
theorem swo_by {α : Type} (key : α → List UInt8) : Sort.SWO fun x y : α => decide (Lib.compareBytes (key x) (key y) < 0) where
  irrefl x := by
    rw [decide_eq_false_iff_not, cmp_lt]
    exact bytes_lt_irrefl _
  trans x y z h k := by
    rw [decide_eq_true_iff, cmp_lt] at *
    exact bytes_lt_trans h k
  ntrans x y z h k := by
    rw [decide_eq_false_iff_not, cmp_lt] at *
    intro hz
    rcases bytes_not_lt h with e | e
    · exact k (e ▸ hz)
    · rcases bytes_not_lt k with e2 | e2
      · exact h (e2 ▸ hz)
      · exact bytes_lt_irrefl _ (bytes_lt_trans hz (bytes_lt_trans e2 e))
end Go.Proofs.Ytkialkjhjenkhaa
