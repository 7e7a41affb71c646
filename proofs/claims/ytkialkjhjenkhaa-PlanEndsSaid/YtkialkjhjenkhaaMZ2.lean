/- Layer 2's records, walked: four bytes of a sum. Layer 2's Append, walked. Layer 2's Next, walked. Layer 2's records as new bytes; '[]byte(s)'. What a call has turned: all but some blocks is as it was. Slices that are only read. -/
import Derived.Test.YtkialkjhjenkhaaMZ0
import Derived.Test.YtkialkjhjenkhaaMSl2
import Derived.RegionTactic
import Derived.BigRegion
import Derived.Test.YtkialkjhjenkhaaMB0
namespace Go.Proofs.Ytkialkjhjenkhaa
open Go.RowKit Go.Lib
set_option maxRecDepth 100000

theorem pow8 (k : Nat) : (2 : Int) ^ (8 * k) = ((256 ^ k : Nat) : Int) := by
  rw [Int.pow_mul]; norm_cast
theorem nth_bits (s k : Nat) : (s : Int) / 2 ^ (8 * k) % 256 = (((Fr.nth s k).toNat : Nat) : Int) := by
  rw [Fr.nth_toNat, pow8]
  rw [Int.natCast_emod, Int.natCast_ediv]
  rfl
theorem get_bits (acc k : Nat) (c : UInt8) (hk : k < 4) (hacc : acc < 256 ^ k) :
    bits BinOp.or IntKind.u32 (acc : Int) ((c.toNat : Int) % 4294967296 * 2 ^ (8 * k) % 4294967296) = ((acc + c.toNat * 256 ^ k : Nat) : Int) := by
  have hc := c.toNat_lt
  have h1 : (256 : Nat) ^ k ≤ 256 ^ 3 := Nat.pow_le_pow_right (by decide) (by omega)
  have h3 : (256 : Nat) ^ 3 = 16777216 := by decide
  have hlt : c.toNat * 256 ^ k < 4294967296 := by
    have := Nat.mul_le_mul (show c.toNat ≤ 255 by omega) h1
    omega
  have e1 : (c.toNat : Int) % 4294967296 * 2 ^ (8 * k) % 4294967296 = ((c.toNat * 256 ^ k : Nat) : Int) := by
    rw [pow8, show (c.toNat : Int) % 4294967296 = (c.toNat : Int) by omega, ← Int.natCast_mul]
    generalize c.toNat * 256 ^ k = q at *
    omega
  rw [e1, u32_or_nat _ _ (by omega) hlt]
  congr 1
  have e4 : (256 : Nat) ^ k = 2 ^ (8 * k) := by rw [Nat.pow_mul]
  rw [e4] at hacc ⊢
  rw [Nat.or_comm, Nat.mul_comm, ← Nat.two_pow_add_eq_or_of_lt hacc, Nat.add_comm]

end Go.Proofs.Ytkialkjhjenkhaa

namespace Go.Proofs.Ytkialkjhjenkhaa
open Go.RowKit Go.Lib
set_option maxRecDepth 100000

theorem bi_u8s : (Try.prog.info? 5).map (·.size) = some 1 := by kernel_rfl

/-- A new slice of the bytes of l and of a record behind them. -/
def Appended (w : World) (xs : List UInt8) (e : Ending) (w' : World) : Prop :=
  ∃ a cap, e = .returned (.slice a xs.length cap) ∧ Sl w' w.heap.size 1 (.slice a xs.length cap) xs.length (cb xs) ∧ Below w.heap.size w w'

end Go.Proofs.Ytkialkjhjenkhaa

namespace Go.Proofs.Ytkialkjhjenkhaa
open Go.RowKit Go.Lib
set_option maxRecDepth 100000

def nextV (r : (UInt8 × List UInt8) × List UInt8 × Nat) : Value := .tuple #[.agg #[.int .u8 r.1.1.toNat, .string (bs r.1.2)], .string (bs r.2.1), .int .i64 r.2.2]

namespace Fr
theorem next_none : next [] = ((0, []), [], 2) := rfl
theorem next_no {k : UInt8} {r t : List UInt8} {n er : Nat} (h : Leb.takeM r 1048576 = (n, t, er)) (he : er ≠ 0) : next (k :: r) = ((0, []), [], er) := by
  rw [next, h, if_pos he]
theorem next_end {k : UInt8} {r t : List UInt8} {n : Nat} (h : Leb.takeM r 1048576 = (n, t, 0)) (he : t.length < 4 + n) : next (k :: r) = ((0, []), [], 2) := by
  rw [next, h, if_neg (by simp), if_pos he]
theorem next_sum {k : UInt8} {r t : List UInt8} {n : Nat} (h : Leb.takeM r 1048576 = (n, t, 0)) (he : ¬ t.length < 4 + n) (hs : rsum k ((t.drop 4).take n) ≠ gk t 4) : next (k :: r) = ((0, []), [], 4) := by
  rw [next, h, if_neg (by simp), if_neg he, if_pos hs]
theorem next_ok {k : UInt8} {r t : List UInt8} {n : Nat} (h : Leb.takeM r 1048576 = (n, t, 0)) (he : ¬ t.length < 4 + n) (hs : rsum k ((t.drop 4).take n) = gk t 4) : next (k :: r) = ((k, (t.drop 4).take n), t.drop (4 + n), 0) := by
  rw [next, h, if_neg (by simp), if_neg he, if_neg (by simp [hs])]
end Fr

theorem bs_mid (t : List UInt8) (n : Nat) (d : List UInt8) (hd : d = (t.drop 4).take n) : (bs t).extract 4 (4 + n) = bs d := by
  rw [hd]
  conv => lhs; rw [show bs t = ByteArray.mk t.toArray from rfl]
  rw [ByteArray.extract_mk]
  simp only [bs]
  congr 3
  omega

end Go.Proofs.Ytkialkjhjenkhaa

namespace Go.Proofs.Ytkialkjhjenkhaa
open Go.RowKit Go.Lib

/-- '[]byte(s)'. -/
theorem bytes_conv (w : World) (t : List UInt8) (ht : t.length ≤ maxLen) :
    ∃ b W, (convert 9 102 (.string (bs t))).run Try.prog w = .ok b W ∧ Sl W w.heap.size 1 b t.length (cb t) ∧ Below w.heap.size w W := by
  have hcv := run_bytes_of_string (P := Try.prog) w 9 102 5 (bs t) Try.underlying9 Try.underlying102 Try.underlying5
  have hsl := Sl.of_text w 5 (bs t) (by rw [bs_size]; exact ht)
  have e1 : strCells (bs t) = cb t := rfl
  rw [e1, bs_size] at hsl
  rw [bs_size] at hcv
  exact ⟨_, _, hcv, hsl, (Below.refl _ w).drew.alloc (Nat.le_refl _) _⟩

/-- '[]byte(s)', s not empty. -/
theorem bytes_at (w : World) (t : List UInt8) (ht : t.length ≤ maxLen) (h0 : 0 < t.length) :
    ∃ g off cap W, (convert 9 102 (.string (bs t))).run Try.prog w = .ok (.slice (some ⟨g, off, none⟩) t.length cap) W ∧ t.length ≤ cap ∧ cap ≤ maxLen ∧ Sl W w.heap.size 1 (.slice (some ⟨g, off, none⟩) t.length cap) t.length (cb t) ∧ Below w.heap.size w W := by
  obtain ⟨b, W, hr, hs, hb⟩ := bytes_conv w t ht
  rcases hs.2 with ⟨h1, h2⟩ | ⟨g, off, cap, he, _, _, hn, hc, _, _⟩
  · omega
  · subst he
    exact ⟨g, off, cap, W, hr, hn, hc, hs, hb⟩

end Go.Proofs.Ytkialkjhjenkhaa

namespace Go.Proofs.Ytkialkjhjenkhaa
open Go.RowKit Go.Lib

/-- Of the blocks that were there, those alone that S names have turned. -/
structure Turn (S : Nat → Prop) (w w' : World) : Prop where
  os : w'.os = w.os
  tape : w'.tape = w.tape
  output : w'.output = w.output
  size : w.heap.size ≤ w'.heap.size
  block : ∀ k, k < w.heap.size → ¬ S k → w'.heap[k]? = w.heap[k]?

theorem Turn.refl (S : Nat → Prop) (w : World) : Turn S w w := ⟨rfl, rfl, rfl, Nat.le_refl _, fun _ _ _ => rfl⟩
theorem Turn.trans {S : Nat → Prop} {a b c : World} (h : Turn S a b) (k : Turn S b c) : Turn S a c :=
  ⟨k.os.trans h.os, k.tape.trans h.tape, k.output.trans h.output, Nat.le_trans h.size k.size, fun i hi hr => (k.block i (Nat.lt_of_lt_of_le hi h.size) hr).trans (h.block i hi hr)⟩
theorem Turn.mono {S S' : Nat → Prop} {a b : World} (h : Turn S a b) (hs : ∀ k, S k → S' k) : Turn S' a b := ⟨h.os, h.tape, h.output, h.size, fun i hi hr => h.block i hi fun e => hr (hs i e)⟩
theorem Turn.of_below {S : Nat → Prop} {a b : World} (h : Below a.heap.size a b) : Turn S a b := ⟨h.os, h.tape, h.output, h.size, fun i hi _ => h.block i hi⟩
theorem Turn.below {S : Nat → Prop} {a b : World} {B : Nat} (h : Turn S a b) (hB : B ≤ a.heap.size) (hS : ∀ k, S k → B ≤ k) : Below B a b :=
  ⟨h.os, h.tape, h.output, h.size, fun i hi => h.block i (by omega) fun e => by have := hS i e; omega⟩
theorem Turn.alloc {S : Nat → Prop} {a b : World} (h : Turn S a b) (o : Obj) : Turn S a (b.alloc o) :=
  h.trans (Turn.of_below ((Below.refl _ _).alloc (Nat.le_refl _) o))
theorem Turn.drew {S : Nat → Prop} {a b : World} (h : Turn S a b) : Turn S a b.drew := ⟨h.os, h.tape, h.output, h.size, h.block⟩
theorem Turn.setCell {S : Nat → Prop} {a b : World} (h : Turn S a b) (p : Addr) (u : Value) (hp : S p.block) : Turn S a (b.setCell p u) :=
  h.trans ⟨rfl, rfl, rfl, by simp [World.setCell], fun i _ hr => Below.heap_setCell b p u i fun e => hr (e ▸ hp)⟩
theorem Turn.setNew {S : Nat → Prop} {a b : World} (h : Turn S a b) (p : Addr) (u : Value) (hp : a.heap.size ≤ p.block) : Turn S a (b.setCell p u) :=
  ⟨h.os, h.tape, h.output, by have := h.size; simpa [World.setCell] using this, fun i hi hr => (Below.heap_setCell b p u i (by omega)).trans (h.block i hi hr)⟩
theorem Turn.cell {S : Nat → Prop} {w w' : World} (h : Turn S w w') {p : Addr} (hp : p.block < w.heap.size) (hs : ¬ S p.block) : w'.cell? p = w.cell? p := World.cell?_of_block (w := w) (h.block p.block hp hs)
theorem Turn.frozen {S : Nat → Prop} {w w' : World} (h : Turn S w w') {p : Addr} (hp : p.block < w.heap.size) (hs : ¬ S p.block) : w'.frozen? p = w.frozen? p := World.frozen?_of_block (w := w) (h.block p.block hp hs)
end Go.Proofs.Ytkialkjhjenkhaa

namespace Go.Proofs.Ytkialkjhjenkhaa
open Go.RowKit Go.Lib

/-- v is a slice of n elements (each of so many cells) whose cells read as xs. -/
def Rd (w : World) (size : Nat) (v : Value) (n : Nat) (xs : List Value) : Prop :=
  xs.length = n * size ∧ ∃ a cap g off, v = .slice a n cap ∧ (0 < n → a = some ⟨g, off, none⟩ ∧ g < w.heap.size) ∧ ∀ j, j < n * size → w.cell? ⟨g, off + j, none⟩ = xs[j]?
theorem Rd.of_sl {w : World} {base size n : Nat} {v : Value} {xs : List Value} (h : Sl w base size v n xs) : Rd w size v n xs := by
  refine ⟨h.1, ?_⟩
  rcases h.2 with ⟨rfl, rfl⟩ | ⟨g, off, cap, rfl, h1, h2, _, _, _, h3⟩
  · exact ⟨none, 0, 0, 0, rfl, fun h => absurd h (by omega), fun j hj => absurd hj (by omega)⟩
  · exact ⟨_, cap, g, off, rfl, fun _ => ⟨rfl, h2⟩, h3⟩
theorem Rd.on {w w' : World} {size n : Nat} {v : Value} {xs : List Value} (h : Rd w size v n xs) (b : Below w.heap.size w w') : Rd w' size v n xs := by
  obtain ⟨h0, a, cap, g, off, hv, h1, h2⟩ := h
  refine ⟨h0, a, cap, g, off, hv, fun hn => ⟨(h1 hn).1, Nat.lt_of_lt_of_le (h1 hn).2 b.size⟩, fun j hj => ?_⟩
  have hn : 0 < n := by
    rcases Nat.eq_zero_or_pos n with rfl | hp
    · simp at hj
    · exact hp
  exact (b.cell (p := ⟨g, off + j, none⟩) (h1 hn).2).trans (h2 j hj)

end Go.Proofs.Ytkialkjhjenkhaa
