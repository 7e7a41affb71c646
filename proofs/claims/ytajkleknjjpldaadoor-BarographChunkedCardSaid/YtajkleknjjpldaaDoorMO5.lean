/- Layer 7's samples, taken. -/
import Derived.Test.YtajkleknjjpldaaDoorMO4
import Derived.Test.YtajkleknjjpldaaDoorMC3
namespace Go.Proofs.YtajkleknjjpldaaDoor
open Go.RowKit Go.Lib

/-- An eye in block e, a trail in block t; the tables ahead of block C. -/
structure Gt (C t e : Nat) (s : List UInt8) (n : Nat) (E : Xo.Ey) (T : Xo.Tr) (w : World) : Prop where
  eye : EyeAt e s E.1 n E.2 w
  er : E.2 = 0 ∨ E.2 = 2
  tab : Tabs C w
  Ce : C ≤ e
  Ct : C ≤ t
  te : t ≠ e
  lt : t < w.heap.size
  c : ∀ j, j < 5 → w.cell? ⟨t, j, none⟩ = (trc T)[j]?
  f : ∀ j, j < 5 → w.frozen? ⟨t, j, none⟩ = false
/-- What the taking turns. -/
def TE (t e : Nat) (k : Nat) : Prop := k = t ∨ k = e
def Gw (C t e : Nat) (s : List UInt8) (n : Nat) (E : Xo.Ey) (T : Xo.Tr) (w w' : World) : Prop := Gt C t e s n E T w' ∧ Turn (TE t e) w w'
section
variable {C t e n : Nat} {s : List UInt8} {E : Xo.Ey} {T : Xo.Tr} {w w' : World}
theorem Gt.c0 (h : Gt C t e s n E T w) : w.cell? ⟨t, 0, none⟩ = some (.int .i64 T.T) := h.c 0 (by omega)
theorem Gt.c1 (h : Gt C t e s n E T w) : w.cell? ⟨t, 1, none⟩ = some (.int .u64 T.V) := h.c 1 (by omega)
theorem Gt.c2 (h : Gt C t e s n E T w) : w.cell? ⟨t, 2, none⟩ = some (.int .i64 T.st) := h.c 2 (by omega)
theorem Gt.c3 (h : Gt C t e s n E T w) : w.cell? ⟨t, 3, none⟩ = some (.int .i64 T.a) := h.c 3 (by omega)
theorem Gt.c4 (h : Gt C t e s n E T w) : w.cell? ⟨t, 4, none⟩ = some (.int .i64 T.z) := h.c 4 (by omega)
theorem Gt.grow (h : Gt C t e s n E T w) (k : Below w.heap.size w w') : Gt C t e s n E T w' :=
  ⟨h.eye.below k h.eye.lt, h.er, h.tab.below k h.tab.hB, h.Ce, h.Ct, h.te, Nat.lt_of_lt_of_le h.lt k.size, fun j hj => (k.cell (p := ⟨t, j, none⟩) h.lt).trans (h.c j hj), fun j hj => (k.frozen (p := ⟨t, j, none⟩) h.lt).trans (h.f j hj)⟩
theorem Gt.store (h : Gt C t e s n E T w) (o : Nat) (u : Value) (T' : Xo.Tr) (ho : o < 5) (hT : trc T' = (trc T).set o u) : Gt C t e s n E T' (w.setCell ⟨t, o, none⟩ u) := by
  have hk : Turn (fun k => k = t) w (w.setCell ⟨t, o, none⟩ u) := (Turn.refl (fun k => k = t) w).setCell _ _ rfl
  have he := h.eye.lt
  refine ⟨?_, h.er, h.tab.turn hk (fun k hk => by have := h.Ct; omega), h.Ce, h.Ct, h.te, by simpa [World.setCell] using h.lt, fun j hj => ?_, fun j hj => (frozen_setCell _ _ _ _ _).trans (h.f j hj)⟩
  · have hh : ∀ j, (w.setCell ⟨t, o, none⟩ u).cell? ⟨e, j, none⟩ = w.cell? ⟨e, j, none⟩ := fun j => cell_setCell_other _ _ _ _ _ (.inl (Ne.symm h.te))
    exact ⟨by simpa [World.setCell] using he, (hh 0).trans h.eye.c0, (hh 1).trans h.eye.c1, (hh 2).trans h.eye.c2, (hh 3).trans h.eye.c3, (frozen_setCell _ _ _ _ _).trans h.eye.f1, (frozen_setCell _ _ _ _ _).trans h.eye.f3, h.eye.hp, h.eye.hn, h.eye.hs⟩
  · rw [hT, List.getElem?_set]
    by_cases e : o = j
    · subst e
      rw [if_pos rfl, if_pos (by simp [trc]; omega)]
      exact cell_setCell_same _ _ _ _ (by rw [h.c o ho]; simp [trc]; omega)
    · rw [if_neg e]
      exact (cell_setCell_other _ _ _ _ _ (.inr (Ne.symm e))).trans (h.c j hj)
theorem Gt.eyed (h : Gt C t e s n E T w) {E' : Xo.Ey} (h' : EyeAt e s E'.1 n E'.2 w') (he : E'.2 = 0 ∨ E'.2 = 2) (k : Keep w.heap.size e w w') : Gw C t e s n E' T w w' := by
  have hk : Turn (TE t e) w w' := ⟨k.os, k.tape, k.output, k.size, fun i hi hS => k.block i hi fun x => hS (.inr x)⟩
  refine ⟨⟨h', he, h.tab.turn hk (fun k hk => by have := h.Ct; have := h.Ce; rcases hk with hk | hk <;> omega), h.Ce, h.Ct, h.te, Nat.lt_of_lt_of_le h.lt k.size, fun j hj => (k.cell (p := ⟨t, j, none⟩) h.lt h.te).trans (h.c j hj), fun j hj => (k.frozen (p := ⟨t, j, none⟩) h.lt h.te).trans (h.f j hj)⟩, hk⟩

theorem gbit (h : Gt C t e s n E T w) (b : Bool) (E' : Xo.Ey) (hE : Xo.eBit s n E = (b, E')) :
    Calls Tryd.prog 83 #[.pointer (some ⟨e, 0, none⟩)] w fun x w' => x = .returned (.bool b) ∧ Gw C t e s n E' T w w' := by
  obtain ⟨p, er⟩ := E
  unfold Xo.eBit at hE
  have hE' := h.eye
  have her := h.er
  simp only at hE' her hE
  by_cases hc : er = 0 ∧ p < n
  · rw [if_pos hc] at hE
    obtain ⟨rfl, rfl⟩ := Prod.mk.inj hE
    obtain ⟨rfl, hp⟩ := hc
    exact (ebit_ok e p n s w hE' hp).mono fun _ _ hx => ⟨hx.1, h.eyed hx.2.1 (.inl rfl) hx.2.2⟩
  · rw [if_neg hc] at hE
    obtain ⟨rfl, rfl⟩ := Prod.mk.inj hE
    have := hE'.hp
    exact (ebit_bad e p n er s w hE' (by omega)).mono fun _ _ hx => ⟨hx.1, h.eyed hx.2.1 (.inr rfl) hx.2.2⟩
theorem gbits (h : Gt C t e s n E T w) (k : Nat) (K : Int) (hK : K = (k : Int)) (hk : k ≤ 64) (b : Nat) (E' : Xo.Ey) (hE : Xo.eBits s n k E = (b, E')) :
    Calls Tryd.prog 75 #[.pointer (some ⟨e, 0, none⟩), .int .i64 K] w fun x w' => x = .returned (.int .u64 b) ∧ Gw C t e s n E' T w w' := by
  subst hK
  obtain ⟨p, er⟩ := E
  unfold Xo.eBits at hE
  have hE' := h.eye
  have her := h.er
  simp only at hE' her hE
  have e64 : (min (max (k : Int) 0) 64).toNat = k := by omega
  by_cases hc : er = 0 ∧ p + k ≤ n
  · rw [if_pos hc] at hE
    obtain ⟨rfl, rfl⟩ := Prod.mk.inj hE
    obtain ⟨rfl, hp⟩ := hc
    have := ebits_ok e p n (k : Int) s w hE' (by omega) (by omega) (by rw [e64]; exact hp)
    rw [e64] at this
    exact this.mono fun _ _ hx => ⟨hx.1, h.eyed hx.2.1 (.inl rfl) hx.2.2⟩
  · rw [if_neg hc] at hE
    obtain ⟨rfl, rfl⟩ := Prod.mk.inj hE
    exact (ebits_bad e p n er (k : Int) s w hE' (by omega) (by omega) (by rw [e64]; omega)).mono fun _ _ hx => ⟨hx.1, h.eyed hx.2.1 (.inr rfl) hx.2.2⟩
theorem gunary (h : Gt C t e s n E T w) (b : Nat) (E' : Xo.Ey) (hE : Xo.eUn s n 4 E = (b, E')) :
    Calls Tryd.prog 84 #[.pointer (some ⟨e, 0, none⟩), .int .i64 4] w fun x w' => x = .returned (.int .i64 b) ∧ Gw C t e s n E' T w w' := by
  obtain ⟨p, er⟩ := E
  unfold Xo.eUn at hE
  have hE' := h.eye
  have her := h.er
  simp only at hE' her hE
  have hle := Xo.onesAt_le s n 4 p
  have htr := Xo.onesAt_true s n 4 p
  have hen := Xo.onesAt_end s n 4 p
  obtain ⟨k, hk⟩ : ∃ k, k = Xo.onesAt s n p 4 := ⟨_, rfl⟩
  rw [← hk] at hle htr hen hE
  clear hk
  have hpn := hE'.hp
  have hkn : p + k ≤ n := by
    rcases Nat.eq_zero_or_pos k with h0 | h0
    · omega
    · have := (htr (k - 1) (by omega)).1; omega
  by_cases hc : er ≠ 0
  · rw [if_pos hc] at hE
    obtain ⟨rfl, rfl⟩ := Prod.mk.inj hE
    obtain rfl : er = 2 := by omega
    exact (eunary_bad e p n 4 s w hE').mono fun _ _ hx => ⟨hx.1, h.eyed hx.2.1 (.inr rfl) hx.2.2⟩
  · rw [if_neg hc] at hE
    obtain rfl : er = 0 := by omega
    by_cases h4 : k = 4
    · rw [if_pos h4] at hE
      obtain ⟨rfl, rfl⟩ := Prod.mk.inj hE
      subst h4
      exact (eunary_ok e p n 4 (p + 4) 4 s w hE' (by omega) (by omega) (fun j hj => (htr j hj).2) hkn (.inl ⟨by omega, rfl, .inl (by omega)⟩)).mono fun _ _ hx => ⟨hx.1, h.eyed hx.2.1 (.inl rfl) hx.2.2⟩
    · rw [if_neg h4] at hE
      by_cases hlt : p + k < n
      · rw [if_pos hlt] at hE
        obtain ⟨rfl, rfl⟩ := Prod.mk.inj hE
        exact (eunary_ok e p n k (p + k + 1) 4 s w hE' (by omega) (by omega) (fun j hj => (htr j hj).2) hkn (.inr ⟨by omega, hlt, hen (by omega) hlt, rfl⟩)).mono fun _ _ hx => ⟨hx.1, h.eyed hx.2.1 (.inl rfl) hx.2.2⟩
      · rw [if_neg hlt] at hE
        obtain ⟨rfl, rfl⟩ := Prod.mk.inj hE
        exact (eunary_end e p n k 4 s w hE' (by omega) (by omega) (fun j hj => (htr j hj).2) (by omega) (by omega)).mono fun _ _ hx => ⟨hx.1, h.eyed hx.2.1 (.inr rfl) hx.2.2⟩
end
theorem eUn_le (s : List UInt8) (n : Nat) (E : Xo.Ey) : (Xo.eUn s n 4 E).1 ≤ 4 := by
  unfold Xo.eUn
  split
  · omega
  · split
    · omega
    · split
      · exact Xo.onesAt_le s n 4 _
      · omega

theorem xunfold_any (u : Nat) (w : World) (h : u < 18446744073709551616) :
    Calls Tryd.prog 85 #[.int .u64 u] w fun e w' => e = .returned (.int .i64 (Leb.unfoldN u)) ∧ w = w' := by
  have HF := Lib.hid (unfoldN_bits u h)
  go_enter Tryd.func85, Tryd.ntmps85
  go_wp2
  go_ret
  exact ⟨by rw [← HF.out]; rfl, rfl⟩

set_option maxRecDepth 100000 in
theorem takech_any (C t e n : Nat) (s : List UInt8) (E : Xo.Ey) (T : Xo.Tr) (w : World) (h : Gt C t e s n E T w) :
    Calls Tryd.prog 76 #[.pointer (some ⟨e, 0, none⟩)] w fun x w' => x = .returned (.int .i64 (Xo.takeCh s n E).1) ∧ Gw C t e s n (Xo.takeCh s n E).2 T w w' := by
  have hle := eUn_le s n E
  obtain ⟨k, E1, h1⟩ : ∃ k E1, Xo.eUn s n 4 E = (k, E1) := ⟨_, _, rfl⟩
  obtain ⟨u, E2, h2⟩ : ∃ u E2, Xo.eBits s n (Xo.wd k) E1 = (u, E2) := ⟨_, _, rfl⟩
  have e1 : Xo.takeCh s n E = (Leb.unfoldN u, E2) := by unfold Xo.takeCh; rw [h1]; simp only; rw [h2]
  have hu := Xo.eBits_lt s n (Xo.wd k) E1
  rw [h2] at hu
  rw [h1] at hle
  simp only at hu hle
  have hu2 : u < 18446744073709551616 := Nat.lt_of_lt_of_le hu (Nat.pow_le_pow_right (n := 2) (by decide) (Xo.wd_le k))
  rw [e1]
  have G1 := Lib.hid (gunary h k E1 h1)
  have XU := Lib.hid (fun W => xunfold_any u W hu2)
  have hw64 := Xo.wd_le k
  obtain ⟨x, hx⟩ : ∃ x, x = Xo.wd k := ⟨_, rfl⟩
  have HX := Lib.hid hx
  rw [← hx] at h2 hw64
  have G2 := Lib.hid (fun W (h : Gt C t e s n E1 T W) => gbits h x x rfl hw64 u E2 h2)
  have H5 := Lib.hid (show k < 5 by omega)
  clear hx h1 h2 e1 hu hu2
  go_enter Tryd.func76, Tryd.ntmps76
  go_wp2_with (first
    | (go_at_call 84; refine G1.out.mono ?_; rintro y w1 ⟨rfl, P1, u1⟩; have c2 := P1.tab.wd k H5.out; rw [← HX.out] at c2)
    | (go_at_call 75; refine (G2.out _ P1).mono ?_; rintro y w2 ⟨rfl, P2, u2⟩)
    | (go_at_call 85; refine (XU.out _).mono ?_; rintro y w3 ⟨rfl, rfl⟩))
  go_ret
  exact ⟨rfl, P2, u1.trans u2⟩
end Go.Proofs.YtajkleknjjpldaaDoor
