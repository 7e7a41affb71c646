/- What BitrowTakes calls, walked. -/
import Derived.Test.YtfhpbjokgijdfaaC9
namespace Go.Proofs.Ytfhpbjokgijdfaa
open Go.RowKit Go.Lib

/-- A thing was taken: rightly; from place p on, up to q, or the bits were too few. -/
def Took (E : Nat) (P : List UInt8) (p n : Nat) (w : World) (x : Ending) (w' : World) : Prop :=
  Keep w.heap.size E w w' ∧ ((∃ q, p ≤ q ∧ q ≤ n ∧ x = .returned (.tuple #[.bool true, .int .i64 q, .bool false]) ∧ EyeAt E P q n 0 w') ∨
    ∃ q, x = .returned (.tuple #[.bool true, .int .i64 p, .bool true]) ∧ EyeAt E P q n 2 w')

theorem ones_exist (f : Nat → Bool) (D n : Nat) (M : Int) : ∀ (u K : Nat), n - (D + K) ≤ u → D + K ≤ n → (∀ j, j < K → f (D + j) = true) → ((K : Int) ≤ M ∨ K = 0) →
    ∃ K, (∀ j, j < K → f (D + j) = true) ∧ D + K ≤ n ∧ ((M ≤ (K : Int) ∧ ((K : Int) ≤ M ∨ K = 0)) ∨ ((K : Int) < M ∧ D + K < n ∧ f (D + K) = false) ∨ ((K : Int) < M ∧ D + K = n))
  | u, K, hu, hn, ho, hm => by
    by_cases h1 : M ≤ (K : Int)
    · exact ⟨K, ho, hn, .inl ⟨h1, hm⟩⟩
    · by_cases h2 : D + K = n
      · exact ⟨K, ho, hn, .inr (.inr ⟨by omega, h2⟩)⟩
      · cases h3 : f (D + K)
        · exact ⟨K, ho, hn, .inr (.inl ⟨by omega, by omega, h3⟩)⟩
        · match u, hu with
          | 0, hu => omega
          | u + 1, hu =>
            refine ones_exist f D n M u (K + 1) (by omega) (by omega) (fun j hj => ?_) (by omega)
            by_cases h : j = K
            · rw [h]; exact h3
            · exact ho j (by omega)

theorem sl_zero {w : World} {base g off n cap : Nat} {xs : List Value} (h : Sl w base 1 (.slice (some ⟨g, off, none⟩) n cap) n xs) : Sl w base 1 (.slice (some ⟨g, off, none⟩) 0 0) 0 [] := by
  rcases h.2 with ⟨h0, _⟩ | ⟨g', off', cap', he, hbg, hg, hnc, hcm, hfree, hcell⟩
  · cases h0
  · cases he
    exact ⟨rfl, .inr ⟨g, off, 0, rfl, hbg, hg, by omega, by decide, fun j hj => absurd hj (by omega), fun j hj => absurd hj (by omega)⟩⟩

/-- What is known when a thing is taken. -/
structure Taking (E : Nat) (P : List UInt8) (p n : Nat) (L : List Bool) (g off cap base : Nat) (w : World) : Prop where
  eye : EyeAt E P p n 0 w
  all : Sl w base 1 (.slice (some ⟨g, off, none⟩) n cap) n (bc L)
  bits : L = ahead P 0 n
  apart : g ≠ E

theorem ahead_get (P : List UInt8) (n j : Nat) (h : j < n) : (ahead P 0 n)[j]? = some (Bt.bitAt P j) := by
  simp [ahead, h]

set_option maxRecDepth 100000 in
theorem take1 (E : Nat) (P : List UInt8) (p n : Nat) (L : List Bool) (g off cap base : Nat) (t : Th) (hk : t.k = 1) (w : World) (h : Taking E P p n L g off cap base w) :
    Calls Try.prog 25 #[.pointer (some ⟨E, 0, none⟩), .slice (some ⟨g, off, none⟩) n cap, .int .i64 p, t.val] w (Took E P p n w) := by
  obtain ⟨k, tn, tm, u, b⟩ := t
  obtain rfl : k = 1 := hk
  have hs := h.eye.hs
  have hn := h.eye.hn
  have hp := h.eye.hp
  have hEl := h.eye.lt
  obtain ⟨W0, hW0⟩ : ∃ W0, W0 = w.alloc (.cells #[.int .i64 1, .int .i64 tn, .int .i64 tm, .int .u64 u, .bool b] 32) := ⟨_, rfl⟩
  have b0 : Below w.heap.size w W0 := by rw [hW0]; exact (Below.refl _ _).alloc (Nat.le_refl _) _
  have e0 := h.eye.below b0 hEl
  have s0 := h.all.on b0
  have z0 := b0.size
  have hap := h.apart
  have HW := Lib.hid hW0
  clear hW0
  simp only [Th.val]
  by_cases hend : p < n
  · go_enter Try.func25, Try.ntmps25
    go_wp2_with fail
    rw [← HW.out]
    refine (ebit_ok E p n P _ e0 hend).mono ?_
    rintro x w1 ⟨rfl, e1, k1⟩
    have s1 := s0.keep k1 (fun b hb => ⟨(s0.lt b hb).2, by cases hb; exact hap⟩)
    have hL : L[p]? = some (Bt.bitAt P p) := by rw [h.bits]; exact ahead_get P n p hend
    have c1 := sl_bool s1 p _ hL
    have k01 : Keep w.heap.size E w w1 := (Keep.of_below b0).trans (k1.mono z0)
    go_wp2
    go_ret3
    exact ⟨k01, .inl ⟨p + 1, by omega, hend, rfl, e1⟩⟩
  · obtain rfl : p = n := by omega
    go_enter Try.func25, Try.ntmps25
    go_wp2_with fail
    rw [← HW.out]
    refine (ebit_bad E p p 0 P _ e0 (.inl rfl)).mono ?_
    rintro x w1 ⟨rfl, e1, k1⟩
    have k01 : Keep w.heap.size E w w1 := (Keep.of_below b0).trans (k1.mono z0)
    go_wp2
    go_ret3
    exact ⟨k01, .inr ⟨p, rfl, e1⟩⟩

set_option maxRecDepth 100000 in
theorem take2 (E : Nat) (P : List UInt8) (p n : Nat) (L : List Bool) (g off cap base : Nat) (t : Th) (hk : t.k = 2) (hf : t.Fits) (w : World) (h : Taking E P p n L g off cap base w) :
    Calls Try.prog 25 #[.pointer (some ⟨E, 0, none⟩), .slice (some ⟨g, off, none⟩) n cap, .int .i64 p, t.val] w (Took E P p n w) := by
  obtain ⟨k, tn, tm, u, b⟩ := t
  obtain rfl : k = 2 := hk
  have hs := h.eye.hs
  have hn := h.eye.hn
  have hp := h.eye.hp
  have hEl := h.eye.lt
  obtain ⟨W0, hW0⟩ : ∃ W0, W0 = w.alloc (.cells #[.int .i64 2, .int .i64 tn, .int .i64 tm, .int .u64 u, .bool b] 32) := ⟨_, rfl⟩
  have b0 : Below w.heap.size w W0 := by rw [hW0]; exact (Below.refl _ _).alloc (Nat.le_refl _) _
  have e0 := h.eye.below b0 hEl
  have s0 := h.all.on b0
  have z0 := b0.size
  have z00 : w.heap.size < W0.heap.size := by rw [hW0]; simp
  have hblk : W0.heap[w.heap.size]? = some (.cells #[.int .i64 2, .int .i64 tn, .int .i64 tm, .int .u64 u, .bool b] 32) := by rw [hW0]; exact heap_alloc_new w _
  have d1 : W0.cell? ⟨w.heap.size, 1, none⟩ = some (.int .i64 tn) := by rw [cell_of_row _ _ 1 _ _ _ hblk]; rfl
  have d2 : W0.cell? ⟨w.heap.size, 2, none⟩ = some (.int .i64 tm) := by rw [cell_of_row _ _ 2 _ _ _ hblk]; rfl
  have hap := h.apart
  have hbits := h.bits
  have HW := Lib.hid hW0
  have HL := Lib.hid hbits
  obtain ⟨n0, n1⟩ := And.intro hf.n0 hf.n1
  obtain ⟨m0, m1⟩ := And.intro hf.m0 hf.m1
  simp only at n0 n1 m0 m1
  clear hW0 hblk hbits
  simp only [Th.val]
  clear d2
  obtain ⟨q, hq⟩ : ∃ q, q = (min (max tn 0) 64).toNat := ⟨_, rfl⟩
  have hq64 : q ≤ 64 := by omega
  have hqi : min (max tn 0) 64 = (q : Int) := by omega
  have HQ := Lib.hid hqi
  have HQ2 := Lib.hid hq
  clear hqi hq
  by_cases hend : p + q ≤ n
  · go_enter Try.func25, Try.ntmps25
    go_wp2_with fail
    rw [← HW.out, HQ.out]
    have C := ebits_ok E p n tn P _ e0 n0 n1 (by rw [← HQ2.out]; exact hend)
    rw [← HQ2.out] at C
    refine C.mono ?_
    rintro x w1 ⟨rfl, e1, k1⟩
    have s1 := s0.keep k1 (fun b hb => ⟨(s0.lt b hb).2, by cases hb; exact hap⟩)
    have k01 : Keep w.heap.size E w w1 := (Keep.of_below b0).trans (k1.mono z0)
    clear C s0 d1
    have hcapn : n ≤ cap := by
      rcases s1.2 with ⟨h0, _⟩ | ⟨_, _, _, he, _, _, h3, _⟩
      · cases h0
      · cases he; exact h3
    have hseg : ((bc L).drop p).take q = bc (ahead P p q) := by
      rw [HL.out]
      apply List.ext_getElem?
      intro j
      by_cases hj : j < q
      · rw [List.getElem?_take, if_pos hj, List.getElem?_drop]
        simp [bc, ahead, hj, show p + j < n by omega]
      · rw [List.getElem?_eq_none (by simp; omega), List.getElem?_eq_none (by simp [bc, ahead]; omega)]
    have hal := ahead_length P p q
    have HSG := Lib.hid hseg
    clear hseg
    by_cases hcp : cap = p
    · obtain rfl : q = 0 := by omega
      have sz := sl_zero s1
      go_wp2_with fail
      refine (rnumber_any base _ (ahead P p 0) _ (by simpa [ahead, bc] using sz) (by simp [ahead])).mono ?_
      rintro x w2 ⟨rfl, rfl⟩
      go_wp2
      go_ret3
      exact ⟨k01, .inl ⟨p, by omega, by omega, rfl, e1⟩⟩
    · have sp := s1.part p q (cap - p) hend (by omega)
      rw [HSG.out] at sp
      have C2 := rnumber_any base _ (ahead P p q) w1 (by rw [hal]; exact sp) (by omega)
      have HC2 := Lib.hid C2
      clear C2 sp
      go_wp2_with fail
      refine HC2.out.mono ?_
      rintro x w2 ⟨rfl, rfl⟩
      go_wp2
      go_ret3
      exact ⟨k01, .inl ⟨p + q, by omega, hend, rfl, e1⟩⟩
  · go_enter Try.func25, Try.ntmps25
    go_wp2_with fail
    rw [← HW.out, HQ.out]
    refine (ebits_bad E p n 0 tn P _ e0 n0 n1 (.inl (by rw [← HQ2.out]; omega))).mono ?_
    rintro x w1 ⟨rfl, e1, k1⟩
    have k01 : Keep w.heap.size E w w1 := (Keep.of_below b0).trans (k1.mono z0)
    go_wp2
    go_ret3
    exact ⟨k01, .inr ⟨p, rfl, e1⟩⟩

set_option maxHeartbeats 2000000 in
set_option maxRecDepth 100000 in
theorem take3 (E : Nat) (P : List UInt8) (p n : Nat) (L : List Bool) (g off cap base : Nat) (t : Th) (hk : t.k = 3) (hf : t.Fits) (w : World) (h : Taking E P p n L g off cap base w) :
    Calls Try.prog 25 #[.pointer (some ⟨E, 0, none⟩), .slice (some ⟨g, off, none⟩) n cap, .int .i64 p, t.val] w (Took E P p n w) := by
  obtain ⟨k, tn, tm, u, b⟩ := t
  obtain rfl : k = 3 := hk
  have hs := h.eye.hs
  have hn := h.eye.hn
  have hp := h.eye.hp
  have hEl := h.eye.lt
  obtain ⟨W0, hW0⟩ : ∃ W0, W0 = w.alloc (.cells #[.int .i64 3, .int .i64 tn, .int .i64 tm, .int .u64 u, .bool b] 32) := ⟨_, rfl⟩
  have b0 : Below w.heap.size w W0 := by rw [hW0]; exact (Below.refl _ _).alloc (Nat.le_refl _) _
  have e0 := h.eye.below b0 hEl
  have s0 := h.all.on b0
  have z0 := b0.size
  have z00 : w.heap.size < W0.heap.size := by rw [hW0]; simp
  have hblk : W0.heap[w.heap.size]? = some (.cells #[.int .i64 3, .int .i64 tn, .int .i64 tm, .int .u64 u, .bool b] 32) := by rw [hW0]; exact heap_alloc_new w _
  have d1 : W0.cell? ⟨w.heap.size, 1, none⟩ = some (.int .i64 tn) := by rw [cell_of_row _ _ 1 _ _ _ hblk]; rfl
  have d2 : W0.cell? ⟨w.heap.size, 2, none⟩ = some (.int .i64 tm) := by rw [cell_of_row _ _ 2 _ _ _ hblk]; rfl
  have hap := h.apart
  have hbits := h.bits
  have HW := Lib.hid hW0
  have HL := Lib.hid hbits
  obtain ⟨n0, n1⟩ := And.intro hf.n0 hf.n1
  obtain ⟨m0, m1⟩ := And.intro hf.m0 hf.m1
  simp only at n0 n1 m0 m1
  clear hW0 hblk hbits
  simp only [Th.val]
  clear d1
  obtain ⟨K, hones, hKn, hend⟩ := ones_exist (Bt.bitAt P) p n tm n 0 (by omega) (by omega) (by intro j hj; omega) (.inr rfl)
  have HO := Lib.hid hones
  clear hones
  -- what the eye answers, where it stands then
  have key : ∃ (r q er : Nat), (∀ W, EyeAt E P p n 0 W → Calls Try.prog 29 #[.pointer (some ⟨E, 0, none⟩), .int .i64 tm] W fun x W' => x = .returned (.int .i64 r) ∧ EyeAt E P q n er W' ∧ Keep W.heap.size E W W') ∧
      ((tm ≤ (K : Int) ∧ r = K ∧ q = p + K ∧ er = 0) ∨ ((K : Int) < tm ∧ p + K < n ∧ Bt.bitAt P (p + K) = false ∧ r = K ∧ q = p + K + 1 ∧ er = 0) ∨ ((K : Int) < tm ∧ p + K = n ∧ r = 0 ∧ er = 2)) := by
    rcases hend with ⟨h1, h2⟩ | ⟨h1, h2, h3⟩ | ⟨h1, h2⟩
    · exact ⟨K, p + K, 0, fun W hW => eunary_ok E p n K (p + K) tm P W hW m1 m0 HO.out hKn (.inl ⟨h1, rfl, h2⟩), .inl ⟨h1, rfl, rfl, rfl⟩⟩
    · exact ⟨K, p + K + 1, 0, fun W hW => eunary_ok E p n K (p + K + 1) tm P W hW m1 m0 HO.out hKn (.inr ⟨h1, h2, h3, rfl⟩), .inr (.inl ⟨h1, h2, h3, rfl, rfl, rfl⟩)⟩
    · exact ⟨0, n, 2, fun W hW => eunary_end E p n K tm P W hW m1 m0 HO.out h2 h1, .inr (.inr ⟨h1, h2, rfl, rfl⟩)⟩
  obtain ⟨r, q, er, C, hcase⟩ := key
  have HC := Lib.hid C
  have hlt3 : ∀ i : Nat, i < K → (i : Int) < tm := by
    intro i hi
    rcases hend with ⟨h1, h2⟩ | ⟨h1, _⟩ | ⟨h1, _⟩ <;> omega
  have HLT := Lib.hid hlt3
  clear C hend hlt3
  go_enter Try.func25, Try.ntmps25
  go_wp2_with fail
  rw [← HW.out]
  refine (HC.out _ e0).mono ?_
  rintro x w1 ⟨rfl, e1, k1⟩
  have s1 := s0.keep k1 (fun b hb => ⟨(s0.lt b hb).2, by cases hb; exact hap⟩)
  have k01 : Keep w.heap.size E w w1 := (Keep.of_below b0).trans (k1.mono z0)
  have x2 := (k1.cell (p := ⟨w.heap.size, 2, none⟩) z00 (by simp only; omega)).trans d2
  clear s0 d2
  go_wp2_with fail
  go_loopw [15] (fun k' wx => ∃ (i : Nat), k' = .int .i64 i ∧ i ≤ K ∧ wx = w1) (fun k' _ => K - (RowKit.intOf k').toNat)
  case atStart => exact ⟨0, rfl, by omega, rfl⟩
  case round =>
    obtain ⟨i, rfl, hi, rfl⟩ := hrel
    by_cases hiK : i < K
    · have g1 := HLT.out i hiK
      have g2 : p + i < n := by omega
      have hb : L[p + i]? = some true := by rw [HL.out, ahead_get P n _ g2, HO.out i hiK]
      have c := sl_bool s1 _ _ hb
      clear hb
      go_wp2
      exact ⟨⟨i + 1, by go_num, by omega, by trivial⟩, by simp [RowKit.intOf]; omega⟩
    · obtain rfl : i = K := by omega
      rcases hcase with ⟨h1, rfl, rfl, rfl⟩ | ⟨h1, h2, h3, rfl, rfl, rfl⟩ | ⟨h1, h2, rfl, rfl⟩
      · have hd : decide ((r : Int) < tm) = false := by simp; omega
        go_wp2
        go_ret3
        exact ⟨k01, .inl ⟨p + r, by omega, by omega, rfl, e1⟩⟩
      · have hb : L[p + r]? = some false := by rw [HL.out, ahead_get P n _ h2, h3]
        have c := sl_bool s1 _ _ hb
        clear hb
        go_wp2
        go_ret3
        refine ⟨k01, .inl ⟨p + r + 1, by omega, by omega, ?_, e1⟩⟩
        rw [show ((p + r + 1 : Nat) : Int) = (p : Int) + 1 + (r : Int) by omega]
        rfl
      · have hd : decide ((p : Int) + (i : Int) < (n : Int)) = false := by simp; omega
        go_wp2
        go_ret3
        exact ⟨k01, .inr ⟨q, rfl, e1⟩⟩

set_option maxRecDepth 100000 in
theorem take0 (E : Nat) (P : List UInt8) (p n : Nat) (L : List Bool) (g off cap base : Nat) (t : Th) (h1 : t.k ≠ 1) (h2 : t.k ≠ 2) (h3 : t.k ≠ 3) (w : World) (h : Taking E P p n L g off cap base w) :
    Calls Try.prog 25 #[.pointer (some ⟨E, 0, none⟩), .slice (some ⟨g, off, none⟩) n cap, .int .i64 p, t.val] w (Took E P p n w) := by
  obtain ⟨k, tn, tm, u, b⟩ := t
  simp only at h1 h2 h3
  have x1 : (k == 1) = false := by simp; omega
  have x2 : (k == 2) = false := by simp; omega
  have x3 : (k == 3) = false := by simp; omega
  simp only [Th.val]
  go_enter Try.func25, Try.ntmps25
  go_wp2_with fail
  go_ret3
  have b0 : Below w.heap.size w (w.alloc (.cells #[.int .i64 k, .int .i64 tn, .int .i64 tm, .int .u64 u, .bool b] 32)) := (Below.refl _ _).alloc (Nat.le_refl _) _
  exact ⟨Keep.of_below b0, .inl ⟨p, by omega, h.eye.hp, rfl, h.eye.below b0 h.eye.lt⟩⟩

theorem take_any (E : Nat) (P : List UInt8) (p n : Nat) (L : List Bool) (g off cap base : Nat) (t : Th) (hf : t.Fits) (w : World) (h : Taking E P p n L g off cap base w) :
    Calls Try.prog 25 #[.pointer (some ⟨E, 0, none⟩), .slice (some ⟨g, off, none⟩) n cap, .int .i64 p, t.val] w (Took E P p n w) := by
  by_cases h1 : t.k = 1
  · exact take1 E P p n L g off cap base t h1 w h
  · by_cases h2 : t.k = 2
    · exact take2 E P p n L g off cap base t h2 hf w h
    · by_cases h3 : t.k = 3
      · exact take3 E P p n L g off cap base t h3 hf w h
      · exact take0 E P p n L g off cap base t h1 h2 h3 w h
end Go.Proofs.Ytfhpbjokgijdfaa
