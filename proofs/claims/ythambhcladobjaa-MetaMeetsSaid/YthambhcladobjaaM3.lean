/- Layer 9: Of, Meets, marks. -/
import Derived.Test.YthambhcladobjaaM2
namespace Go.Proofs.Ythambhcladobjaa
open Go.RowKit Go.Lib

set_option maxRecDepth 100000 in
theorem of_any (a d : List UInt8) (w : World) (hd : d.length ≤ 140737488350000) :
    Calls Try.prog 31 #[.string (bs a), .string (bs d)] w fun e w' => e = .returned (.agg #[.string (bs a), .int .i64 d.length, .int .u32 (Crc.sum d : Nat)]) ∧ w' = w.alloc (.cells #[.string (bs a), .int .i64 d.length, .int .u32 (Crc.sum d : Nat)] 86) := by
  have hz : (bs d).size = d.length := bs_size d
  have HS := Lib.hid (fun W => fsum_bs d W (by rw [bs_size]; unfold maxLen; omega))
  go_enter Try.func31, Try.ntmps31
  go_wp2_with fail
  refine (HS.out _).mono ?_
  rintro e w1 ⟨rfl, rfl⟩
  go_wp2
  exact bodyPost_ret (v := .agg #[.string (bs a), .int .i64 d.length, .int .u32 (Crc.sum d : Nat)]) (by simp [results, Try.results31, go_sem]) rfl ⟨rfl, rfl⟩

set_option maxRecDepth 100000 in
theorem meets_any (v0 : ByteArray) (mn mx lv se sa : Int) (v6 v7 : Value) (a b : Int) (w : World) :
    Calls Try.prog 13 #[.agg #[.string v0, .int .i64 mn, .int .i64 mx, .int .i64 lv, .int .i64 se, .int .i64 sa, v6, v7], .int .i64 a, .int .i64 b] w fun e w' => e = .returned (.bool (decide (mn < b) && decide (a < mx))) ∧ Below w.heap.size w w' := by
  by_cases h : mn < b
  · have h1 : decide (mn < b) = true := decide_eq_true h
    have H := Lib.hid (show (decide (mn < b) && decide (a < mx)) = decide (a < mx) by rw [h1]; rfl)
    rw [H.out]
    clear h
    go_enter Try.func13, Try.ntmps13
    go_wp2
    go_ret
    exact ⟨rfl, (Below.refl _ _).alloc (Nat.le_refl _) _⟩
  · have h1 : decide (mn < b) = false := decide_eq_false h
    have H := Lib.hid (show (decide (mn < b) && decide (a < mx)) = false by rw [h1]; rfl)
    rw [H.out]
    clear h
    go_enter Try.func13, Try.ntmps13
    go_wp2
    go_ret
    exact ⟨rfl, (Below.refl _ _).alloc (Nat.le_refl _) _⟩

set_option maxHeartbeats 1000000 in
set_option maxRecDepth 100000 in
theorem encMark_any (id : List UInt8) (n : Nat) (w : World) (hid : id.length ≤ 1000000) (hn : n ≤ 9223372036854775807) :
    Calls Try.prog 32 #[.string (bs id), .int .i64 n] w fun e w' => e = .returned (.string (bs (Fr.rec 2 (Mt.mkB id n)))) ∧ Below w.heap.size w w' := by
  obtain ⟨m, hm⟩ : ∃ m, (Leb.encT id).length = m := ⟨_, rfl⟩
  obtain ⟨r, hr⟩ : ∃ r, r = Fr.rec 2 (Mt.mkB id n) := ⟨_, rfl⟩
  obtain ⟨q, hq⟩ : ∃ q, r.length = q := ⟨_, rfl⟩
  have hmb : m ≤ 1000010 := by
    have := (Leb.encU_len id.length).2
    rw [← hm, Leb.encT, List.length_append]; omega
  have hkb : (Mt.mkB id n).length ≤ 1000100 := by
    have := (Leb.encU_len n).2
    rw [Mt.mkB, List.length_append, hm]; omega
  have hq0 : 0 < q := by rw [← hq, hr]; have := (Fr.rec_len 2 (Mt.mkB id n)).1; omega
  have T1 := Lib.hid (fun W => text_new (bs id) (Leb.encT id) m rfl hm W (by rw [bs_size]; omega))
  have A1 := Lib.hid (fun W => append_new 2 (Mt.mkB id n) r q hr.symm hq hq0 W (by omega))
  have hn0 : (0 : Int) ≤ n := by omega
  have hn1 : ¬ ((n : Int) < 0) := by omega
  have hmx : max (n : Int) 0 = n := by omega
  have hw : IntKind.u64.wrap (n : Int) = n := by rw [show IntKind.u64.wrap (n : Int) = (n : Int) % 18446744073709551616 by simp [IntKind.wrap, IntKind.bits, IntKind.signed]]; omega
  have HM := Lib.hid hm
  rw [← hr]
  clear hm hq hr
  go_enter Try.func32, Try.ntmps32
  go_wp2_with fail
  refine (T1.out _).mono ?_
  rintro e w1 ⟨a1, k1, rfl, h1, b1⟩
  go_wp2_with fail
  refine (uint_any w.heap.size _ m _ n _ (by unfold Leb.two64; omega) h1 (by omega) b1.size).mono ?_
  rintro e w2 ⟨v2, rfl, x2⟩
  have s2 : Sl w2 w.heap.size 1 v2 (m + (Leb.encU n).length) (cb (Mt.mkB id n)) := by
    have := x2.now
    rwa [← cb_append] at this
  have b2 : Below w.heap.size w w2 := b1.trans (x2.below (Nat.le_refl _) b1.size)
  have c2 := text_conv s2
  go_wp2_with fail
  refine (A1.out _).mono ?_
  rintro e w3 ⟨g3, o3, k3, rfl, _, _, h3, b3⟩
  have c3 := text_conv h3
  go_wp2
  go_ret
  exact ⟨rfl, below_step b2 b3⟩

/-- How a taker is handed about. -/
def stV (st : Mt.St) : Value := .agg #[.string (bs st.1), .int .i64 st.2]
theorem tk_new (w : World) (l : List UInt8) (e : Nat) (t : TypeId) (b : Nat) (hb : b = w.heap.size) : Tk (w.alloc (.cells #[.string (bs l), .int .i64 e] t)) b (l, e) := by
  subst hb
  have h := heap_alloc_new w (.cells #[.string (bs l), .int .i64 e] t)
  refine ⟨by simp, ?_, ?_, ?_, ?_⟩
  · rw [Lib.cell_of_heap h]; rfl
  · rw [Lib.cell_of_heap h]; rfl
  · simp only [World.frozen?, h]; simp
  · simp only [World.frozen?, h]; simp

set_option maxHeartbeats 1000000 in
set_option maxRecDepth 100000 in
theorem open_any (s : List UInt8) (k : UInt8) (w : World) (hs : s.length ≤ 140737488350000) :
    Calls Try.prog 54 #[.string (bs s), .int .u8 k.toNat] w fun e w' => e = .returned (stV (Mt.opn s k)) ∧ Below w.heap.size w w' := by
  have hT := bs_toList
  obtain ⟨k1, d, rest, er, hN⟩ : ∃ k1 d rest er, Fr.next s = ((k1, d), rest, er) := ⟨_, _, _, _, rfl⟩
  have N := Lib.hid (fun W => show Calls Try.prog 74 #[.string (bs s)] W (fun e w' => e = .returned (.tuple #[.agg #[.int .u8 k1.toNat, .string (bs d)], .string (bs rest), .int .i64 er]) ∧ Below W.heap.size W w') by
    have := next_any s W hs
    rw [hN] at this
    exact this)
  obtain ⟨so, hso⟩ : ∃ so, so = (decide (rest = []) && decide (k1 = k)) := ⟨_, rfl⟩
  have HO := Lib.hid (show Mt.opn s k = Mt.dem (d, er) so by rw [hso]; unfold Mt.opn; rw [hN])
  have D := Lib.hid (fun b W h => tkd_any b (d, er) so W h)
  obtain ⟨st, hst⟩ : ∃ st, st = Mt.dem (d, er) so := ⟨_, rfl⟩
  rw [HO.out, ← hst]
  rw [← hst] at D
  clear hN hs hst HO
  have hk : (((k1.toNat : Int) == k.toNat) = true ∧ decide (k1 = k) = true) ∨ (((k1.toNat : Int) == k.toNat) = false ∧ decide (k1 = k) = false) := by
    by_cases e : k1 = k
    · exact .inl ⟨by rw [e]; simp, decide_eq_true e⟩
    · refine .inr ⟨?_, decide_eq_false e⟩
      rw [beq_eq_false_iff_ne]
      exact fun h => e (UInt8.toNat_inj.1 (by omega))
  have hr : rest = [] ∨ ∃ c r, rest = c :: r := by cases rest <;> simp
  rcases hr with rfl | ⟨c, r, rfl⟩ <;> rcases hk with ⟨hk1, hk2⟩ | ⟨hk1, hk2⟩ <;> rw [hk2] at hso <;> simp only [decide_true, decide_false, Bool.and_true, Bool.and_false, reduceCtorEq] at hso <;> subst hso <;> clear hk2
  all_goals
    go_enter Try.func54, Try.ntmps54
    go_wp2_with fail
    refine (N.out _).mono ?_
    rintro e w1 ⟨rfl, b1⟩
    have z1 := b1.size
    simp at z1
    have q0 := b1.cell (p := ⟨w.heap.size, 0, none⟩) (by simp)
    have q1 := b1.cell (p := ⟨w.heap.size, 1, none⟩) (by simp)
    have g0 := b1.frozen (p := ⟨w.heap.size, 0, none⟩) (by simp)
    have g1 := b1.frozen (p := ⟨w.heap.size, 1, none⟩) (by simp)
    simp [go_sem] at q0 q1 g0 g1
    go_wp2_with fail
    refine (D.out (w1.heap.size + 1) _ (tk_new _ d er _ _ (by simp))).mono ?_
    rintro e w2 ⟨rfl, t2, u2⟩
    have T2 := Lib.hid t2
    obtain ⟨_, c0, c1, _, _⟩ := t2
    have bw := fun A B => ((Below.refl w1.heap.size w1).alloc (Nat.le_refl _) A).alloc (by simp) B
    have r0 := ((u2.cell (p := ⟨w.heap.size, 0, none⟩) (by simp; omega) (by simp; omega)).trans ((bw _ _).cell (p := ⟨w.heap.size, 0, none⟩) (by simp; omega))).trans q0
    have r1 := ((u2.cell (p := ⟨w.heap.size, 1, none⟩) (by simp; omega) (by simp; omega)).trans ((bw _ _).cell (p := ⟨w.heap.size, 1, none⟩) (by simp; omega))).trans q1
    have s0 := ((u2.frozen (p := ⟨w.heap.size, 0, none⟩) (by simp; omega) (by simp; omega)).trans ((bw _ _).frozen (p := ⟨w.heap.size, 0, none⟩) (by simp; omega))).trans g0
    have s1 := ((u2.frozen (p := ⟨w.heap.size, 1, none⟩) (by simp; omega) (by simp; omega)).trans ((bw _ _).frozen (p := ⟨w.heap.size, 1, none⟩) (by simp; omega))).trans g1
    clear bw q0 q1 g0 g1
    have hb : Below w.heap.size w w2 := (((((Below.refl w.heap.size w).alloc (Nat.le_refl _) _).trans (b1.mono (by simp))).alloc (by omega) _).alloc (by simp; omega) _).trans (u2.below (by simp; omega) (fun k hk => by omega))
    go_wp2
    exact bodyPost_ret (v := stV st) (by simp [results, Try.results54, go_sem, r0, r1, stV]) rfl ⟨rfl, (hb.setCell (Nat.le_refl _) _).setCell (Nat.le_refl _) _⟩

/-- What DecodeMark answers. -/
def dmkV (p : List UInt8 × Nat × Mt.St) : Value := if p.2.2.2 = 0 then .tuple #[.string (bs p.1), .int .i64 p.2.1, .int .i64 0] else .tuple #[.string (bs []), .int .i64 0, .int .i64 p.2.2.2]

theorem tn_len (st : Mt.St) (most : Int) : (Mt.tn st most).2.1.length ≤ st.1.length := by
  unfold Mt.tn
  split
  · exact Nat.le_refl _
  · show (Leb.takeM st.1 most).2.1.length ≤ _
    unfold Leb.takeM
    split
    · simp
    · split
      · simp
      · exact Leb.dec_left _ _ _
theorem tt_len (st : Mt.St) (most : Int) : (Mt.tt st most).2.1.length ≤ st.1.length := by
  unfold Mt.tt
  split
  · exact Nat.le_refl _
  · show (Leb.takeT st.1 most).2.1.length ≤ _
    unfold Leb.takeT
    split
    · simp
    · split
      · simp
      · have := tn_len (st.1, 0) most
        unfold Mt.tn at this
        rw [if_neg (by simp)] at this
        simp only at this ⊢
        rw [List.length_drop]
        omega
theorem opn_len (s : List UInt8) (k : UInt8) : (Mt.opn s k).1.length ≤ s.length := by
  have h : (Fr.next s).1.2.length ≤ s.length := by
    cases s with
    | nil => simp [Fr.next]
    | cons c l =>
      rw [Fr.next]
      split
      · simp
      · split
        · simp
        · split
          · simp
          · have := tn_len (l, 0) 1048576
            unfold Mt.tn at this
            rw [if_neg (by simp)] at this
            simp only at this
            simp only [List.length_take, List.length_drop, List.length_cons]
            omega
  unfold Mt.opn Mt.dem
  split <;> exact h
end Go.Proofs.Ythambhcladobjaa
