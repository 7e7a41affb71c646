/- Layer 7's statements: any bytes are samples, or refused. -/
import Derived.Test.YtieaiecoiononaaDoorQ6
import Derived.Test.YtieaiecoiononaaDoorOE
namespace Go.Proofs.YtieaiecoiononaaDoor
open Go.RowKit Go.Lib

theorem dec_err : ∀ (l : List UInt8) (i acc : Nat), (Leb.dec i acc l).2.2 = 0 ∨ (Leb.dec i acc l).2.2 = 2 ∨ (Leb.dec i acc l).2.2 = 3
  | [], _, _ => .inr (.inl rfl)
  | c :: r, i, acc => by
    unfold Leb.dec
    split
    · exact .inr (.inr rfl)
    · split
      · exact .inr (.inr rfl)
      · split
        · exact .inl rfl
        · exact dec_err r _ _
theorem takeM_err (l : List UInt8) (most : Int) : (Leb.takeM l most).2.2 = 0 ∨ (Leb.takeM l most).2.2 = 2 ∨ (Leb.takeM l most).2.2 = 16 ∨ (Leb.takeM l most).2.2 = 3 := by
  have h : (Leb.takeU l).2.2 = 0 ∨ (Leb.takeU l).2.2 = 2 ∨ (Leb.takeU l).2.2 = 3 := dec_err l 0 0
  unfold Leb.takeM
  split
  · rcases h with h | h | h
    · exact .inl h
    · exact .inr (.inl h)
    · exact .inr (.inr (.inr h))
  · split
    · exact .inr (.inr (.inl rfl))
    · rcases h with h | h | h
      · exact .inl h
      · exact .inr (.inl h)
      · exact .inr (.inr (.inr h))
theorem eBits_err (s : List UInt8) (n k : Nat) (e : Xo.Ey) : (Xo.eBits s n k e).2.2 = 0 ∨ (Xo.eBits s n k e).2.2 = 2 := by
  unfold Xo.eBits; split <;> simp
theorem eBit_err (s : List UInt8) (n : Nat) (e : Xo.Ey) : (Xo.eBit s n e).2.2 = 0 ∨ (Xo.eBit s n e).2.2 = 2 := by
  unfold Xo.eBit; split <;> simp
theorem readM_err (s : List UInt8) (n : Nat) : ∀ (k : Nat) (l : List Xo.Sm) (t : Xo.Tr) (e : Xo.Ey), (Xo.readM s n k l t e).1 = 0 ∨ (Xo.readM s n k l t e).1 = 2 ∨ (Xo.readM s n k l t e).1 = 3
  | 0, _, _, _ => .inl rfl
  | k + 1, l, t, e => by
    rw [Xo.readM]
    have hx : (if l = [] then Xo.takeFirst s n e else Xo.takeNext s n t e).2.2 = 0 ∨ (if l = [] then Xo.takeFirst s n e else Xo.takeNext s n t e).2.2 = 2 := by
      split
      · exact eBits_err _ _ _ _
      · unfold Xo.takeNext
        simp only
        unfold Xo.takeWin
        split
        · exact eBit_err _ _ _
        · split <;> exact eBits_err _ _ _ _
    generalize (if l = [] then Xo.takeFirst s n e else Xo.takeNext s n t e) = r at *
    split
    · simp only; omega
    · split
      · exact .inr (.inr rfl)
      · exact readM_err s n k _ _ _
theorem samplesM_err (s : List UInt8) : (Xo.samplesM s).1 = 0 ∨ (Xo.samplesM s).1 = 2 ∨ (Xo.samplesM s).1 = 16 ∨ (Xo.samplesM s).1 = 3 := by
  have h1 := takeM_err s 120
  have h2 := takeM_err (Leb.takeM s 120).2.1 9223372036854775807
  unfold Xo.samplesM
  split
  · simp only; omega
  · simp only
    split
    · simp only; omega
    · have h3 := readM_err (Leb.takeM (Leb.takeM s 120).2.1 9223372036854775807).2.1 (min (Leb.takeM (Leb.takeM s 120).2.1 9223372036854775807).1 (8 * (Leb.takeM (Leb.takeM s 120).2.1 9223372036854775807).2.1.length)) (Leb.takeM s 120).1 [] Xo.tr0 (0, 0)
      split
      · simp only; omega
      · split
        · exact .inr (.inr (.inr rfl))
        · exact .inl rfl

theorem run_nosms (w : World) : (binOp BinOp.eql 22 (.slice none 0 0) (.slice none 0 0)).run Tryd.prog w = .ok (.bool true) w := by
  have hu := run_underlying Tryd.underlying22
  have he : (Op.equal 22 (.slice none 0 0) (.slice none 0 0)).run Tryd.prog w = .ok true w := by
    show (Op.equalIn (9999 + 1) _ _ _).run _ _ = _
    unfold Op.equalIn
    simp only [Sem.run_bind, hu, Result.andThen]
    rfl
  simp [binOp, go_sem, he]

set_option maxHeartbeats 4000000 in
set_option maxRecDepth 100000 in
theorem reads_any (s : ByteArray) (w : World) (hT : Tabs w.heap.size w) :
    Calls Tryd.prog 4 #[.string s] w fun e w' => e = .returned (.bool true) ∧ Below w.heap.size w w' := by
  obtain ⟨l, hl, hl200⟩ := cut_list s 200
  have CU := Lib.hid (fun W => cut_is s l 200 200 rfl hl W)
  have AW := Lib.hid (fun W (b : Below w.heap.size w W) => xawake_any w.heap.size W (hT.below b (Nat.le_refl _)))
  have SA := Lib.hid (fun W (b : Below w.heap.size w W) => samples_any w.heap.size l W (by omega) (hT.below b (Nat.le_refl _)))
  have RS := Lib.hid (fun W => rsamples_any l W hl200)
  have HB0 := Lib.hid (Below.refl w.heap.size w)
  have hee := samplesM_err l
  obtain ⟨⟨er, q⟩, hq⟩ : ∃ x, Xo.samplesM l = x := ⟨_, rfl⟩
  unfold SamP at SA
  rw [hq] at SA hee
  simp only at SA hee
  by_cases he : er = 0
  · subst he
    obtain ⟨hg, htx⟩ := Xo.samplesM_good l q hq
    have hun : ∀ o, Xo.Good o → Xo.text o = l → o = q := fun o h1 h2 => by
      have := Xo.samplesM_text o h1
      rw [h2, hq] at this
      exact (Prod.mk.inj this).2.symm
    have HUN := Lib.hid hun
    have HQ := Lib.hid (And.intro hg htx)
    have hq120 := hg.1
    simp only [if_true] at SA
    clear hT hq hl hg htx hl200 hun hee
    go_enter Tryd.func4, Tryd.ntmps4
    go_wp2_with fail
    refine (CU.out _).mono ?_
    rintro e w1 ⟨rfl, rfl⟩
    go_wp2_with fail
    refine (SA.out _ HB0.out).mono ?_
    rintro e w2 ⟨b2, a, cap, rfl, sl⟩
    have HSL := Lib.hid sl
    have B2 := Lib.hid b2
    clear sl b2
    go_wp2_with fail
    refine (RS.out _).mono ?_
    rintro e w3 ⟨b3, hr⟩
    rcases hr with ⟨rfl, hno⟩ | ⟨o, a3, cap3, rfl, sl3, hgo, hto⟩
    · exact absurd HQ.out.2 (hno q HQ.out.1)
    · obtain rfl := HUN.out o hgo hto
      have HS3 := Lib.hid sl3
      have B3 := Lib.hid (B2.out.trans (b3.mono B2.out.size))
      have HSL3 := Lib.hid (HSL.out.on b3)
      clear sl3 b3 hgo hto
      go_wp2_with fail
      refine (AW.out _ B3.out).mono ?_
      rintro e w4 ⟨rfl, b4⟩
      have B4 := Lib.hid (B3.out.trans (b4.mono B3.out.size))
      have SM := Lib.hid (same_any w4 _ _ a a3 o.length cap cap3 o (HSL3.out.on b4) (HS3.out.on b4) (by omega))
      clear b4
      go_wp2_with fail
      refine SM.out.mono ?_
      rintro e w5 ⟨rfl, n5, rfl⟩
      go_wp2_with fail
      go_ret
      exact ⟨by simp, below_draw B4.out n5⟩
  · have hun : ∀ o, Xo.Good o → Xo.text o = l → False := fun o h1 h2 => by
      have := Xo.samplesM_text o h1
      rw [h2, hq] at this
      exact he (Prod.mk.inj this).1
    have HUN := Lib.hid hun
    have hez : ((er : Int) == 0) = false := by simp; omega
    have hec : er = 2 ∨ er = 16 ∨ er = 3 := by omega
    simp only [if_neg he] at SA
    clear hT hq hl hl200 he hun hee
    go_enter Tryd.func4, Tryd.ntmps4
    go_wp2_with fail
    refine (CU.out _).mono ?_
    rintro e w1 ⟨rfl, rfl⟩
    go_wp2_with fail
    refine (SA.out _ HB0.out).mono ?_
    rintro e w2 ⟨b2, rfl⟩
    have B2 := Lib.hid b2
    clear b2
    go_wp2_with fail
    refine (RS.out _).mono ?_
    rintro e w3 ⟨b3, hr⟩
    rcases hr with ⟨rfl, hno⟩ | ⟨o, a3, cap3, rfl, sl3, hgo, hto⟩
    · have B3 := Lib.hid (B2.out.trans (b3.mono B2.out.size))
      clear b3 hno
      go_wp2_with fail
      refine (AW.out _ B3.out).mono ?_
      rintro e w4 ⟨rfl, b4⟩
      have B4 := Lib.hid (B3.out.trans (b4.mono B3.out.size))
      clear b4
      have hq := fun W => run_nosms W
      rcases hec with rfl | rfl | rfl <;>
      · go_wp2_with fail
        go_ret
        exact ⟨by simp, B4.out⟩
    · exact (HUN.out o hgo hto).elim
end Go.Proofs.YtieaiecoiononaaDoor
