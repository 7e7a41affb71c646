/- Layer 18: the last number's bytes; a fresh file. -/
import Derived.Test.YtiegokjdnlhlcaaMSN1
import Derived.Test.YtiegokjdnlhlcaaMZ5
import Derived.Test.YtiegokjdnlhlcaaMFrM
namespace Go.Proofs.Ytiegokjdnlhlcaa
open Go.RowKit Go.Lib
set_option linter.unusedVariables false

/-- The bytes of the last number. -/
def rec6 (n : Nat) : List UInt8 := Fr.rec 6 (Leb.encU n)
theorem rec6_len (n : Nat) : 6 ≤ (rec6 n).length ∧ (rec6 n).length ≤ 25 := by
  have h := Fr.rec_len 6 (Leb.encU n)
  have := (Leb.encU_len n).2
  unfold rec6; omega
/-- The file of the last number; none, if there was none. -/
def qOf (n : Nat) : Option (List UInt8) := if n = 0 then none else some (rec6 n)
theorem rec6_next (n : Nat) : Fr.next (rec6 n) = ((6, Leb.encU n), [], 0) := by
  have := Fr.next_rec 6 (Leb.encU n) [] (by have := (Leb.encU_len n).2; omega)
  rw [List.append_nil] at this
  exact this
theorem enc_take (n : Nat) (hn : n ≤ 1099511627774) : Leb.takeM (Leb.encU n) 1099511627774 = (n, [], 0) := by
  have h := Leb.takeU_enc n (by unfold Leb.two64; omega) []
  rw [List.append_nil] at h
  exact Leb.takeM_ok h (by omega)

set_option maxHeartbeats 1000000 in
set_option maxRecDepth 100000 in
theorem spellnum_any (n : Nat) (w : World) (hn : n ≤ 1099511627775) :
    Calls Try.prog 14 #[.int .i64 n] w fun e w' => e = .returned (.string (bs (rec6 n))) ∧ Below w.heap.size w w' := by
  obtain ⟨m, hm⟩ : ∃ m, (Leb.encU n).length = m := ⟨_, rfl⟩
  obtain ⟨r, hr⟩ : ∃ r, r = rec6 n := ⟨_, rfl⟩
  obtain ⟨q, hq⟩ : ∃ q, r.length = q := ⟨_, rfl⟩
  have hmb : m ≤ 10 := by rw [← hm]; exact (Leb.encU_len n).2
  have hq0 : 0 < q := by rw [← hq, hr]; have := (rec6_len n).1; omega
  have U1 := Lib.hid (fun W => uint_new n n (Leb.encU n) m rfl rfl hm W (by unfold Leb.two64; omega))
  have A1 := Lib.hid (fun W => append_new 6 (Leb.encU n) r q hr.symm hq hq0 W (by omega))
  have hw : IntKind.u64.wrap (n : Int) = n := by rw [show IntKind.u64.wrap (n : Int) = (n : Int) % 18446744073709551616 by simp [IntKind.wrap, IntKind.bits, IntKind.signed]]; omega
  rw [← hr]
  clear hm hq hr
  go_enter Try.func14, Try.ntmps14
  go_wp2_with fail
  refine (U1.out _).mono ?_
  rintro e w1 ⟨a1, k1, rfl, h1, b1⟩
  have c1 := text_conv h1
  go_wp2_with fail
  refine (A1.out _).mono ?_
  rintro e w3 ⟨g3, o3, k3, rfl, _, _, h3, b3⟩
  have c3 := text_conv h3
  go_wp2
  go_ret
  exact ⟨rfl, below_step b1 b3⟩

set_option maxHeartbeats 1000000 in
set_option maxRecDepth 100000 in
theorem lastnum_any {base d f c m : Nat} {X : Nat → Prop} {nf : Bool} (n : Nat) (w : World) (h : Sm base d f c m X nf (qOf n) w) (hn : n ≤ 1099511627774) :
    Calls Try.prog 11 #[.pointer (some ⟨d, 0, none⟩)] w fun e w' => e = .returned (.tuple #[.int .i64 n, .int .i64 0]) ∧ Below w.heap.size w w' := by
  have C := Lib.hid (show Calls Try.prog 21 #[.pointer (some ⟨d, 0, none⟩), .string ⟨#[115, 101, 113]⟩] w (fun e w' => e = .returned (qV (qOf n)) ∧ Below w.heap.size w w') from sm_read h)
  by_cases h0 : n = 0
  · subst h0
    have hq : qV (qOf 0) = .tuple #[.string ByteArray.empty, .int .i64 5] := rfl
    rw [hq] at C
    clear h hq
    go_enter Try.func11, Try.ntmps11
    go_wp2_with fail
    refine C.out.mono ?_
    rintro e w1 ⟨rfl, b1⟩
    go_wp2
    go_ret2
    exact ⟨rfl, b1⟩
  · have hq : qV (qOf n) = .tuple #[.string (bs (rec6 n)), .int .i64 0] := by unfold qOf; rw [if_neg h0]; rfl
    rw [hq] at C
    have N := Lib.hid (fun W => show Calls Try.prog 22 #[.string (bs (rec6 n))] W (fun e w' => e = .returned (.tuple #[.agg #[.int .u8 6, .string (bs (Leb.encU n))], .string (bs []), .int .i64 0]) ∧ Below W.heap.size W w') from by
      have := next_any (rec6 n) W (by have := (rec6_len n).2; omega)
      rw [rec6_next] at this
      exact this)
    have T := Lib.hid (fun W => show Calls Try.prog 23 #[.string (bs (Leb.encU n)), .int .i64 1099511627774] W (fun e w' => e = .returned (.tuple #[.int .i64 n, .string (bs []), .int .i64 0]) ∧ Below W.heap.size W w') from by
      refine (takeM_is (s := bs (Leb.encU n)) (enc_take n hn) W (by rw [bs_size]; have := (Leb.encU_len n).2; unfold maxLen; omega) (by omega) (by omega)).mono ?_
      rintro e w' ⟨rfl, k, rfl⟩
      exact ⟨rfl, below_draw (Below.refl _ _) k⟩)
    obtain ⟨r, hr⟩ : ∃ r, r = rec6 n := ⟨_, rfl⟩
    obtain ⟨u, hu⟩ : ∃ u, u = Leb.encU n := ⟨_, rfl⟩
    rw [← hr] at C N
    rw [← hu] at N T
    have hT := bs_toList
    clear h h0 hq hr hu
    go_enter Try.func11, Try.ntmps11
    go_wp2_with fail
    refine C.out.mono ?_
    rintro e w1 ⟨rfl, b1⟩
    go_wp2_with fail
    refine (N.out _).mono ?_
    rintro e w2 ⟨rfl, b2⟩
    go_wp2_with fail
    refine (T.out _).mono ?_
    rintro e w3 ⟨rfl, b3⟩
    go_wp2
    go_ret2
    exact ⟨rfl, b1.trans (((b2.alloc b2.size _).trans (b3.mono (b2.alloc b2.size _).size)).mono b1.size)⟩

/-- Behind a fresh file, done or not. -/
def FreshQ (B base d f c m : Nat) (X : Nat → Prop) (nf : Bool) (q : Option (List UInt8)) (s : List UInt8) (w : World) (e : Ending) (w' : World) : Prop :=
  ∃ er q', e = .returned (.int .i64 er) ∧ Bm B X w w' ∧ Sm base d f c m X nf q' w' ∧ (er = 0 ∧ q' = some s ∨ er = 8 ∧ nf = false ∧ (q' = q ∨ q' = some s))

set_option maxHeartbeats 2000000 in
set_option maxRecDepth 100000 in
theorem walfresh_any {B base d f c m : Nat} {X : Nat → Prop} {nf : Bool} {q : Option (List UInt8)} (s : List UInt8) (w : World) (h : Sm base d f c m X nf q w) (hB : Home B base d f c m) (hBw : B ≤ w.heap.size) (hs : s.length ≤ 30) :
    Calls Try.prog 27 #[.pointer (some ⟨d, 0, none⟩), .string ⟨#[115, 101, 113]⟩, .string (bs s)] w (FreshQ B base d f c m X nf q s w) := by
  obtain ⟨t, ht, htl⟩ := h.st
  have hSm := h
  have hsz : (bs s).size ≤ 30 := bs_size_le s 30 hs
  have R := Lib.hid (fun W (b : Below w.heap.size w W) => show Calls Try.prog 21 #[.pointer (some ⟨d, 0, none⟩), .string ⟨#[116, 109, 112, 45, 119, 97, 108]⟩] W (fun e w' => e = .returned (tV t) ∧ Below W.heap.size W w') from st_read (ht.below b))
  obtain ⟨old, oe, hol, htv⟩ : ∃ (old : ByteArray) (oe : Int), old.size ≤ 30 ∧ tV t = .tuple #[.string old, .int .i64 oe] := by
    cases t with
    | none => exact ⟨ByteArray.empty, 5, by decide, rfl⟩
    | some p => exact ⟨⟨p.1.toArray⟩, 0, by have := htl p.1 p.2 rfl; simpa [ByteArray.size] using this, rfl⟩
  rw [htv] at R
  have F := Lib.hid (fun W (b : Below w.heap.size w W) => sm_free (h.below b))
  have RM := Lib.hid (fun W (b : Below w.heap.size w W) => show Calls Try.prog 38 #[.pointer (some ⟨d, 0, none⟩), .string ⟨#[116, 109, 112, 45, 119, 97, 108]⟩] W _ from st_remove (ht.below b) hB)
  have AP := Lib.hid (fun W (hn : St base d f c m X nf q none W) => show Calls Try.prog 39 #[.pointer (some ⟨d, 0, none⟩), .string ⟨#[116, 109, 112, 45, 119, 97, 108]⟩, .string (bs s)] W _ from st_append s hn hB hs)
  have SY := Lib.hid (fun W (hn : St base d f c m X nf q (some (s, false)) W) => show Calls Try.prog 40 #[.pointer (some ⟨d, 0, none⟩), .string ⟨#[116, 109, 112, 45, 119, 97, 108]⟩] W _ from st_sync hn hB hs)
  have RN := Lib.hid (fun W (hn : St base d f c m X nf q (some (s, true)) W) => show Calls Try.prog 41 #[.pointer (some ⟨d, 0, none⟩), .string ⟨#[116, 109, 112, 45, 119, 97, 108]⟩, .string ⟨#[115, 101, 113]⟩] W _ from st_rename hn hB hs)
  clear h ht htl htv
  go_enter Try.func27, Try.ntmps27
  go_wp2_with fail
  refine (R.out _ (Below.refl _ _)).mono ?_
  rintro e w1 ⟨rfl, b1⟩
  go_wp2_with fail
  refine (F.out _ b1).mono ?_
  rintro e w2 ⟨F0, hF1, hF2, rfl, bF⟩
  have b1 := b1.trans (bF.mono b1.size)
  go_wp2_with fail
  refine (RM.out _ b1).mono ?_
  rintro e w3 ⟨er, rfl, b3, sm3, h3⟩
  have B3 := (hSm.bm b1 hBw).trans b3
  rcases h3 with ⟨h3, st3⟩ | ⟨rfl, hnf⟩
  case inr =>
    go_wp2_with fail
    go_ret
    exact ⟨8, q, rfl, B3, sm3, .inr ⟨rfl, hnf, .inl rfl⟩⟩
  have ST3 := Lib.hid st3
  clear sm3 st3
  rcases h3 with rfl | rfl
  all_goals
    go_wp2_with fail
    refine (AP.out _ ST3.out).mono ?_
    rintro e w4 ⟨er, rfl, b4, sm4, h4⟩
    have B4 := B3.trans b4
    rcases h4 with ⟨rfl, st4⟩ | ⟨rfl, hnf⟩
    case inr =>
      go_wp2_with fail
      go_ret
      exact ⟨8, q, rfl, B4, sm4, .inr ⟨rfl, hnf, .inl rfl⟩⟩
    have ST4 := Lib.hid st4
    clear sm4 st4
    go_wp2_with fail
    refine (SY.out _ ST4.out).mono ?_
    rintro e w5 ⟨er, rfl, b5, sm5, h5⟩
    have B5 := B4.trans b5
    rcases h5 with ⟨rfl, st5⟩ | ⟨rfl, hnf⟩
    case inr =>
      go_wp2_with fail
      go_ret
      exact ⟨8, q, rfl, B5, sm5, .inr ⟨rfl, hnf, .inl rfl⟩⟩
    have ST5 := Lib.hid st5
    clear sm5 st5
    go_wp2_with fail
    refine (RN.out _ ST5.out).mono ?_
    rintro e w6 ⟨er, q', rfl, b6, sm6, h6⟩
    have FF := Lib.hid (show FreshQ B base d f c m X nf q s w (.returned (.int .i64 er)) w6 from ⟨er, q', rfl, B5.trans b6, sm6, h6⟩)
    clear sm6 h6 b6 B3 B4 B5
    go_wp2_with fail
    go_ret
    exact FF.out

set_option maxHeartbeats 1000000 in
set_option maxRecDepth 100000 in
theorem fresh_any {B base d f c m : Nat} {X : Nat → Prop} {nf : Bool} {q : Option (List UInt8)} (s : List UInt8) (w : World) (h : Sm base d f c m X nf q w) (hB : Home B base d f c m) (hBw : B ≤ w.heap.size) (hs : s.length ≤ 30) :
    Calls Try.prog 13 #[.pointer (some ⟨d, 0, none⟩), .string ⟨#[115, 101, 113]⟩, .string (bs s)] w (FreshQ B base d f c m X nf q s w) := by
  have hsz : (bs s).size ≤ 30 := bs_size_le s 30 hs
  have F := Lib.hid (fun W (b : Below w.heap.size w W) => sm_free (h.below b))
  have WF := Lib.hid (fun W (b : Below w.heap.size w W) => walfresh_any s W (h.below b) hB (Nat.le_trans hBw b.size) hs)
  have hSm := h
  clear h
  go_enter Try.func13, Try.ntmps13
  go_wp2_with fail
  refine (F.out _ (Below.refl _ _)).mono ?_
  rintro e w2 ⟨F0, hF1, hF2, rfl, bF⟩
  go_wp2_with fail
  refine (WF.out _ bF).mono ?_
  rintro e w3 ⟨er, q', rfl, bb, r⟩
  have FF := Lib.hid (show FreshQ B base d f c m X nf q s w (.returned (.int .i64 er)) w3 from ⟨er, q', rfl, (hSm.bm bF hBw).trans bb, r⟩)
  clear r bb bF
  go_wp2_with fail
  go_ret
  exact FF.out
end Go.Proofs.Ytiegokjdnlhlcaa
