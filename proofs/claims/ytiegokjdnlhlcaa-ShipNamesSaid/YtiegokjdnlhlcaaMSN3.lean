/- Layer 18: names that are given out. Layer 18: is a name too old; known answers; names that were seen. -/
import Derived.Test.YtiegokjdnlhlcaaMSN2
import Derived.Test.YtiegokjdnlhlcaaMI9
import Derived.Test.YtiegokjdnlhlcaaME0
namespace Go.Proofs.Ytiegokjdnlhlcaa
open Go.RowKit Go.Lib
set_option linter.unusedVariables false

theorem qOf_succ (n : Nat) : qOf (n + 1) = some (rec6 (n + 1)) := by unfold qOf; rw [if_neg (by omega)]
/-- What Next leaves: a name with the next number, which is there for sure; or ErrIO. -/
def NextQ (B base d f c m : Nat) (X : Nat → Prop) (nf : Bool) (t n : Nat) (e : Ending) (w' : World) : Prop :=
  (e = .returned (.tuple #[.string (bs (Idn.nam t (n + 1))), .int .i64 0]) ∧ Sm base d f c m X nf (qOf (n + 1)) w' ∨
    nf = false ∧ e = .returned (.tuple #[.string ⟨#[]⟩, .int .i64 8]) ∧ ∃ n', n ≤ n' ∧ n' ≤ n + 1 ∧ Sm base d f c m X nf (qOf n') w')

set_option maxHeartbeats 1000000 in
set_option maxRecDepth 100000 in
theorem shipnext_any {B base d f c m : Nat} {X : Nat → Prop} {nf : Bool} (t n : Nat) (w : World) (h : Sm base d f c m X nf (qOf n) w) (hB : Home B base d f c m) (hBw : B ≤ w.heap.size) (ht : t < 1099511627776) (hn : n ≤ 1000000) :
    Calls Try.prog 7 #[.pointer (some ⟨d, 0, none⟩), .int .i64 t] w fun e w' => NextQ B base d f c m X nf t n e w' ∧ Bm B X w w' := by
  have hSm := h
  have L := Lib.hid (lastnum_any n w h (by omega))
  have M := Lib.hid (fun W => show Calls Try.prog 12 #[.int .i64 t, .int .i64 ((n : Int) + 1)] W (fun e w' => e = .returned (.tuple #[.string (bs (Idn.nam t (n + 1))), .int .i64 0]) ∧ Below W.heap.size W w') from make_ok t (n + 1) W ht (by omega))
  have S := Lib.hid (fun W => show Calls Try.prog 14 #[.int .i64 ((n : Int) + 1)] W (fun e w' => e = .returned (.string (bs (rec6 (n + 1)))) ∧ Below W.heap.size W w') from spellnum_any (n + 1) W (by omega))
  have F := Lib.hid (fun W (b : Below w.heap.size w W) => fresh_any (rec6 (n + 1)) W (h.below b) hB (Nat.le_trans hBw b.size) (by have := (rec6_len (n + 1)).2; omega))
  obtain ⟨nm, hnm⟩ : ∃ nm, nm = Idn.nam t (n + 1) := ⟨_, rfl⟩
  obtain ⟨r, hr⟩ : ∃ r, r = rec6 (n + 1) := ⟨_, rfl⟩
  rw [← hnm] at M
  rw [← hr] at S F
  have HNM := Lib.hid hnm
  have HR := Lib.hid hr
  clear h hnm hr
  go_enter Try.func7, Try.ntmps7
  go_wp2_with fail
  refine L.out.mono ?_
  rintro e w1 ⟨rfl, b1⟩
  go_wp2_with fail
  refine (M.out _).mono ?_
  rintro e w2 ⟨rfl, b2⟩
  have B2 := b1.trans (b2.mono b1.size)
  go_wp2_with fail
  refine (S.out _).mono ?_
  rintro e w3 ⟨rfl, b3⟩
  have B3 := B2.trans (b3.mono B2.size)
  go_wp2_with fail
  refine (F.out _ B3).mono ?_
  rintro e w4 ⟨er, q', rfl, b4, sm4, h4⟩
  have BB := Lib.hid ((hSm.bm B3 hBw).trans b4)
  rcases h4 with ⟨rfl, rfl⟩ | ⟨rfl, hnf, hq⟩
  · have FF := Lib.hid (show NextQ B base d f c m X nf t n (.returned (.tuple #[.string (bs nm), .int .i64 0])) w4 from .inl ⟨by rw [HNM.out], by rw [qOf_succ, ← HR.out]; exact sm4⟩)
    clear sm4 b4 b1 b2 b3 B2 B3 L M S F
    go_wp2_with fail
    go_ret2
    exact ⟨FF.out, BB.out⟩
  · have FF := Lib.hid (show NextQ B base d f c m X nf t n (.returned (.tuple #[.string ⟨#[]⟩, .int .i64 8])) w4 from .inr ⟨hnf, rfl, by
      rcases hq with rfl | rfl
      · exact ⟨n, Nat.le_refl _, by omega, sm4⟩
      · exact ⟨n + 1, by omega, Nat.le_refl _, by rw [qOf_succ, ← HR.out]; exact sm4⟩⟩)
    clear sm4 b4 b1 b2 b3 B2 B3 L M S F hq
    go_wp2_with fail
    go_ret2
    exact ⟨FF.out, BB.out⟩
end Go.Proofs.Ytiegokjdnlhlcaa

namespace Go.Proofs.Ytiegokjdnlhlcaa
open Go.RowKit Go.Lib
set_option linter.unusedVariables false

set_option maxHeartbeats 1000000 in
theorem late_any (t s : Nat) (now grace : Int) (w : World) (ht : t < 1000) (hs : s < 1000) (h1 : 0 ≤ now) (h2 : now ≤ 1000) :
    Calls Try.prog 10 #[.string (bs (Idn.nam t s)), .int .i64 now, .int .i64 grace] w fun e w' => e = .returned (.bool (decide (now - t ≥ grace))) ∧ w = w' := by
  have P := Lib.hid (fun W => show Calls Try.prog 20 #[.string (bs (Idn.nam t s))] W (fun e w' => e = .returned (.tuple #[.int .i64 t, .int .i64 s, .int .i64 0]) ∧ W = w') from by
    have := parse_any (bs (Idn.nam t s)) W
    rw [bs_list, pars_nam t s (by omega) (by omega)] at this
    exact this)
  obtain ⟨nm, hnm⟩ : ∃ nm, nm = Idn.nam t s := ⟨_, rfl⟩
  rw [← hnm] at P ⊢
  clear hnm
  have hwr : IntKind.i64.wrap (now - t) = now - t := IntWalk.i64_in _ (by omega)
  by_cases hg : now - t ≥ grace
  · have hq : decide (now - t ≥ grace) = true := decide_eq_true hg
    have HQ := Lib.hid hq
    have hle : grace ≤ now - t := hg
    clear hq hg
    go_enter Try.func10, Try.ntmps10
    go_wp2_with fail
    refine (P.out _).mono ?_
    rintro e w1 ⟨rfl, rfl⟩
    go_wp2
    go_ret
    exact ⟨by rw [HQ.out]; rfl, rfl⟩
  · have hq : decide (now - t ≥ grace) = false := decide_eq_false hg
    have HQ := Lib.hid hq
    have hle : ¬ grace ≤ now - t := hg
    clear hq hg
    go_enter Try.func10, Try.ntmps10
    go_wp2_with fail
    refine (P.out _).mono ?_
    rintro e w1 ⟨rfl, rfl⟩
    go_wp2
    go_ret
    exact ⟨by rw [HQ.out]; rfl, rfl⟩

theorem new_sm (w : World) : Calls Try.prog 4 #[.int .i64 10000] w fun e w' => ∃ base d f c m, e = .returned (.pointer (some ⟨d, 0, none⟩)) ∧ Sm base d f c m (fun _ => False) true (qOf 0) w' ∧ Home w.heap.size base d f c m ∧ Below w.heap.size w w' := by
  refine (new_home 10000 w (by omega) (by omega)).mono ?_
  rintro e w' ⟨base, d, f, c, m, rfl, D, hH, b⟩
  exact ⟨base, d, f, c, m, rfl, ⟨[], [], 0, D, ⟨fun _ => rfl, fun k hk => hk.elim⟩, Fq.nil⟩, hH, b⟩

set_option maxHeartbeats 2000000 in
set_option maxRecDepth 100000 in
theorem awake18_any (w : World) : Calls Try.prog 5 #[] w fun e w' => e = .returned (.bool true) ∧ Below w.heap.size w w' := by
  have hT := bs_toList
  have ND := Lib.hid (new_sm w)
  have n1 : Idn.nam 5 (0 + 1) = [48, 48, 48, 48, 48, 48, 48, 53, 48, 48, 48, 48, 48, 48, 48, 49] := by decide
  have n2 : Idn.nam 5 (1 + 1) = [48, 48, 48, 48, 48, 48, 48, 53, 48, 48, 48, 48, 48, 48, 48, 50] := by decide
  obtain ⟨N1, h1⟩ : ∃ N1 : List UInt8, N1 = [48, 48, 48, 48, 48, 48, 48, 53, 48, 48, 48, 48, 48, 48, 48, 49] := ⟨_, rfl⟩
  obtain ⟨N2, h2⟩ : ∃ N2 : List UInt8, N2 = [48, 48, 48, 48, 48, 48, 48, 53, 48, 48, 48, 48, 48, 48, 48, 50] := ⟨_, rfl⟩
  have q1 : (⟨#[48, 48, 48, 48, 48, 48, 48, 53, 48, 48, 48, 48, 48, 48, 48, 49]⟩ : ByteArray).toList = N1 := by rw [h1]; exact bs_toList [48, 48, 48, 48, 48, 48, 48, 53, 48, 48, 48, 48, 48, 48, 48, 49]
  have q2 : (⟨#[48, 48, 48, 48, 48, 48, 48, 53, 48, 48, 48, 48, 48, 48, 48, 50]⟩ : ByteArray).toList = N2 := by rw [h2]; exact bs_toList [48, 48, 48, 48, 48, 48, 48, 53, 48, 48, 48, 48, 48, 48, 48, 50]
  rw [← h1] at n1
  rw [← h2] at n2
  have e1 : (N1 == N1) = true := by simp
  have e2 : (N2 == N2) = true := by simp
  have L1 := Lib.hid (fun W => show Calls Try.prog 10 #[.string (bs N1), .int .i64 9, .int .i64 4] W (fun e w' => e = .returned (.bool true) ∧ W = w') from by rw [← n1]; exact late_any 5 1 9 4 W (by omega) (by omega) (by omega) (by omega))
  have L2 := Lib.hid (fun W => show Calls Try.prog 10 #[.string (bs N1), .int .i64 8, .int .i64 4] W (fun e w' => e = .returned (.bool false) ∧ W = w') from by rw [← n1]; exact late_any 5 1 8 4 W (by omega) (by omega) (by omega) (by omega))
  have Hn1 := Lib.hid n1
  have Hn2 := Lib.hid n2
  clear h1 h2 n1 n2
  go_enter Try.func5, Try.ntmps5
  go_wp2_with fail
  refine ND.out.mono ?_
  rintro e w1 ⟨base, d, f, c, m, rfl, S1, hH, b1⟩
  have X1 := Lib.hid (show Calls Try.prog 7 #[.pointer (some ⟨d, 0, none⟩), .int .i64 5] w1 _ from shipnext_any 5 0 w1 S1 hH b1.size (by omega) (by omega))
  clear S1 ND
  go_wp2_with fail
  refine X1.out.mono ?_
  rintro e w2 ⟨hq, b2⟩
  rcases hq with ⟨rfl, S2⟩ | ⟨hf, _⟩
  case inr => cases hf
  have B2 := b1.trans b2.b
  have X2 := Lib.hid (show Calls Try.prog 7 #[.pointer (some ⟨d, 0, none⟩), .int .i64 5] w2 _ from shipnext_any 5 1 w2 S2 hH B2.size (by omega) (by omega))
  rw [Hn1.out]
  clear S2 X1
  go_wp2_with fail
  refine X2.out.mono ?_
  rintro e w3 ⟨hq, b3⟩
  rcases hq with ⟨rfl, S3⟩ | ⟨hf, _⟩
  case inr => cases hf
  have B3 := Lib.hid (B2.trans b3.b)
  rw [Hn2.out]
  clear S3 X2 b1 b2 b3 B2
  go_wp2_with fail
  refine (L1.out _).mono ?_
  rintro e w4 ⟨rfl, rfl⟩
  go_wp2_with fail
  refine (L2.out _).mono ?_
  rintro e w4 ⟨rfl, rfl⟩
  go_wp2_with fail
  go_ret
  exact ⟨rfl, B3.out⟩

/-- A map that has no other names than these. -/
def SeenN (mp : Nat) (N : List (List UInt8)) (w : World) : Prop := ∃ es ck, MapIs mp es ck w ∧ ∀ k, (∀ x ∈ N, k ≠ bs x) → lookE k es = none
theorem lookE_set (k n : ByteArray) (v : Value) (b : Nat) : ∀ es : List En, lookE n (setE k v b es) = if n = k then some { ((lookE k es).getD ⟨k, v, b⟩) with val := v } else lookE n es
  | [] => by
    by_cases h : n = k
    · simp [setE, lookE, h]
    · simp [setE, lookE, h]
  | e :: es => by
    have ih := lookE_set k n v b es
    unfold setE
    by_cases hk : k = e.name
    · rw [if_pos hk]
      by_cases h : n = k
      · simp only [lookE]
        rw [if_pos (by rw [h]; exact hk), if_pos h, if_pos hk]; rfl
      · simp only [lookE]
        rw [if_neg h, if_neg (fun e' => h (e'.trans hk.symm)), if_neg (fun e' => h (e'.trans hk.symm))]
    · rw [if_neg hk]
      simp only [lookE]
      by_cases hn : n = e.name
      · rw [if_pos hn, if_pos hn, if_neg (fun e' => hk (e'.symm.trans hn))]
      · rw [if_neg hn, if_neg hn, if_neg hk]; exact ih
theorem zv_int18 (w : World) : (zeroValue 3).run Try.prog w = .ok (.int .i64 0) w := by kernel_rfl
theorem bs_inj {a b : List UInt8} (h : bs a = bs b) : a = b := by have := congrArg (fun s : ByteArray => s.data.toList) h; simpa [bs] using this
theorem SeenN.same {mp : Nat} {N : List (List UInt8)} {w w' : World} (h : SeenN mp N w) (e : w'.heap[mp]? = w.heap[mp]?) : SeenN mp N w' := by
  obtain ⟨es, ck, h1, h2⟩ := h
  exact ⟨es, ck, e.trans h1, h2⟩
theorem SeenN.step {mp : Nat} {N : List (List UInt8)} {w : World} (h : SeenN mp N w) {x : List UInt8} (hx : x ∉ N) :
    ∃ W, (Instr.lookup 26 (.map (some mp)) (.string (bs x)) false).run Try.prog w = .ok (.int .i64 0) w ∧
      (Instr.mapUpdate 26 (.map (some mp)) (.string (bs x)) (.int .i64 1)).run Try.prog w = .ok () W ∧ Turn (fun k => k = mp) w W ∧
      (Instr.lookup 26 (.map (some mp)) (.string (bs x)) false).run Try.prog W = .ok (.int .i64 1) W ∧ SeenN mp (N ++ [x]) W := by
  obtain ⟨es, ck, h1, h2⟩ := h
  have h0 : lookE (bs x) es = none := h2 _ fun y hy e => hx (by rw [bs_inj e]; exact hy)
  have l1 := run_look (P := Try.prog) Try.underlying26 Try.underlying9 (.int .i64 0) zv_int18 h1 (bs x) false
  rw [h0] at l1
  have st := run_store (P := Try.prog) Try.underlying26 Try.underlying9 h1 (bs x) (.int .i64 1)
  have hlt : mp < w.heap.size := (Array.getElem?_eq_some_iff.1 h1).1
  obtain ⟨ck', hck⟩ : ∃ ck', ck' = (if (lookE (bs x) es).isSome then ck else ck + 1) := ⟨_, rfl⟩
  rw [← hck] at st
  have m2 : MapIs mp (setE (bs x) (.int .i64 1) ck es) ck' (World.putMap w mp (setE (bs x) (.int .i64 1) ck es) ck') := mapIs_put (w := w) hlt _ _
  have l2 := run_look (P := Try.prog) Try.underlying26 Try.underlying9 (.int .i64 0) zv_int18 m2 (bs x) false
  rw [lookE_set, if_pos rfl] at l2
  refine ⟨_, l1, st, turn_put (S := fun k => k = mp) rfl _ _, l2, _, _, m2, fun k hk => ?_⟩
  rw [lookE_set, if_neg (fun e => hk x (by simp) e)]
  exact h2 k fun y hy => hk y (by simp [hy])
/-- Names that were given out, and the last one. -/
structure Gave (N : List (List UInt8)) (la : List UInt8) (t n : Nat) : Prop where
  all : ∀ x ∈ N, ∃ t' s', x = Idn.nam t' s' ∧ t' ≤ t ∧ s' ≤ n
  last : la = [] ∨ ∃ t' s', la = Idn.nam t' s' ∧ t' ≤ t ∧ s' ≤ n
theorem Gave.more {N : List (List UInt8)} {la : List UInt8} {t n t2 n2 : Nat} (h : Gave N la t n) (h1 : t ≤ t2) (h2 : n ≤ n2) : Gave N la t2 n2 :=
  ⟨fun x hx => by obtain ⟨a, b, e, h3, h4⟩ := h.all x hx; exact ⟨a, b, e, by omega, by omega⟩, h.last.imp id fun ⟨a, b, e, h3, h4⟩ => ⟨a, b, e, by omega, by omega⟩⟩
theorem Gave.new {N : List (List UInt8)} {la : List UInt8} {t n : Nat} (h : Gave N la t n) (ht : t ≤ 1000) (hn : n ≤ 1000) : Idn.nam t (n + 1) ∉ N ∧ la < Idn.nam t (n + 1) ∧ Gave (N ++ [Idn.nam t (n + 1)]) (Idn.nam t (n + 1)) t (n + 1) := by
  refine ⟨fun hm => ?_, ?_, ⟨fun x hx => ?_, .inr ⟨t, n + 1, rfl, Nat.le_refl _, Nat.le_refl _⟩⟩⟩
  · obtain ⟨a, b, e, h3, h4⟩ := h.all _ hm
    have := (Idn.nam_eq t (n + 1) a b (by omega) (by omega) (by omega) (by omega)).1 e
    omega
  · rcases h.last with rfl | ⟨a, b, rfl, h3, h4⟩
    · have hl := Idn.nam_len t (n + 1)
      cases e : Idn.nam t (n + 1) with
      | nil => rw [e] at hl; cases hl
      | cons x l => exact List.nil_lt_cons _ _
    · exact (Idn.nam_lt a b t (n + 1) (by omega) (by omega) (by omega) (by omega)).2 (by omega)
  · rcases List.mem_append.1 hx with hx | hx
    · obtain ⟨a, b, e, h3, h4⟩ := h.all x hx
      exact ⟨a, b, e, h3, by omega⟩
    · rw [List.mem_singleton] at hx
      exact ⟨t, n + 1, hx, Nat.le_refl _, Nat.le_refl _⟩
end Go.Proofs.Ytiegokjdnlhlcaa
