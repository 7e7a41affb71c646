/- Layer 1's other readers, walked. -/
import Derived.Test.YthambhcladobjaaY2
namespace Go.Proofs.Ythambhcladobjaa
set_option maxRecDepth 100000
open Go.RowKit Go.Lib

namespace Leb
def takeI (l : List UInt8) : Int × List UInt8 × Nat := if (takeU l).2.2 ≠ 0 then (0, [], (takeU l).2.2) else (unfoldN (takeU l).1, (takeU l).2.1, 0)
theorem takeI_ok {l : List UInt8} {u : Nat} {r : List UInt8} (h : takeU l = (u, r, 0)) : takeI l = (unfoldN u, r, 0) := by unfold takeI; rw [h]; simp
theorem takeI_no {l : List UInt8} {u er : Nat} {r : List UInt8} (h : takeU l = (u, r, er)) (he : er ≠ 0) : takeI l = (0, [], er) := by unfold takeI; rw [h]; simp [he]
theorem takeM_no {l : List UInt8} {most : Int} {u er : Nat} {r : List UInt8} (h : takeU l = (u, r, er)) (he : er ≠ 0) : takeM l most = (0, [], er) := by unfold takeM; rw [h]; simp [he]
theorem takeM_big {l : List UInt8} {most : Int} {u : Nat} {r : List UInt8} (h : takeU l = (u, r, 0)) (he : (u : Int) > max most 0) : takeM l most = (0, [], 16) := by
  unfold takeM; rw [h, if_neg (by simp), if_pos (by simp only; omega)]
theorem takeM_ok {l : List UInt8} {most : Int} {u : Nat} {r : List UInt8} (h : takeU l = (u, r, 0)) (he : ¬ (u : Int) > max most 0) : takeM l most = (u, r, 0) := by
  unfold takeM; rw [h, if_neg (by simp), if_neg (by simp only; omega)]
theorem takeT_no {l : List UInt8} {most : Int} {u er : Nat} {r : List UInt8} (h : takeM l most = (u, r, er)) (he : er ≠ 0) : takeT l most = ([], [], er) := by unfold takeT; rw [h]; simp [he]
theorem takeT_end {l : List UInt8} {most : Int} {u : Nat} {r : List UInt8} (h : takeM l most = (u, r, 0)) (he : u > r.length) : takeT l most = ([], [], 2) := by unfold takeT; rw [h]; simp [he]
theorem takeT_ok {l : List UInt8} {most : Int} {u : Nat} {r : List UInt8} (h : takeM l most = (u, r, 0)) (he : ¬ u > r.length) : takeT l most = (r.take u, r.drop u, 0) := by unfold takeT; rw [h]; simp [he]
theorem takeU_none {l : List UInt8} {u er : Nat} {r : List UInt8} (h : takeU l = (u, r, er)) (he : er ≠ 0) : u = 0 ∧ r = [] := by
  have := dec_err l 0 0 (by show (takeU l).2.2 ≠ 0; rw [h]; exact he)
  have e1 : dec 0 0 l = (u, r, er) := h
  rw [e1] at this
  exact this
theorem takeU_small {l : List UInt8} {u er : Nat} {r : List UInt8} (h : takeU l = (u, r, er)) : er ≤ 3 ∧ u < 18446744073709551616 ∧ r.length ≤ l.length := by
  have h1 := dec_errs l 0 0
  have h2 := takeU_lt l
  have h3 := dec_left l 0 0
  have e1 : dec 0 0 l = (u, r, er) := h
  rw [h] at h2
  rw [e1] at h1 h3
  unfold two64 at h2
  simp only at h1 h2 h3
  omega
theorem takeM_small {l : List UInt8} {most : Int} {u er : Nat} {r : List UInt8} (h : takeM l most = (u, r, er)) (hm : most ≤ 9223372036854775807) : er ≤ 16 ∧ u ≤ 9223372036854775807 ∧ r.length ≤ l.length ∧ (er = 0 → (u : Int) ≤ max most 0) ∧ (er ≠ 0 → u = 0 ∧ r = []) := by
  obtain ⟨u', r', er', hT⟩ : ∃ u' r' er', takeU l = (u', r', er') := ⟨_, _, _, rfl⟩
  obtain ⟨b1, b2, b3⟩ := takeU_small hT
  by_cases he : er' = 0
  · subst he
    by_cases hb : (u' : Int) > max most 0
    · rw [takeM_big hT hb] at h; simp only [Prod.mk.injEq] at h; obtain ⟨rfl, rfl, rfl⟩ := h; simp
    · rw [takeM_ok hT hb] at h; simp only [Prod.mk.injEq] at h; obtain ⟨rfl, rfl, rfl⟩ := h; simp; omega
  · rw [takeM_no hT he] at h; simp only [Prod.mk.injEq] at h; obtain ⟨rfl, rfl, rfl⟩ := h; simp; omega
end Leb

def tupI (r : Int × List UInt8 × Nat) : Value := .tuple #[.int .i64 r.1, .string (bs r.2.1), .int .i64 r.2.2]
def tupM (r : Nat × List UInt8 × Nat) : Value := .tuple #[.int .i64 r.1, .string (bs r.2.1), .int .i64 r.2.2]
def tupT (r : List UInt8 × List UInt8 × Nat) : Value := .tuple #[.string (bs r.1), .string (bs r.2.1), .int .i64 r.2.2]

theorem takeU_is {s : ByteArray} {u er : Nat} {r : List UInt8} (h : Leb.takeU s.data.toList = (u, r, er)) (w : World) (hs : s.size ≤ maxLen) :
    Calls Try.prog 86 #[.string s] w fun e w' => e = .returned (.tuple #[.int .u64 u, .string (bs r), .int .i64 er]) ∧ ∃ n, w' = w.drewN n := by
  have := takeU_any s w hs
  rw [h] at this
  exact this
theorem takeM_any (s : ByteArray) (most : Int) (w : World) (hs : s.size ≤ maxLen) (hm : -9223372036854775808 ≤ most) (hm' : most ≤ 9223372036854775807) :
    Calls Try.prog 76 #[.string s, .int .i64 most] w fun e w' => e = .returned (tupM (Leb.takeM s.data.toList most)) ∧ ∃ n, w' = w.drewN n := by
  obtain ⟨u, r, er, hT⟩ : ∃ u r er, Leb.takeU s.data.toList = (u, r, er) := ⟨_, _, _, rfl⟩
  obtain ⟨b1, b2, b3⟩ := Leb.takeU_small hT
  have HT := Lib.hid hT
  by_cases he : er = 0
  · subst he
    by_cases hb : (u : Int) > max most 0
    · have HI := Lib.hid (Leb.takeM_big hT hb); clear hT
      go_enter Try.func76, Try.ntmps76
      go_wp2_with (first | (go_at_call 86; refine (takeU_is HT.out _ hs).mono ?_; rintro e w' ⟨rfl, n1, rfl⟩))
      all_goals
        go_ret3
        exact ⟨by rw [HI.out]; rfl, _, rfl⟩
    · have HI := Lib.hid (Leb.takeM_ok hT hb); clear hT
      go_enter Try.func76, Try.ntmps76
      go_wp2_with (first | (go_at_call 86; refine (takeU_is HT.out _ hs).mono ?_; rintro e w' ⟨rfl, n1, rfl⟩))
      all_goals
        go_ret3
        exact ⟨by rw [HI.out]; rfl, _, rfl⟩
  · have HI := Lib.hid (Leb.takeM_no (most := most) hT he); clear hT
    go_enter Try.func76, Try.ntmps76
    go_wp2_with (first | (go_at_call 86; refine (takeU_is HT.out _ hs).mono ?_; rintro e w' ⟨rfl, n1, rfl⟩))
    all_goals
      go_ret3
      exact ⟨by rw [HI.out]; rfl, _, rfl⟩

theorem takeM_is {s : ByteArray} {most : Int} {u er : Nat} {r : List UInt8} (h : Leb.takeM s.data.toList most = (u, r, er)) (w : World) (hs : s.size ≤ maxLen) (hm : -9223372036854775808 ≤ most) (hm' : most ≤ 9223372036854775807) :
    Calls Try.prog 76 #[.string s, .int .i64 most] w fun e w' => e = .returned (.tuple #[.int .i64 u, .string (bs r), .int .i64 er]) ∧ ∃ n, w' = w.drewN n := by
  have := takeM_any s most w hs hm hm'
  rw [h] at this
  exact this
theorem takeT_any (s : ByteArray) (most : Int) (w : World) (hs : s.size ≤ maxLen) (hm : -9223372036854775808 ≤ most) (hm' : most ≤ 9223372036854775807) :
    Calls Try.prog 75 #[.string s, .int .i64 most] w fun e w' => e = .returned (tupT (Leb.takeT s.data.toList most)) ∧ ∃ n, w' = w.drewN n := by
  obtain ⟨u, r, er, hT⟩ : ∃ u r er, Leb.takeM s.data.toList most = (u, r, er) := ⟨_, _, _, rfl⟩
  obtain ⟨b1, b2, b3, b4, b5⟩ := Leb.takeM_small hT hm'
  have HT := Lib.hid hT
  by_cases he : er = 0
  · subst he
    by_cases hb : u > r.length
    · have HI := Lib.hid (Leb.takeT_end hT hb)
      have hb' : (bs r).size < u := by rw [bs_size]; exact hb
      clear hT b4 b5
      go_enter Try.func75, Try.ntmps75
      go_wp2_with (first | (go_at_call 76; refine (takeM_is HT.out _ hs hm hm').mono ?_; rintro e w' ⟨rfl, n1, rfl⟩))
      go_ret3
      exact ⟨by rw [HI.out]; rfl, _, rfl⟩
    · have HI := Lib.hid (Leb.takeT_ok hT hb)
      have hb' : u ≤ (bs r).size := by rw [bs_size]; omega
      have H1 := Lib.hid (bs_take r u)
      have H2 := Lib.hid (bs_drop r u)
      clear hT b4 b5
      go_enter Try.func75, Try.ntmps75
      go_wp2_with (first | (go_at_call 76; refine (takeM_is HT.out _ hs hm hm').mono ?_; rintro e w' ⟨rfl, n1, rfl⟩))
      go_quiet (fail)
      go_wp2
      go_ret3
      exact ⟨by rw [HI.out]; simp only [tupT]; rw [← H1.out, ← H2.out]; rfl, _, World.drewN_drewN _ _ _⟩
  · have HI := Lib.hid (Leb.takeT_no hT he)
    clear hT b4 b5
    go_enter Try.func75, Try.ntmps75
    go_wp2_with (first | (go_at_call 76; refine (takeM_is HT.out _ hs hm hm').mono ?_; rintro e w' ⟨rfl, n1, rfl⟩))
    go_ret3
    exact ⟨by rw [HI.out]; rfl, _, rfl⟩

theorem takeB_none (w : World) :
    Calls Try.prog 84 #[.string (bs [])] w fun e w' => e = .returned (.tuple #[.int .u8 0, .string (bs []), .int .i64 2]) ∧ ∃ n, w' = w.drewN n := by
  have h0 : (bs []).toList.isEmpty = true := by rw [ByteArray.toList_eq]; rfl
  go_enter Try.func84, Try.ntmps84
  go_wp2
  go_ret3
  exact ⟨rfl, 0, rfl⟩
theorem takeB_some (s : ByteArray) (w : World) (c : UInt8) (r : List UInt8) (h : s.data.toList = c :: r) (hs : s.size ≤ maxLen) :
    Calls Try.prog 84 #[.string s] w fun e w' => e = .returned (.tuple #[.int .u8 c.toNat, .string (bs r), .int .i64 0]) ∧ ∃ n, w' = w.drewN n := by
  unfold maxLen at hs
  have h0 : s.toList.isEmpty = false := by rw [ByteArray.toList_eq, h]; rfl
  have h2 : s.size = s.data.toList.length := by rw [Array.length_toList]; rfl
  have hl : 0 < s.size := by rw [h2, h]; simp
  have hc : s[0] = c := by
    have := list_at s 0 hl
    rw [List.drop_zero, h] at this
    exact ((List.cons.inj this).1).symm
  have HX := Lib.hid (extract_bs s 1)
  have HC := Lib.hid hc
  have HH := Lib.hid h
  clear h hc h2
  go_enter Try.func84, Try.ntmps84
  go_wp2
  go_quiet (fail)
  go_wp2
  go_ret3
  refine ⟨?_, _, rfl⟩
  have e1 : bs r = s.extract 1 s.size := by rw [HX.out, HH.out]; rfl
  rw [e1, ← HC.out]
  rfl

/-- The answer is a new slice of the bytes xs, n of them. -/
def Made (w : World) (xs : List UInt8) (n : Nat) (e : Ending) (w' : World) : Prop :=
  ∃ a cap, e = .returned (.slice a n cap) ∧ Sl w' w.heap.size 1 (.slice a n cap) n (cb xs) ∧ Below w.heap.size w w'

theorem made_of {w w' : World} {xs : List UInt8} {n : Nat} {e : Ending} (hn : xs.length = n) (h : Wrote w.heap.size w (.slice none 0 0) 0 [] xs e w') : Made w xs n e w' := by
  obtain ⟨v', rfl, hx⟩ := h
  have hb := hx.below (Nat.le_refl _) (Nat.le_refl _)
  have := hx.now
  rw [Nat.zero_add, List.nil_append, hn] at this
  obtain ⟨a, cap, rfl⟩ := this.slice
  exact ⟨a, cap, rfl, this, hb⟩

/-- .. of which there is one at least. -/
def MadeAt (w : World) (xs : List UInt8) (n : Nat) (e : Ending) (w' : World) : Prop :=
  ∃ g off cap, e = .returned (.slice (some ⟨g, off, none⟩) n cap) ∧ n ≤ cap ∧ cap ≤ maxLen ∧ Sl w' w.heap.size 1 (.slice (some ⟨g, off, none⟩) n cap) n (cb xs) ∧ Below w.heap.size w w'
theorem madeAt_of {w w' : World} {xs : List UInt8} {n : Nat} {e : Ending} (hn : 0 < n) (h : Made w xs n e w') : MadeAt w xs n e w' := by
  obtain ⟨a, cap, rfl, h, hb⟩ := h
  rcases h.2 with ⟨h0, h1⟩ | ⟨g', off', cap', he, hbg, hg, hnc, hcm, _⟩
  · omega
  · cases he
    exact ⟨g', off', cap, rfl, hnc, hcm, h, hb⟩

theorem uint_new (x : Int) (v : Nat) (xs : List UInt8) (n : Nat) (hx : x = v) (he : Leb.encU v = xs) (hn : xs.length = n) (w : World) (hv : v < Leb.two64) :
    Calls Try.prog 52 #[.slice none 0 0, .int .u64 x] w (Made w xs n) := by
  subst hx
  subst he
  exact (uint_any w.heap.size _ 0 [] v w hv (Sl.nil _ _ _) (by omega) (Nat.le_refl _)).mono fun _ _ => made_of hn
theorem text_new (s : ByteArray) (xs : List UInt8) (n : Nat) (he : Leb.encT s.data.toList = xs) (hn : xs.length = n) (w : World) (hs : s.size ≤ 140737488355000) :
    Calls Try.prog 51 #[.slice none 0 0, .string s] w (Made w xs n) := by
  subst he
  exact (text_any w.heap.size _ 0 [] s w (by omega) (Sl.nil _ _ _) (Nat.le_refl _)).mono fun _ _ => made_of hn

end Go.Proofs.Ythambhcladobjaa
