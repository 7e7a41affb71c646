/- Layer 2's Next, walked. -/
import Derived.Test.YtiegokjdnlhlcaaMZ2
import Derived.RegionTactic
import Derived.BigRegion
namespace Go.Proofs.Ytiegokjdnlhlcaa
open Go.RowKit Go.Lib
set_option maxRecDepth 100000

def nextV (r : (UInt8 × List UInt8) × List UInt8 × Nat) : Value := .tuple #[.agg #[.int .u8 r.1.1.toNat, .string (bs r.1.2)], .string (bs r.2.1), .int .i64 r.2.2]

theorem getSum_bs (t : List UInt8) (w : World) (hs : 4 ≤ (bs t).size) (hs' : (bs t).size ≤ maxLen) :
    Calls Try.prog 36 #[.string (bs t)] w fun e w' => e = .returned (.int .u32 (Fr.gk t 4 : Nat)) ∧ w = w' := getSum_any (bs t) w hs hs'

namespace Fr
theorem next_none : next [] = ((0, []), [], 2) := rfl
theorem next_no {k : UInt8} {r t : List UInt8} {n er : Nat} (h : Leb.takeM r 1048576 = (n, t, er)) (he : er ≠ 0) : next (k :: r) = ((0, []), [], er) := by
  rw [next, h, if_pos he]
theorem next_end {k : UInt8} {r t : List UInt8} {n : Nat} (h : Leb.takeM r 1048576 = (n, t, 0)) (he : t.length < 4 + n) : next (k :: r) = ((0, []), [], 2) := by
  rw [next, h, if_neg (by simp), if_pos he]
theorem next_sum {k : UInt8} {r t : List UInt8} {n : Nat} (h : Leb.takeM r 1048576 = (n, t, 0)) (he : ¬ t.length < 4 + n) (hs : rsum k ((t.drop 4).take n) ≠ gk t 4) : next (k :: r) = ((0, []), [], 4) := by
  rw [next, h, if_neg (by simp), if_neg he, if_pos hs]
theorem next_ok {k : UInt8} {r t : List UInt8} {n : Nat} (h : Leb.takeM r 1048576 = (n, t, 0)) (he : ¬ t.length < 4 + n) (hs : rsum k ((t.drop 4).take n) = gk t 4) : next (k :: r) = ((k, (t.drop 4).take n), t.drop (4 + n), 0) := by
  rw [next, h, if_neg (by simp), if_neg he, if_neg (by simp [hs])]
end Fr

theorem bs_mid (t : List UInt8) (n : Nat) (d : List UInt8) (hd : d = (t.drop 4).take n) : (bs t).extract 4 (4 + n) = bs d := by
  rw [hd]
  conv => lhs; rw [show bs t = ByteArray.mk t.toArray from rfl]
  rw [ByteArray.extract_mk]
  simp only [bs]
  congr 3
  omega

set_option maxRecDepth 100000 in
theorem next_none (w : World) : Calls Try.prog 22 #[.string (bs [])] w fun e w' => e = .returned (nextV (Fr.next [])) ∧ Below w.heap.size w w' := by
  go_enter Try.func22, Try.ntmps22
  go_wp2_with (go_at_call 34; refine (takeB_none _).mono ?_; rintro e w1 ⟨rfl, n1, rfl⟩)
  exact bodyPost_ret (v := .tuple #[.agg #[.int .u8 0, .string ⟨#[]⟩], .string ⟨#[]⟩, .int .i64 2]) (by simp [results, Try.results22, go_sem]) rfl ⟨rfl, ((below_draw ((Below.refl _ _).alloc (Nat.le_refl _) _) _).setCell (by simp) _).setCell (by simp) _⟩
set_option maxRecDepth 100000 in
theorem next_ok (k : UInt8) (r t : List UInt8) (n : Nat) (w : World) (hr : (k :: r).length ≤ 140737488350000) (h : Leb.takeM r 1048576 = (n, t, 0)) (he : ¬ t.length < 4 + n) (hs : Fr.rsum k ((t.drop 4).take n) = Fr.gk t 4) :
    Calls Try.prog 22 #[.string (bs (k :: r))] w fun e w' => e = .returned (nextV (Fr.next (k :: r))) ∧ Below w.heap.size w w' := by
  have H := Lib.hid (Fr.next_ok h he hs)
  obtain ⟨m1, m2, m3, m4, m5⟩ := Leb.takeM_small h (by decide)
  have HM := Lib.hid (show Leb.takeM (bs r).data.toList 1048576 = (n, t, 0) from h)
  obtain ⟨d, hd⟩ : ∃ d, d = (t.drop 4).take n := ⟨_, rfl⟩
  have z0 : (bs (k :: r)).size ≤ maxLen := by rw [bs_size]; unfold maxLen; omega
  have z1 : (bs r).size ≤ maxLen := by rw [bs_size]; simp at hr; unfold maxLen; omega
  have z2 : 4 + n ≤ (bs t).size := by rw [bs_size]; omega
  have z3 : (bs t).size ≤ 140737488350000 := by rw [bs_size]; simp at hr; omega
  have z4 : (bs d).size ≤ maxLen := by rw [bs_size, hd, List.length_take, List.length_drop]; unfold maxLen; omega
  rw [← hd] at hs H
  have hx := bs_mid t n d hd
  obtain ⟨m, hm⟩ : ∃ m, m = recSum k d := ⟨_, rfl⟩
  obtain ⟨q, hq⟩ : ∃ q, q = Fr.gk t 4 := ⟨_, rfl⟩
  have hmq : m = q := by rw [hm, hq]; exact hs
  subst hmq
  have C1 := Lib.hid (fun W => show Calls Try.prog 35 #[.agg #[.int .u8 k.toNat, .string (bs d)]] W (fun e w' => e = .returned (.int .u32 (m : Nat)) ∧ Below W.heap.size W w') by rw [hm]; exact sumOf_any k d W z4)
  have C2 := Lib.hid (fun W => show Calls Try.prog 36 #[.string (bs t)] W (fun e w' => e = .returned (.int .u32 (m : Nat)) ∧ W = w') by rw [hq]; exact getSum_bs t W (by omega) (by unfold maxLen; omega))
  have HX := Lib.hid (bs_drop t (4 + n))
  clear h he hs hd hm hq m4 m5
  go_enter Try.func22, Try.ntmps22
  go_wp2_with (first
    | (go_at_call 34; refine (takeB_some _ _ k r rfl z0).mono ?_; rintro e w1 ⟨rfl, n1, rfl⟩)
    | (go_at_call 23; refine (takeM_is HM.out _ z1 (by decide) (by decide)).mono ?_; rintro e w1 ⟨rfl, n2, rfl⟩)
    | (go_at_call 35; refine (C1.out _).mono ?_; rintro e w3 ⟨rfl, b3⟩)
    | (go_at_call 36; refine (C2.out _).mono ?_; rintro e w4 ⟨rfl, rfl⟩))
  have p0 := b3.cell (p := ⟨w.heap.size, 0, none⟩) (by simp <;> omega)
  have p1 := b3.cell (p := ⟨w.heap.size, 1, none⟩) (by simp <;> omega)
  have p2 := b3.cell (p := ⟨w.heap.size + 1, 0, none⟩) (by simp <;> omega)
  have p3 := b3.cell (p := ⟨w.heap.size + 1, 1, none⟩) (by simp <;> omega)
  have f0 := b3.frozen (p := ⟨w.heap.size, 0, none⟩) (by simp <;> omega)
  have f1 := b3.frozen (p := ⟨w.heap.size, 1, none⟩) (by simp <;> omega)
  simp [go_sem] at p0 p1 p2 p3 f0 f1
  have hz := b3.size
  simp at hz
  go_region
  all_goals go_wp2
  have hbel : Below w.heap.size w w3 := ((below_draw ((Below.refl _ _).alloc (Nat.le_refl _) _) _).alloc (by simp) _).trans (b3.mono (by simp <;> omega))
  exact bodyPost_ret (v := .tuple #[.agg #[.int .u8 k.toNat, .string (bs d)], .string ((bs t).extract (4 + n) (bs t).size), .int .i64 0]) (by simp [results, Try.results22, go_sem, p0, p1]) rfl ⟨by rw [H.out, HX.out]; rfl, ((hbel.setCell (Nat.le_refl _) _).setCell (Nat.le_refl _) _).drew⟩

set_option maxRecDepth 100000 in
theorem next_no (k : UInt8) (r t : List UInt8) (n er : Nat) (w : World) (hr : (k :: r).length ≤ 140737488350000) (h : Leb.takeM r 1048576 = (n, t, er)) (he : er ≠ 0) :
    Calls Try.prog 22 #[.string (bs (k :: r))] w fun e w' => e = .returned (nextV (Fr.next (k :: r))) ∧ Below w.heap.size w w' := by
  have H := Lib.hid (Fr.next_no (k := k) h he)
  have HM := Lib.hid (show Leb.takeM (bs r).data.toList 1048576 = (n, t, er) from h)
  have z0 : (bs (k :: r)).size ≤ maxLen := by rw [bs_size]; unfold maxLen; omega
  have z1 : (bs r).size ≤ maxLen := by rw [bs_size]; simp at hr; unfold maxLen; omega
  clear h
  go_enter Try.func22, Try.ntmps22
  go_wp2_with (first
    | (go_at_call 34; refine (takeB_some _ _ k r rfl z0).mono ?_; rintro e w1 ⟨rfl, n1, rfl⟩)
    | (go_at_call 23; refine (takeM_is HM.out _ z1 (by decide) (by decide)).mono ?_; rintro e w1 ⟨rfl, n2, rfl⟩))
  exact bodyPost_ret (v := .tuple #[.agg #[.int .u8 0, .string ⟨#[]⟩], .string ⟨#[]⟩, .int .i64 er]) (by simp [results, Try.results22, go_sem]) rfl ⟨by rw [H.out]; rfl, ((below_draw ((Below.refl _ _).alloc (Nat.le_refl _) _) _).setCell (by simp) _).setCell (by simp) _⟩

set_option maxRecDepth 100000 in
theorem next_end (k : UInt8) (r t : List UInt8) (n : Nat) (w : World) (hr : (k :: r).length ≤ 140737488350000) (h : Leb.takeM r 1048576 = (n, t, 0)) (he : t.length < 4 + n) :
    Calls Try.prog 22 #[.string (bs (k :: r))] w fun e w' => e = .returned (nextV (Fr.next (k :: r))) ∧ Below w.heap.size w w' := by
  have H := Lib.hid (Fr.next_end (k := k) h he)
  obtain ⟨m1, m2, m3, m4, m5⟩ := Leb.takeM_small h (by decide)
  have m6 := m4 rfl
  have m7 : n ≤ 1048576 := by omega
  have HM := Lib.hid (show Leb.takeM (bs r).data.toList 1048576 = (n, t, 0) from h)
  have z0 : (bs (k :: r)).size ≤ maxLen := by rw [bs_size]; unfold maxLen; omega
  have z1 : (bs r).size ≤ maxLen := by rw [bs_size]; simp at hr; unfold maxLen; omega
  have z2 : (bs t).size < 4 + n := by rw [bs_size]; omega
  clear h m4 m5 m6
  go_enter Try.func22, Try.ntmps22
  go_wp2_with (first
    | (go_at_call 34; refine (takeB_some _ _ k r rfl z0).mono ?_; rintro e w1 ⟨rfl, n1, rfl⟩)
    | (go_at_call 23; refine (takeM_is HM.out _ z1 (by decide) (by decide)).mono ?_; rintro e w1 ⟨rfl, n2, rfl⟩))
  exact bodyPost_ret (v := .tuple #[.agg #[.int .u8 0, .string ⟨#[]⟩], .string ⟨#[]⟩, .int .i64 2]) (by simp [results, Try.results22, go_sem]) rfl ⟨by rw [H.out]; rfl, ((below_draw ((Below.refl _ _).alloc (Nat.le_refl _) _) _).setCell (by simp) _).setCell (by simp) _⟩

set_option maxRecDepth 100000 in
theorem next_sum (k : UInt8) (r t : List UInt8) (n : Nat) (w : World) (hr : (k :: r).length ≤ 140737488350000) (h : Leb.takeM r 1048576 = (n, t, 0)) (he : ¬ t.length < 4 + n) (hs : Fr.rsum k ((t.drop 4).take n) ≠ Fr.gk t 4) :
    Calls Try.prog 22 #[.string (bs (k :: r))] w fun e w' => e = .returned (nextV (Fr.next (k :: r))) ∧ Below w.heap.size w w' := by
  have H := Lib.hid (Fr.next_sum h he hs)
  obtain ⟨m1, m2, m3, m4, m5⟩ := Leb.takeM_small h (by decide)
  have HM := Lib.hid (show Leb.takeM (bs r).data.toList 1048576 = (n, t, 0) from h)
  obtain ⟨d, hd⟩ : ∃ d, d = (t.drop 4).take n := ⟨_, rfl⟩
  have z0 : (bs (k :: r)).size ≤ maxLen := by rw [bs_size]; unfold maxLen; omega
  have z1 : (bs r).size ≤ maxLen := by rw [bs_size]; simp at hr; unfold maxLen; omega
  have z2 : 4 + n ≤ (bs t).size := by rw [bs_size]; omega
  have z3 : (bs t).size ≤ 140737488350000 := by rw [bs_size]; simp at hr; omega
  have z4 : (bs d).size ≤ maxLen := by rw [bs_size, hd, List.length_take, List.length_drop]; unfold maxLen; omega
  rw [← hd] at hs
  have hx := bs_mid t n d hd
  obtain ⟨m, hm⟩ : ∃ m, m = recSum k d := ⟨_, rfl⟩
  obtain ⟨q, hq⟩ : ∃ q, q = Fr.gk t 4 := ⟨_, rfl⟩
  have hmq : ((m : Int) != (q : Int)) = true := by
    have : m ≠ q := by rw [hm, hq]; exact hs
    simp; omega
  have C1 := Lib.hid (fun W => show Calls Try.prog 35 #[.agg #[.int .u8 k.toNat, .string (bs d)]] W (fun e w' => e = .returned (.int .u32 (m : Nat)) ∧ Below W.heap.size W w') by rw [hm]; exact sumOf_any k d W z4)
  have C2 := Lib.hid (fun W => show Calls Try.prog 36 #[.string (bs t)] W (fun e w' => e = .returned (.int .u32 (q : Nat)) ∧ W = w') by rw [hq]; exact getSum_bs t W (by omega) (by unfold maxLen; omega))
  clear h he hs hd hm hq m4 m5
  go_enter Try.func22, Try.ntmps22
  go_wp2_with (first
    | (go_at_call 34; refine (takeB_some _ _ k r rfl z0).mono ?_; rintro e w1 ⟨rfl, n1, rfl⟩)
    | (go_at_call 23; refine (takeM_is HM.out _ z1 (by decide) (by decide)).mono ?_; rintro e w1 ⟨rfl, n2, rfl⟩)
    | (go_at_call 35; refine (C1.out _).mono ?_; rintro e w3 ⟨rfl, b3⟩; have p0 := b3.cell (p := ⟨w.heap.size, 0, none⟩) (by simp <;> omega); have p1 := b3.cell (p := ⟨w.heap.size, 1, none⟩) (by simp <;> omega); have f0 := b3.frozen (p := ⟨w.heap.size, 0, none⟩) (by simp <;> omega); have f1 := b3.frozen (p := ⟨w.heap.size, 1, none⟩) (by simp <;> omega); simp [go_sem] at p0 p1 f0 f1)
    | (go_at_call 36; refine (C2.out _).mono ?_; rintro e w4 ⟨rfl, rfl⟩))
  have hbel : Below w.heap.size w w3 := ((below_draw ((Below.refl _ _).alloc (Nat.le_refl _) _) _).alloc (by simp) _).trans (b3.mono (by simp <;> omega))
  exact bodyPost_ret (v := .tuple #[.agg #[.int .u8 0, .string ⟨#[]⟩], .string ⟨#[]⟩, .int .i64 4]) (by simp [results, Try.results22, go_sem, p0, p1]) rfl ⟨by rw [H.out]; rfl, (hbel.setCell (Nat.le_refl _) _).setCell (Nat.le_refl _) _⟩

theorem next_any (s : List UInt8) (w : World) (hs : s.length ≤ 140737488350000) :
    Calls Try.prog 22 #[.string (bs s)] w fun e w' => e = .returned (nextV (Fr.next s)) ∧ Below w.heap.size w w' := by
  cases s with
  | nil => exact next_none w
  | cons k r =>
    obtain ⟨n, t, er, h⟩ : ∃ n t er, Leb.takeM r 1048576 = (n, t, er) := ⟨_, _, _, rfl⟩
    by_cases he : er = 0
    · subst he
      by_cases hl : t.length < 4 + n
      · exact next_end k r t n w hs h hl
      · by_cases hq : Fr.rsum k ((t.drop 4).take n) = Fr.gk t 4
        · exact next_ok k r t n w hs h hl hq
        · exact next_sum k r t n w hs h hl hq
    · exact next_no k r t n er w hs h he
#print axioms next_any
end Go.Proofs.Ytiegokjdnlhlcaa
