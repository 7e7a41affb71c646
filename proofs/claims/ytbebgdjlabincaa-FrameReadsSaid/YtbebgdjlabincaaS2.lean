/- The document's own Next, walked. -/
import Derived.Test.YtbebgdjlabincaaS1
import Derived.RegionTactic
import Derived.BigRegion
import Derived.BigQuiet
import Derived.Deep.QuietTactic
namespace Go.Proofs.Ytbebgdjlabincaa
open Go.RowKit Go.Lib

namespace Fr
theorem takeM_one {l r : List UInt8} {most : Int} {u : Nat} (h : Leb.takeM l most = (u, r, 0)) : Leb.encU u ++ r = l := by
  have h' : Leb.takeU l = (u, r, 0) := by
    unfold Leb.takeM at h
    split at h
    · rename_i h1
      simp only [Prod.mk.injEq] at h
      exact absurd h.2.2 h1
    · split at h
      · simp at h
      · exact h
  exact (Leb.takeU_one l r u h').1

/-- What stands where the record's bytes should. -/
theorem rec_there {k : UInt8} {r t : List UInt8} {n : Nat} (h : Leb.takeM r 1048576 = (n, t, 0)) (he : ¬ t.length < 4 + n) :
    (rec k ((t.drop 4).take n)).length ≤ (k :: r).length ∧ (k :: r).take (rec k ((t.drop 4).take n)).length = k :: (Leb.encU n ++ (t.take 4 ++ (t.drop 4).take n)) ∧ (k :: r).drop (rec k ((t.drop 4).take n)).length = t.drop (4 + n) := by
  have h1 := takeM_one h
  have hd : ((t.drop 4).take n).length = n := by rw [List.length_take, List.length_drop]; omega
  have hl : (rec k ((t.drop 4).take n)).length = (k :: (Leb.encU n ++ (t.take 4 ++ (t.drop 4).take n))).length := by
    simp only [rec, List.length_cons, List.length_append, le_len, hd, List.length_take]
    omega
  have ht : t = (t.take 4 ++ (t.drop 4).take n) ++ t.drop (4 + n) := by
    rw [List.append_assoc, ← List.drop_drop, List.take_append_drop, List.take_append_drop]
  have hs : k :: r = (k :: (Leb.encU n ++ (t.take 4 ++ (t.drop 4).take n))) ++ t.drop (4 + n) := by
    rw [← h1]
    conv => lhs; rw [ht]
    simp
  rw [hl]
  refine ⟨?_, ?_, ?_⟩
  · rw [hs, List.length_append]; omega
  · rw [hs, List.take_left]
  · rw [hs, List.drop_left]
theorem rec_is {k : UInt8} {r t : List UInt8} {n : Nat} (h : Leb.takeM r 1048576 = (n, t, 0)) (he : ¬ t.length < 4 + n) :
    rec k ((t.drop 4).take n) = (k :: r).take (rec k ((t.drop 4).take n)).length ↔ rsum k ((t.drop 4).take n) = gk t 4 := by
  have hd : ((t.drop 4).take n).length = n := by rw [List.length_take, List.length_drop]; omega
  rw [(rec_there h he).2.1]
  constructor
  · intro e
    rw [rec, hd] at e
    have e1 := (List.cons.inj e).2
    have e2 := (List.append_cancel_left e1)
    have e3 := List.append_cancel_right e2
    have e4 : gk (le (rsum k ((t.drop 4).take n)) 4) 4 = gk (t.take 4) 4 := congrArg (fun l => gk l 4) e3
    have g1 : gk (le (rsum k ((t.drop 4).take n)) 4) 4 = rsum k ((t.drop 4).take n) := by
      rw [gk_le _ 4 4 (by omega)]; exact Nat.mod_eq_of_lt (rsum_lt _ _)
    have g2 : gk (t.take 4) 4 = gk t 4 := by
      conv => rhs; rw [← List.take_append_drop 4 t]
      rw [gk_append _ _ _ (by rw [List.length_take]; omega)]
    rw [g1, g2] at e4
    exact e4
  · intro e
    rw [rec, hd, e, put_get t 4 (by omega) 4 (by omega)]
end Fr

set_option maxRecDepth 100000 in
theorem r2next_none (w : World) : Calls Try.prog 32 #[.string (bs [])] w fun e w' => e = .returned (nextV (Fr.next [])) ∧ Below w.heap.size w w' := by
  have h0 : (bs []).toList.isEmpty = true := by rw [ByteArray.toList_eq]; rfl
  go_enter Try.func32, Try.ntmps32
  go_wp2
  exact bodyPost_ret (v := .tuple #[.agg #[.int .u8 0, .string ⟨#[]⟩], .string ⟨#[]⟩, .int .i64 2]) (by simp [results, Try.results32, go_sem]) rfl ⟨rfl, (Below.refl _ _).alloc (Nat.le_refl _) _⟩

theorem bs_cons_ne (k : UInt8) (r : List UInt8) : (bs (k :: r)).toList.isEmpty = false := by rw [ByteArray.toList_eq]; rfl
theorem bs_cons_pos (k : UInt8) (r : List UInt8) : 0 < (bs (k :: r)).size := by rw [bs_size]; simp
theorem bs_cons_at (k : UInt8) (r : List UInt8) (h : 0 < (bs (k :: r)).size) : (bs (k :: r))[0]'h = k := rfl

set_option maxRecDepth 100000 in
theorem r2next_no (k : UInt8) (r t : List UInt8) (n er : Nat) (w : World) (hr : (k :: r).length ≤ 140737488350000) (h : Leb.takeM r 1048576 = (n, t, er)) (he : er ≠ 0) :
    Calls Try.prog 32 #[.string (bs (k :: r))] w fun e w' => e = .returned (nextV (Fr.next (k :: r))) ∧ Below w.heap.size w w' := by
  have H := Lib.hid (Fr.next_no (k := k) h he)
  have HM := Lib.hid (show Leb.takeM (bs r).data.toList 1048576 = (n, t, er) from h)
  have h0 := bs_cons_ne k r
  have h1 := bs_cons_pos k r
  have hx := bs_drop (k :: r) 1
  rw [List.drop_one, List.tail_cons] at hx
  have z1 : (bs r).size ≤ maxLen := by rw [bs_size]; simp at hr; unfold maxLen; omega
  clear h
  go_enter Try.func32, Try.ntmps32
  go_wp2_with (first
    | (go_at_call 27; refine (rtakeM_is HM.out _ z1 (by decide) (by decide)).mono ?_; rintro e w1 ⟨rfl, n2, rfl⟩))
  exact bodyPost_ret (v := .tuple #[.agg #[.int .u8 0, .string ⟨#[]⟩], .string ⟨#[]⟩, .int .i64 er]) (by simp [results, Try.results32, go_sem]) rfl ⟨by rw [H.out]; rfl, ((below_draw ((Below.refl _ _).alloc (Nat.le_refl _) _) _).setCell (by simp) _).setCell (by simp) _⟩

set_option maxRecDepth 100000 in
theorem r2next_end (k : UInt8) (r t : List UInt8) (n : Nat) (w : World) (hr : (k :: r).length ≤ 140737488350000) (h : Leb.takeM r 1048576 = (n, t, 0)) (he : t.length < 4 + n) :
    Calls Try.prog 32 #[.string (bs (k :: r))] w fun e w' => e = .returned (nextV (Fr.next (k :: r))) ∧ Below w.heap.size w w' := by
  have H := Lib.hid (Fr.next_end (k := k) h he)
  obtain ⟨m1, m2, m3, m4, m5⟩ := Leb.takeM_small h (by decide)
  have m6 := m4 rfl
  have m7 : n ≤ 1048576 := by omega
  have HM := Lib.hid (show Leb.takeM (bs r).data.toList 1048576 = (n, t, 0) from h)
  have h0 := bs_cons_ne k r
  have h1 := bs_cons_pos k r
  have hx := bs_drop (k :: r) 1
  rw [List.drop_one, List.tail_cons] at hx
  have z1 : (bs r).size ≤ maxLen := by rw [bs_size]; simp at hr; unfold maxLen; omega
  have z2 : (bs t).size < 4 + n := by rw [bs_size]; omega
  clear h m4 m5 m6
  go_enter Try.func32, Try.ntmps32
  go_wp2_with (first
    | (go_at_call 27; refine (rtakeM_is HM.out _ z1 (by decide) (by decide)).mono ?_; rintro e w1 ⟨rfl, n2, rfl⟩))
  exact bodyPost_ret (v := .tuple #[.agg #[.int .u8 0, .string ⟨#[]⟩], .string ⟨#[]⟩, .int .i64 2]) (by simp [results, Try.results32, go_sem]) rfl ⟨by rw [H.out]; rfl, ((below_draw ((Below.refl _ _).alloc (Nat.le_refl _) _) _).setCell (by simp) _).setCell (by simp) _⟩

set_option maxRecDepth 100000 in
theorem r2next_sum (k : UInt8) (r t : List UInt8) (n : Nat) (w : World) (hr : (k :: r).length ≤ 140737488350000) (h : Leb.takeM r 1048576 = (n, t, 0)) (he : ¬ t.length < 4 + n) (hs : Fr.rsum k ((t.drop 4).take n) ≠ Fr.gk t 4) :
    Calls Try.prog 32 #[.string (bs (k :: r))] w fun e w' => e = .returned (nextV (Fr.next (k :: r))) ∧ Below w.heap.size w w' := by
  have H := Lib.hid (Fr.next_sum h he hs)
  obtain ⟨m1, m2, m3, m4, m5⟩ := Leb.takeM_small h (by decide)
  have HM := Lib.hid (show Leb.takeM (bs r).data.toList 1048576 = (n, t, 0) from h)
  have R1 := Fr.rec_there (k := k) h he
  have R2 := Fr.rec_is (k := k) h he
  obtain ⟨d, hd⟩ : ∃ d, d = (t.drop 4).take n := ⟨_, rfl⟩
  rw [← hd] at hs R1 R2
  have hdl : d.length ≤ 140737488350000 := by rw [hd, List.length_take, List.length_drop]; simp at hr; omega
  have z1 : (bs r).size ≤ maxLen := by rw [bs_size]; simp at hr; unfold maxLen; omega
  have z2 : 4 + n ≤ (bs t).size := by rw [bs_size]; omega
  have z3 : (bs t).size ≤ 140737488350000 := by rw [bs_size]; simp at hr; omega
  have hx4 := bs_mid t n d hd
  obtain ⟨x, hx⟩ : ∃ x, x = Fr.rec k d := ⟨_, rfl⟩
  rw [← hx] at R1 R2
  have hxs : (bs x).size ≤ (bs (k :: r)).size := by rw [bs_size, bs_size]; exact R1.1
  have hne : ((bs x).toList == ((bs (k :: r)).extract 0 (bs x).size).toList) = false := by
    rw [extract_bs0, bs_list, bs_toList, bs_toList, bs_size]
    have : x ≠ (k :: r).take x.length := fun e => hs (R2.1 e)
    simpa using this
  have C1 := Lib.hid (fun W => show Calls Try.prog 37 #[.agg #[.int .u8 k.toNat, .string (bs d)]] W (fun e w' => e = .returned (.string (bs x)) ∧ Below W.heap.size W w') by rw [hx]; exact r2bytes_any k d W hdl)
  have h0 := bs_cons_ne k r
  have h1 := bs_cons_pos k r
  have hx1 := bs_drop (k :: r) 1
  rw [List.drop_one, List.tail_cons] at hx1
  have hix := bs_cons_at k r
  clear h he hs hd hx m4 m5 R1 R2
  go_enter Try.func32, Try.ntmps32
  go_wp2_with (first
    | (go_at_call 27; refine (rtakeM_is HM.out _ z1 (by decide) (by decide)).mono ?_; rintro e w1 ⟨rfl, n2, rfl⟩))
  go_region
  all_goals go_wp2_with (go_at_call 37; refine (C1.out _).mono ?_; rintro e w3 ⟨rfl, b3⟩; have p0 := b3.cell (p := ⟨w.heap.size, 0, none⟩) (by simp <;> omega); have p1 := b3.cell (p := ⟨w.heap.size, 1, none⟩) (by simp <;> omega); have f0 := b3.frozen (p := ⟨w.heap.size, 0, none⟩) (by simp <;> omega); have f1 := b3.frozen (p := ⟨w.heap.size, 1, none⟩) (by simp <;> omega); simp [go_sem] at p0 p1 f0 f1)
  have hbel : Below w.heap.size w w3 := ((below_draw ((Below.refl _ _).alloc (Nat.le_refl _) _) _).alloc (by simp) _).trans (b3.mono (by simp <;> omega))
  exact bodyPost_ret (v := .tuple #[.agg #[.int .u8 0, .string ⟨#[]⟩], .string ⟨#[]⟩, .int .i64 4]) (by simp [results, Try.results32, go_sem, p0, p1]) rfl ⟨by rw [H.out]; rfl, (hbel.setCell (Nat.le_refl _) _).setCell (Nat.le_refl _) _⟩

set_option maxRecDepth 100000 in
theorem r2next_ok (k : UInt8) (r t : List UInt8) (n : Nat) (w : World) (hr : (k :: r).length ≤ 140737488350000) (h : Leb.takeM r 1048576 = (n, t, 0)) (he : ¬ t.length < 4 + n) (hs : Fr.rsum k ((t.drop 4).take n) = Fr.gk t 4) :
    Calls Try.prog 32 #[.string (bs (k :: r))] w fun e w' => e = .returned (nextV (Fr.next (k :: r))) ∧ Below w.heap.size w w' := by
  have H := Lib.hid (Fr.next_ok h he hs)
  obtain ⟨m1, m2, m3, m4, m5⟩ := Leb.takeM_small h (by decide)
  have HM := Lib.hid (show Leb.takeM (bs r).data.toList 1048576 = (n, t, 0) from h)
  have R1 := Fr.rec_there (k := k) h he
  have R2 := Fr.rec_is (k := k) h he
  obtain ⟨d, hd⟩ : ∃ d, d = (t.drop 4).take n := ⟨_, rfl⟩
  rw [← hd] at hs R1 R2 H
  have hdl : d.length ≤ 140737488350000 := by rw [hd, List.length_take, List.length_drop]; simp at hr; omega
  have z1 : (bs r).size ≤ maxLen := by rw [bs_size]; simp at hr; unfold maxLen; omega
  have z2 : 4 + n ≤ (bs t).size := by rw [bs_size]; omega
  have z3 : (bs t).size ≤ 140737488350000 := by rw [bs_size]; simp at hr; omega
  have hx4 := bs_mid t n d hd
  obtain ⟨x, hx⟩ : ∃ x, x = Fr.rec k d := ⟨_, rfl⟩
  rw [← hx] at R1 R2
  have hxs : (bs x).size ≤ (bs (k :: r)).size := by rw [bs_size, bs_size]; exact R1.1
  have hxe : (bs (k :: r)).extract 0 (bs x).size = bs x := by
    rw [extract_bs0, bs_list, bs_size, ← R2.2 hs]
  obtain ⟨rest, hrest⟩ : ∃ rest, rest = t.drop (4 + n) := ⟨_, rfl⟩
  have hxr : (bs (k :: r)).extract (bs x).size (bs (k :: r)).size = bs rest := by
    rw [extract_bs, bs_list, bs_size, R1.2.2, hrest]
  rw [← hrest] at H
  have C1 := Lib.hid (fun W => show Calls Try.prog 37 #[.agg #[.int .u8 k.toNat, .string (bs d)]] W (fun e w' => e = .returned (.string (bs x)) ∧ Below W.heap.size W w') by rw [hx]; exact r2bytes_any k d W hdl)
  have h0 := bs_cons_ne k r
  have h1 := bs_cons_pos k r
  have hx1 := bs_drop (k :: r) 1
  rw [List.drop_one, List.tail_cons] at hx1
  have hix := bs_cons_at k r
  clear h he hs hd hx m4 m5 R1 R2 hrest
  go_enter Try.func32, Try.ntmps32
  go_wp2_with (first
    | (go_at_call 27; refine (rtakeM_is HM.out _ z1 (by decide) (by decide)).mono ?_; rintro e w1 ⟨rfl, n2, rfl⟩))
  go_region
  all_goals go_wp2_with (go_at_call 37; refine (C1.out _).mono ?_; rintro e w3 ⟨rfl, b3⟩; have p0 := b3.cell (p := ⟨w.heap.size, 0, none⟩) (by simp <;> omega); have p1 := b3.cell (p := ⟨w.heap.size, 1, none⟩) (by simp <;> omega); have p2 := b3.cell (p := ⟨w.heap.size + 1, 0, none⟩) (by simp <;> omega); have p3 := b3.cell (p := ⟨w.heap.size + 1, 1, none⟩) (by simp <;> omega); have f0 := b3.frozen (p := ⟨w.heap.size, 0, none⟩) (by simp <;> omega); have f1 := b3.frozen (p := ⟨w.heap.size, 1, none⟩) (by simp <;> omega); simp [go_sem] at p0 p1 p2 p3 f0 f1; have hz := b3.size; simp at hz)
  all_goals go_region
  all_goals go_wp2
  have hbel : Below w.heap.size w w3 := ((below_draw ((Below.refl _ _).alloc (Nat.le_refl _) _) _).alloc (by simp) _).trans (b3.mono (by simp <;> omega))
  exact bodyPost_ret (v := .tuple #[.agg #[.int .u8 k.toNat, .string (bs d)], .string (bs rest), .int .i64 0]) (by simp [results, Try.results32, go_sem, p0, p1]) rfl ⟨by rw [H.out]; rfl, ((hbel.setCell (Nat.le_refl _) _).setCell (Nat.le_refl _) _).drew⟩

theorem r2next_any (s : List UInt8) (w : World) (hs : s.length ≤ 140737488350000) :
    Calls Try.prog 32 #[.string (bs s)] w fun e w' => e = .returned (nextV (Fr.next s)) ∧ Below w.heap.size w w' := by
  cases s with
  | nil => exact r2next_none w
  | cons k r =>
    obtain ⟨n, t, er, h⟩ : ∃ n t er, Leb.takeM r 1048576 = (n, t, er) := ⟨_, _, _, rfl⟩
    by_cases he : er = 0
    · subst he
      by_cases hl : t.length < 4 + n
      · exact r2next_end k r t n w hs h hl
      · by_cases hq : Fr.rsum k ((t.drop 4).take n) = Fr.gk t 4
        · exact r2next_ok k r t n w hs h hl hq
        · exact r2next_sum k r t n w hs h hl hq
    · exact r2next_no k r t n er w hs h he
#print axioms r2next_any
end Go.Proofs.Ytbebgdjlabincaa
