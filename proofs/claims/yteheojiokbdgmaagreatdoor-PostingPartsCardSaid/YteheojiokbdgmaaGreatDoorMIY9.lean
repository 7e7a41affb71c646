/- Layer 12: the document's Texts, and the statements' texts, walked. -/
import Derived.Test.YteheojiokbdgmaaGreatDoorMIY8
import Derived.Deep.RegionHeld3
namespace Go.Proofs.YteheojiokbdgmaaGreatDoor
open Go.RowKit Go.Lib
set_option linter.unusedVariables false

/-- The cells of texts. -/
def stc (l : List (List UInt8)) : List Value := l.map fun s => Value.string (bs s)
theorem stc_len (l : List (List UInt8)) : (stc l).length = l.length := by simp [stc]
theorem stc_append (l m : List (List UInt8)) : stc (l ++ m) = stc l ++ stc m := by simp [stc]
theorem stc_one (l : List (List UInt8)) : ∀ v ∈ stc l, v.oneCell' = true := by
  intro v hv
  simp only [stc, List.mem_map] at hv
  obtain ⟨n, _, rfl⟩ := hv
  rfl
theorem stc_at (l : List (List UInt8)) (i : Nat) (s : List UInt8) (h : l[i]? = some s) : (stc l)[i]? = some (.string (bs s)) := by simp [stc, h]
theorem bi_str : (Tryz.prog.info? 9).map (fun i => (i.zero, i.size, i.bytes)) = some (some (.string ⟨#[]⟩), 1, 16) := by kernel_rfl
/-- The answer is a list of these texts, in new memory. -/
def NewS (w : World) (l : List (List UInt8)) (e : Ending) (w' : World) : Prop := ∃ v, e = .returned v ∧ Sl w' w.heap.size 1 v l.length (stc l) ∧ Below w.heap.size w w'

set_option maxHeartbeats 2000000 in
set_option maxRecDepth 100000 in
theorem rtexts_any (v : Value) (l : List (List UInt8)) (s : List UInt8) (w : World) (h : Rd w 1 v l.length (stc l)) (hl : l.length ≤ 100000) :
    Calls Tryz.prog 29 #[v, .string (bs s)] w (NewS w (insT s l)) := by
  have hT := bs_toList
  obtain ⟨i0, hi, hz0, hz1, hz2⟩ := info_parts bi_str
  have Hz := Lib.hid hz0; have Hs := Lib.hid hz1; have Hb := Lib.hid hz2; have Hi := Lib.hid hi
  clear hz0 hz1 hz2 hi
  have HPF := Lib.hid (txtF_is s l)
  obtain ⟨_, a, cap, g, off, rfl, hg, hc⟩ := h
  obtain ⟨N, hN⟩ : ∃ N, N = l.length := ⟨_, rfl⟩
  rw [← hN] at hg hc hl
  rw [← hN]
  have HN := Lib.hid hN
  have HC := Lib.hid hc
  have HG := Lib.hid hg
  have B1 := Lib.hid (show Below w.heap.size w (w.alloc (.cells #[] 9)) from (Below.refl _ _).alloc (Nat.le_refl _) _)
  clear hN hc hg
  go_enter Tryz.func29, Tryz.ntmps29
  go_wp2_with fail
  go_loopw [5, 6, 12] (fun o' d' i' wr => ∃ (i m og oo oc : Nat) (d : Bool), i' = .int .i64 i ∧ i ≤ N ∧ m ≤ i + 1 ∧ Hid (d = false → m ≤ i) ∧ d' = .bool d ∧ o' = .slice (some ⟨og, oo, none⟩) m oc ∧ Hid ((txtF s (l.take i)).2.length = m ∧ (txtF s (l.take i)).1 = d) ∧ Sl wr w.heap.size 1 (.slice (some ⟨og, oo, none⟩) m oc) m (stc (txtF s (l.take i)).2) ∧ Below w.heap.size w wr) (fun _ _ i' _ => N - (RowKit.intOf i').toNat)
  case atStart => exact ⟨0, 0, _, _, _, false, rfl, by omega, by omega, (fun _ => Nat.le_refl _), rfl, rfl, ⟨rfl, rfl⟩, Sl.lit w w.heap.size 1 0 #[] _ (Nat.le_refl _) (by decide) rfl, B1.out⟩
  case round =>
    obtain ⟨W0, rfl⟩ : ∃ W0, W0 = wr := ⟨_, rfl⟩
    obtain ⟨i, m, og, oo, oc, d, rfl, hi, hmi, hmd, rfl, rfl, hml, hs, hb⟩ := hrel
    have HML := Lib.hid hml.out; have HS := Lib.hid hs; have HB := Lib.hid hb; have HMD := Lib.hid hmd.out
    have hbz := hb.size
    by_cases hlt : i < N
    · obtain ⟨rfl, hgl⟩ := HG.out (by omega)
      obtain ⟨x, hx⟩ : ∃ x, l[i]? = some x := ⟨l[i]'(by have := HN.out; omega), List.getElem?_eq_getElem (by have := HN.out; omega)⟩
      have c0 := (hb.cell (p := ⟨g, off + i, none⟩) hgl).trans ((HC.out i (by omega)).trans (stc_at l i x hx))
      obtain ⟨F, hF⟩ : ∃ F, F = txtF s (l.take i) := ⟨_, rfl⟩
      have HST := Lib.hid (show txtF s (l.take (i + 1)) = stepT s F x by rw [List.take_add_one, hx, hF]; exact txtF_snoc s _ x)
      have HM2 := Lib.hid (show F.2.length = m ∧ F.1 = d by rw [hF]; exact HML.out)
      have HS2 := Lib.hid (show Sl W0 w.heap.size 1 (.slice (some ⟨og, oo, none⟩) m oc) m (stc F.2) by rw [hF]; exact HS.out)
      have hil : (i : Int) < N := by omega
      clear hx hml hs hb hF hmd HS HML
      by_cases he : x = s
      case' pos =>
        have hbq : (x == s) = true := by simpa using he
        have HQ := Lib.hid (show txtF s (l.take (i + 1)) = (true, F.2 ++ [x]) by rw [HST.out]; unfold stepT; rw [if_pos (.inr he)])
        obtain ⟨D, hD⟩ : ∃ D : Bool, D = true := ⟨_, rfl⟩
        clear he hD D
        go_wp2_with (at_builtin; go_loud (refine wpList_append_sl2 _ rfl _ _ 40 rfl w.heap.size 9 i0 (.string ⟨#[]⟩) 1 16 Tryz.underlying40 Hi.out Hz.out Hs.out Hb.out rfl (by decide) _ m _ rfl (HS2.out.alloc _) _ _ 1 _ rfl (Sl.lit W0 w.heap.size 1 1 #[_] _ hbz (by decide) rfl) (stc_one [x]) (by unfold maxLen; omega) (by omega) (by simp; omega) ?_; intro v5 w5 x5; obtain ⟨g5, o5, c5, rfl, -⟩ := x5.now.somewhere (by omega); have bb5 := Lib.hid ((HB.out.alloc hbz _).trans (x5.below (Nat.le_refl _) (by simp; omega))); have X5 := Lib.hid x5; clear x5))
        exact ⟨⟨i + 1, m + 1, g5, o5, c5, true, by simp, by omega, by omega, (fun h => by cases h), rfl, rfl, by rw [HQ.out]; exact ⟨by rw [List.length_append, HM2.out.1]; rfl, rfl⟩, by rw [HQ.out, stc_append]; exact X5.out.now, bb5.out⟩, by simp [RowKit.intOf]; omega⟩
      have hbq : (x == s) = false := by simpa using he
      cases d with
      | true =>
        have HQ := Lib.hid (show txtF s (l.take (i + 1)) = (true, F.2 ++ [x]) by rw [HST.out]; unfold stepT; rw [if_pos (.inl HM2.out.2)])
        clear he
        go_wp2_with (at_builtin; go_loud (refine wpList_append_sl2 _ rfl _ _ 40 rfl w.heap.size 9 i0 (.string ⟨#[]⟩) 1 16 Tryz.underlying40 Hi.out Hz.out Hs.out Hb.out rfl (by decide) _ m _ rfl (HS2.out.alloc _) _ _ 1 _ rfl (Sl.lit W0 w.heap.size 1 1 #[_] _ hbz (by decide) rfl) (stc_one [x]) (by unfold maxLen; omega) (by omega) (by simp; omega) ?_; intro v5 w5 x5; obtain ⟨g5, o5, c5, rfl, -⟩ := x5.now.somewhere (by omega); have bb5 := Lib.hid ((HB.out.alloc hbz _).trans (x5.below (Nat.le_refl _) (by simp; omega))); have X5 := Lib.hid x5; clear x5))
        exact ⟨⟨i + 1, m + 1, g5, o5, c5, true, by simp, by omega, by omega, (fun h => by cases h), rfl, rfl, by rw [HQ.out]; exact ⟨by rw [List.length_append, HM2.out.1]; rfl, rfl⟩, by rw [HQ.out, stc_append]; exact X5.out.now, bb5.out⟩, by simp [RowKit.intOf]; omega⟩
      | false =>
        have hne : ¬ (F.1 = true ∨ x = s) := by rw [HM2.out.2]; simp [he]
        by_cases hxy : s < x
        · have hcp := lessT hxy
          have hcp2 := lessF (fun h => bytes_lt_irrefl _ (bytes_lt_trans hxy h))
          have HQ := Lib.hid (show txtF s (l.take (i + 1)) = (true, F.2 ++ [s] ++ [x]) by rw [HST.out]; unfold stepT; rw [if_neg hne, if_pos hxy])
          have hm2 : m ≤ i := HMD.out rfl
          clear hxy he hne
          go_wp2_with (first
            | (at_builtin; refine wpList_append_sl2 _ rfl _ _ 40 rfl w.heap.size 9 i0 (.string ⟨#[]⟩) 1 16 Tryz.underlying40 Hi.out Hz.out Hs.out Hb.out rfl (by decide) _ m _ rfl (HS2.out.alloc _) _ _ 1 _ rfl (Sl.lit W0 w.heap.size 1 1 #[_] _ hbz (by decide) rfl) (stc_one [s]) (by unfold maxLen; omega) (by omega) (by simp; omega) ?_; intro v5 w5 x5; obtain ⟨g5, o5, c5, rfl, -⟩ := x5.now.somewhere (by omega); have bb5 := Lib.hid ((HB.out.alloc hbz _).trans (x5.below (Nat.le_refl _) (by simp; omega))); have zz5 := bb5.out.size; have X5 := Lib.hid x5; clear x5)
            | (at_builtin; refine wpList_append_sl2 _ rfl _ _ 40 rfl w.heap.size 9 i0 (.string ⟨#[]⟩) 1 16 Tryz.underlying40 Hi.out Hz.out Hs.out Hb.out rfl (by decide) _ (m + 1) _ rfl (X5.out.now.alloc _) _ _ 1 _ rfl (Sl.lit w5 w.heap.size 1 1 #[_] _ zz5 (by decide) rfl) (stc_one [x]) (by unfold maxLen; omega) (by omega) (by simp; omega) ?_; intro v6 w6 x6; obtain ⟨g6, o6, c6, rfl, -⟩ := x6.now.somewhere (by omega); have bb6 := Lib.hid ((bb5.out.alloc zz5 _).trans (x6.below (Nat.le_refl _) (by simp; omega))); have X6 := Lib.hid x6; clear x6))
          exact ⟨⟨i + 1, m + 1 + 1, g6, o6, c6, true, by simp, by omega, by omega, (fun h => by cases h), rfl, rfl, by rw [HQ.out]; exact ⟨by rw [List.length_append, List.length_append, HM2.out.1]; rfl, rfl⟩, by rw [HQ.out, stc_append, stc_append]; exact X6.out.now, bb6.out⟩, by simp [RowKit.intOf]; omega⟩
        · have hcp := lessF hxy
          have hcp2 := lessT (show x < s from (bytes_tri x s).elim id fun h => h.elim (fun h => absurd h he) fun h => absurd h hxy)
          have HQ := Lib.hid (show txtF s (l.take (i + 1)) = (false, F.2 ++ [x]) by rw [HST.out]; unfold stepT; rw [if_neg hne, if_neg hxy])
          have hm2 : m ≤ i := HMD.out rfl
          clear hxy he hne
          go_wp2_with (at_builtin; go_loud (refine wpList_append_sl2 _ rfl _ _ 40 rfl w.heap.size 9 i0 (.string ⟨#[]⟩) 1 16 Tryz.underlying40 Hi.out Hz.out Hs.out Hb.out rfl (by decide) _ m _ rfl (HS2.out.alloc _) _ _ 1 _ rfl (Sl.lit W0 w.heap.size 1 1 #[_] _ hbz (by decide) rfl) (stc_one [x]) (by unfold maxLen; omega) (by omega) (by simp; omega) ?_; intro v5 w5 x5; obtain ⟨g5, o5, c5, rfl, -⟩ := x5.now.somewhere (by omega); have bb5 := Lib.hid ((HB.out.alloc hbz _).trans (x5.below (Nat.le_refl _) (by simp; omega))); have X5 := Lib.hid x5; clear x5))
          exact ⟨⟨i + 1, m + 1, g5, o5, c5, false, by simp, by omega, by omega, (fun _ => by omega), rfl, rfl, by rw [HQ.out]; exact ⟨by rw [List.length_append, HM2.out.1]; rfl, rfl⟩, by rw [HQ.out, stc_append]; exact X5.out.now, bb5.out⟩, by simp [RowKit.intOf]; omega⟩
    · have hil : ¬ (i : Int) < N := by omega
      have hall : l.take i = l := List.take_of_length_le (by have := HN.out; omega)
      have HM2 := Lib.hid (show (txtF s l).2.length = m ∧ (txtF s l).1 = d by have := HML.out; rw [hall] at this; exact this)
      have HS2 := Lib.hid (show Sl W0 w.heap.size 1 (.slice (some ⟨og, oo, none⟩) m oc) m (stc (txtF s l).2) by have := HS.out; rw [hall] at this; exact this)
      clear hall hml hs hb HS HML
      cases d with
      | true =>
        have HQ := Lib.hid (show (txtF s l).2 = insT s l by have := HPF.out; rw [HM2.out.2, if_pos rfl] at this; exact this)
        go_wp2_with fail
        go_ret
        exact ⟨_, rfl, by rw [← HQ.out, HM2.out.1]; exact HS2.out, HB.out⟩
      | false =>
        have HQ := Lib.hid (show (txtF s l).2 ++ [s] = insT s l by have := HPF.out; rw [HM2.out.2, if_neg (by simp)] at this; exact this)
        go_wp2_with (at_builtin; go_loud (refine wpList_append_sl2 _ rfl _ _ 40 rfl w.heap.size 9 i0 (.string ⟨#[]⟩) 1 16 Tryz.underlying40 Hi.out Hz.out Hs.out Hb.out rfl (by decide) _ m _ rfl (HS2.out.alloc _) _ _ 1 _ rfl (Sl.lit W0 w.heap.size 1 1 #[_] _ hbz (by decide) rfl) (stc_one [s]) (by unfold maxLen; omega) (by omega) (by simp; omega) ?_; intro v5 w5 x5; obtain ⟨g5, o5, c5, rfl, -⟩ := x5.now.somewhere (by omega); have bb5 := Lib.hid ((HB.out.alloc hbz _).trans (x5.below (Nat.le_refl _) (by simp; omega))); have X5 := Lib.hid x5; clear x5))
        go_ret
        exact ⟨_, rfl, by rw [← HQ.out, List.length_append, HM2.out.1, stc_append]; exact X5.out.now, bb5.out⟩

set_option maxHeartbeats 1000000 in
set_option maxRecDepth 100000 in
theorem texts_any (v u : Value) (l : List (List UInt8)) (w : World) (h : Rd w 1 v l.length (stc l)) (k : Rd w 1 u l.length (stc l)) (hl : l.length ≤ 100000) :
    Calls Tryz.prog 11 #[v, u] w fun e w' => e = .returned (.bool true) ∧ Below w.heap.size w w' := by
  have hT := bs_toList
  obtain ⟨_, a, cap, g, off, rfl, hg, hc⟩ := h
  obtain ⟨_, b, cap2, g2, off2, rfl, hg2, hc2⟩ := k
  obtain ⟨n, hn⟩ : ∃ n, n = l.length := ⟨_, rfl⟩
  rw [← hn] at hg hc hl hg2 hc2 ⊢
  have HN := Lib.hid hn
  have HG := Lib.hid hg; have HC := Lib.hid hc; have HG2 := Lib.hid hg2; have HC2 := Lib.hid hc2
  clear hn hg hc hg2 hc2
  go_enter Tryz.func11, Tryz.ntmps11
  go_wp2_with fail
  go_loopw [13] (fun i' wr => ∃ (i : Nat), i' = .int .i64 i ∧ i ≤ n ∧ Below w.heap.size w wr) (fun i' _ => n - (RowKit.intOf i').toNat)
  case atStart => exact ⟨0, rfl, by omega, Below.refl _ _⟩
  case round =>
    obtain ⟨i, rfl, hi, hb⟩ := hrel
    have HB := Lib.hid hb
    by_cases hlt : i < n
    · obtain ⟨rfl, hgl⟩ := HG.out (by omega)
      obtain ⟨rfl, hgl2⟩ := HG2.out (by omega)
      obtain ⟨x, hx⟩ : ∃ x, l[i]? = some x := ⟨l[i]'(by have := HN.out; omega), List.getElem?_eq_getElem (by have := HN.out; omega)⟩
      have q0 := ((hb.cell (p := ⟨g, off + i, none⟩) hgl).trans (HC.out i (by omega))).trans (stc_at l i x hx)
      have q1 := ((hb.cell (p := ⟨g2, off2 + i, none⟩) hgl2).trans (HC2.out i (by omega))).trans (stc_at l i x hx)
      have hil : (i : Int) < n := by omega
      have hil0 : (0 : Int) ≤ i := by omega
      have hbq : (x == x) = true := by simp
      clear hb hx
      go_wp2
      go_quiet (fail)
      go_wp2
      exact ⟨⟨i + 1, by simp, by omega, below_draw HB.out _⟩, by simp [RowKit.intOf]; omega⟩
    · have hil : ¬ (i : Int) < n := by omega
      clear hb
      go_wp2
      go_ret
      exact ⟨rfl, HB.out⟩
end Go.Proofs.YteheojiokbdgmaaGreatDoor
