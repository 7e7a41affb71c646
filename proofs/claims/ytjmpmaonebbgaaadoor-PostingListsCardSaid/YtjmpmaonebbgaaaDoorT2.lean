/- Layer 12: the document's Put, walked. -/
import Derived.Test.YtjmpmaonebbgaaaDoorT1
namespace Go.Proofs.YtjmpmaonebbgaaaDoor
open Go.RowKit Go.Lib

/-- The loop that puts one more in: is it in, what is laid out. -/
def stepN (n : Int) (r : Bool × List Int) (x : Int) : Bool × List Int := if r.1 = false ∧ n < x then (true, r.2 ++ [n, x]) else (r.1, r.2 ++ [x])
def putF (n : Int) (b : Bool) (l : List Int) : Bool × List Int := l.foldl (stepN n) (b, [])
theorem putF_snoc (n : Int) (b : Bool) (l : List Int) (x : Int) : putF n b (l ++ [x]) = stepN n (putF n b l) x := by simp [putF, List.foldl_append]
theorem putF_in (n : Int) : ∀ (l acc : List Int), l.foldl (stepN n) (true, acc) = (true, acc ++ l)
  | [], acc => by simp
  | x :: r, acc => by rw [List.foldl_cons, stepN, if_neg (by simp), putF_in n r]; simp
theorem putF_go (n : Int) : ∀ (l acc : List Int), (if (l.foldl (stepN n) (false, acc)).1 = true then (l.foldl (stepN n) (false, acc)).2 else (l.foldl (stepN n) (false, acc)).2 ++ [n]) = acc ++ insZ n l
  | [], acc => by simp [insZ]
  | x :: r, acc => by
    rw [List.foldl_cons]
    by_cases h : n < x
    · have e : stepN n (false, acc) x = (true, acc ++ [n, x]) := by unfold stepN; rw [if_pos ⟨rfl, h⟩]
      rw [e, putF_in n r, insZ, if_pos h]; simp
    · have e : stepN n (false, acc) x = (false, acc ++ [x]) := by unfold stepN; rw [if_neg (by simp [h])]
      rw [e, putF_go n r, insZ, if_neg h]; simp
theorem putF_is (n : Int) (l : List Int) : (if (putF n (decide (n ∈ l)) l).1 = true then (putF n (decide (n ∈ l)) l).2 else (putF n (decide (n ∈ l)) l).2 ++ [n]) = putZ l n := by
  unfold putZ
  by_cases h : n ∈ l
  · rw [if_pos h, decide_eq_true h, putF, putF_in n l]; simp
  · rw [if_neg h, decide_eq_false h]
    have := putF_go n l []
    rw [List.nil_append] at this
    exact this

set_option maxHeartbeats 2000000 in
set_option maxRecDepth 100000 in
theorem rput_any (v : Value) (l : List Int) (n : Int) (w : World) (h : Ns w v l) :
    Calls Tryd.prog 28 #[v, .int .i64 n] w (NewN w (putZ l n)) := by
  obtain ⟨i0, hi, hz0, hz1, hz2⟩ := info_parts bi_int
  have Hz := Lib.hid hz0; have Hs := Lib.hid hz1; have Hb := Lib.hid hz2; have Hi := Lib.hid hi
  clear hz0 hz1 hz2 hi
  obtain ⟨b0, hb0⟩ : ∃ b0, b0 = decide (n ∈ l) := ⟨_, rfl⟩
  have RI := Lib.hid (fun W (b : Below w.heap.size w W) => show Calls Tryd.prog 24 #[v, .int .i64 n] W (fun e w' => e = .returned (.bool b0) ∧ W = w') by rw [hb0]; exact rin_any v l n W (h.on b))
  have HPF := Lib.hid (show (if (putF n b0 l).1 = true then (putF n b0 l).2 else (putF n b0 l).2 ++ [n]) = putZ l n by rw [hb0]; exact putF_is n l)
  obtain ⟨⟨_, a, cap, g, off, rfl, hg, hc⟩, hl⟩ := h
  obtain ⟨N, hN⟩ : ∃ N, N = l.length := ⟨_, rfl⟩
  rw [← hN] at hg hc hl RI
  rw [← hN]
  have HN := Lib.hid hN
  have HC := Lib.hid hc
  have HG := Lib.hid hg
  have B1 := Lib.hid (show Below w.heap.size w (w.alloc (.cells #[] 3)) from (Below.refl _ _).alloc (Nat.le_refl _) _)
  clear hN hc hg hb0
  go_enter Tryd.func28, Tryd.ntmps28
  go_wp2_with fail
  refine (RI.out _ B1.out).mono ?_
  rintro e _ ⟨rfl, rfl⟩
  go_wp2_with fail
  go_loopw [5, 6, 15] (fun o' d' i' wr => ∃ (i m og oo oc : Nat) (d : Bool), i' = .int .i64 i ∧ i ≤ N ∧ m ≤ i + 1 ∧ Hid (d = false → m ≤ i) ∧ d' = .bool d ∧ o' = .slice (some ⟨og, oo, none⟩) m oc ∧ Hid ((putF n b0 (l.take i)).2.length = m ∧ (putF n b0 (l.take i)).1 = d) ∧ Sl wr w.heap.size 1 (.slice (some ⟨og, oo, none⟩) m oc) m (ic (putF n b0 (l.take i)).2) ∧ Below w.heap.size w wr) (fun _ _ i' _ => N - (RowKit.intOf i').toNat)
  case atStart => exact ⟨0, 0, _, _, _, b0, rfl, by omega, by omega, (fun _ => Nat.le_refl _), rfl, rfl, ⟨rfl, rfl⟩, Sl.lit w w.heap.size 1 0 #[] _ (Nat.le_refl _) (by decide) rfl, B1.out⟩
  case round =>
    obtain ⟨W0, rfl⟩ : ∃ W0, W0 = wr := ⟨_, rfl⟩
    obtain ⟨i, m, og, oo, oc, d, rfl, hi, hmi, hmd, rfl, rfl, hml, hs, hb⟩ := hrel
    have HML := Lib.hid hml.out; have HS := Lib.hid hs; have HB := Lib.hid hb; have HMD := Lib.hid hmd.out
    have hbz := hb.size
    by_cases hlt : i < N
    · obtain ⟨rfl, hgl⟩ := HG.out (by omega)
      obtain ⟨x, hx⟩ : ∃ x, l[i]? = some x := ⟨l[i]'(by have := HN.out; omega), List.getElem?_eq_getElem (by have := HN.out; omega)⟩
      have c0 := (hb.cell (p := ⟨g, off + i, none⟩) hgl).trans ((HC.out i (by omega)).trans (ic_at l i x hx))
      obtain ⟨F, hF⟩ : ∃ F, F = putF n b0 (l.take i) := ⟨_, rfl⟩
      have HST := Lib.hid (show putF n b0 (l.take (i + 1)) = stepN n F x by rw [List.take_add_one, hx, hF]; exact putF_snoc n b0 _ x)
      have HM2 := Lib.hid (show F.2.length = m ∧ F.1 = d by rw [hF]; exact HML.out)
      have HS2 := Lib.hid (show Sl W0 w.heap.size 1 (.slice (some ⟨og, oo, none⟩) m oc) m (ic F.2) by rw [hF]; exact HS.out)
      have hil : (i : Int) < N := by omega
      clear hx hml hs hb hF hmd HS HML
      cases d with
      | true =>
        have HQ := Lib.hid (show putF n b0 (l.take (i + 1)) = (true, F.2 ++ [x]) by rw [HST.out]; unfold stepN; rw [HM2.out.2, if_neg (by simp)])
        go_wp2_with (at_builtin; go_loud (refine wpList_append_sl2 _ rfl _ _ 23 rfl w.heap.size 3 i0 (.int .i64 0) 1 8 Tryd.underlying23 Hi.out Hz.out Hs.out Hb.out rfl (by decide) _ m _ rfl (HS2.out.alloc _) _ _ 1 _ rfl (Sl.lit W0 w.heap.size 1 1 #[_] _ hbz (by decide) rfl) (ic_one [x]) (by unfold maxLen; omega) (by omega) (by simp; omega) ?_; intro v5 w5 x5; obtain ⟨g5, o5, c5, rfl, -⟩ := x5.now.somewhere (by omega); have bb5 := Lib.hid ((HB.out.alloc hbz _).trans (x5.below (Nat.le_refl _) (by simp; omega))); have X5 := Lib.hid x5; clear x5))
        exact ⟨⟨i + 1, m + 1, g5, o5, c5, true, by simp, by omega, by omega, (fun h => by cases h), rfl, rfl, by rw [HQ.out]; exact ⟨by rw [List.length_append, HM2.out.1]; rfl, rfl⟩, by rw [HQ.out, ic_append]; exact X5.out.now, bb5.out⟩, by simp [RowKit.intOf]; omega⟩
      | false =>
        by_cases hxy : n < x
        · have e1 : decide (n < x) = true := by simpa using hxy
          have HQ := Lib.hid (show putF n b0 (l.take (i + 1)) = (true, F.2 ++ [n] ++ [x]) by rw [HST.out]; unfold stepN; rw [HM2.out.2, if_pos ⟨rfl, hxy⟩]; simp)
          have hm2 : m ≤ i := HMD.out rfl
          clear hxy
          go_wp2_with (first
            | (at_builtin; refine wpList_append_sl2 _ rfl _ _ 23 rfl w.heap.size 3 i0 (.int .i64 0) 1 8 Tryd.underlying23 Hi.out Hz.out Hs.out Hb.out rfl (by decide) _ m _ rfl (HS2.out.alloc _) _ _ 1 _ rfl (Sl.lit W0 w.heap.size 1 1 #[_] _ hbz (by decide) rfl) (ic_one [n]) (by unfold maxLen; omega) (by omega) (by simp; omega) ?_; intro v5 w5 x5; obtain ⟨g5, o5, c5, rfl, -⟩ := x5.now.somewhere (by omega); have bb5 := Lib.hid ((HB.out.alloc hbz _).trans (x5.below (Nat.le_refl _) (by simp; omega))); have zz5 := bb5.out.size; have X5 := Lib.hid x5; clear x5)
            | (at_builtin; refine wpList_append_sl2 _ rfl _ _ 23 rfl w.heap.size 3 i0 (.int .i64 0) 1 8 Tryd.underlying23 Hi.out Hz.out Hs.out Hb.out rfl (by decide) _ (m + 1) _ rfl (X5.out.now.alloc _) _ _ 1 _ rfl (Sl.lit w5 w.heap.size 1 1 #[_] _ zz5 (by decide) rfl) (ic_one [x]) (by unfold maxLen; omega) (by omega) (by simp; omega) ?_; intro v6 w6 x6; obtain ⟨g6, o6, c6, rfl, -⟩ := x6.now.somewhere (by omega); have bb6 := Lib.hid ((bb5.out.alloc zz5 _).trans (x6.below (Nat.le_refl _) (by simp; omega))); have X6 := Lib.hid x6; clear x6))
          exact ⟨⟨i + 1, m + 1 + 1, g6, o6, c6, true, by simp, by omega, by omega, (fun h => by cases h), rfl, rfl, by rw [HQ.out]; exact ⟨by rw [List.length_append, List.length_append, HM2.out.1]; rfl, rfl⟩, by rw [HQ.out, ic_append, ic_append]; exact X6.out.now, bb6.out⟩, by simp [RowKit.intOf]; omega⟩
        · have e1 : decide (n < x) = false := by simpa using hxy
          have HQ := Lib.hid (show putF n b0 (l.take (i + 1)) = (false, F.2 ++ [x]) by rw [HST.out]; unfold stepN; rw [HM2.out.2, if_neg (by simp [hxy])])
          have hm2 : m ≤ i := HMD.out rfl
          clear hxy
          go_wp2_with (at_builtin; go_loud (refine wpList_append_sl2 _ rfl _ _ 23 rfl w.heap.size 3 i0 (.int .i64 0) 1 8 Tryd.underlying23 Hi.out Hz.out Hs.out Hb.out rfl (by decide) _ m _ rfl (HS2.out.alloc _) _ _ 1 _ rfl (Sl.lit W0 w.heap.size 1 1 #[_] _ hbz (by decide) rfl) (ic_one [x]) (by unfold maxLen; omega) (by omega) (by simp; omega) ?_; intro v5 w5 x5; obtain ⟨g5, o5, c5, rfl, -⟩ := x5.now.somewhere (by omega); have bb5 := Lib.hid ((HB.out.alloc hbz _).trans (x5.below (Nat.le_refl _) (by simp; omega))); have X5 := Lib.hid x5; clear x5))
          exact ⟨⟨i + 1, m + 1, g5, o5, c5, false, by simp, by omega, by omega, (fun _ => by omega), rfl, rfl, by rw [HQ.out]; exact ⟨by rw [List.length_append, HM2.out.1]; rfl, rfl⟩, by rw [HQ.out, ic_append]; exact X5.out.now, bb5.out⟩, by simp [RowKit.intOf]; omega⟩
    · have hil : ¬ (i : Int) < N := by omega
      have hall : l.take i = l := List.take_of_length_le (by have := HN.out; omega)
      have HM2 := Lib.hid (show (putF n b0 l).2.length = m ∧ (putF n b0 l).1 = d by have := HML.out; rw [hall] at this; exact this)
      have HS2 := Lib.hid (show Sl W0 w.heap.size 1 (.slice (some ⟨og, oo, none⟩) m oc) m (ic (putF n b0 l).2) by have := HS.out; rw [hall] at this; exact this)
      clear hall hml hs hb HS HML
      cases d with
      | true =>
        have HQ := Lib.hid (show (putF n b0 l).2 = putZ l n by have := HPF.out; rw [HM2.out.2, if_pos rfl] at this; exact this)
        go_wp2_with fail
        go_ret
        exact ⟨_, rfl, by rw [← HQ.out, HM2.out.1]; exact HS2.out, HB.out⟩
      | false =>
        have HQ := Lib.hid (show (putF n b0 l).2 ++ [n] = putZ l n by have := HPF.out; rw [HM2.out.2, if_neg (by simp)] at this; exact this)
        go_wp2_with (at_builtin; go_loud (refine wpList_append_sl2 _ rfl _ _ 23 rfl w.heap.size 3 i0 (.int .i64 0) 1 8 Tryd.underlying23 Hi.out Hz.out Hs.out Hb.out rfl (by decide) _ m _ rfl (HS2.out.alloc _) _ _ 1 _ rfl (Sl.lit W0 w.heap.size 1 1 #[_] _ hbz (by decide) rfl) (ic_one [n]) (by unfold maxLen; omega) (by omega) (by simp; omega) ?_; intro v5 w5 x5; obtain ⟨g5, o5, c5, rfl, -⟩ := x5.now.somewhere (by omega); have bb5 := Lib.hid ((HB.out.alloc hbz _).trans (x5.below (Nat.le_refl _) (by simp; omega))); have X5 := Lib.hid x5; clear x5))
        go_ret
        exact ⟨_, rfl, by rw [← HQ.out, List.length_append, HM2.out.1, ic_append]; exact X5.out.now, bb5.out⟩
end Go.Proofs.YtjmpmaonebbgaaaDoor
