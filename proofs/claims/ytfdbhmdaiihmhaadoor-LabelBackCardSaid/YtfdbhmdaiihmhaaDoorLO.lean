/- Layer 6: a set goes as a key and a text, and comes back. -/
import Derived.Test.YtfdbhmdaiihmhaaDoorLN
import Derived.Test.YtfdbhmdaiihmhaaDoorLA
import Derived.Test.YtfdbhmdaiihmhaaDoorB0
namespace Go.Proofs.YtfdbhmdaiihmhaaDoor
open Go.RowKit Go.Lib

theorem run_isnils (a : Option Addr) (n c : Nat) (w : World) : (binOp BinOp.eql 25 (.slice a n c) (.slice none 0 0)).run Tryd.prog w = .ok (.bool a.isNone) w := by
  have hu := run_underlying Tryd.underlying25
  have he : (Op.equal 25 (.slice a n c) (.slice none 0 0)).run Tryd.prog w = .ok a.isNone w := by
    show (Op.equalIn (9999 + 1) _ _ _).run _ _ = _
    unfold Op.equalIn
    simp only [Sem.run_bind, hu, Result.andThen]
    cases a <;> rfl
  simp [binOp, go_sem, he]
/-- Take at a key. -/
theorem take_key (ds : List Pr) (t : List UInt8) (w : World) (h : chk ds = true) (hl : (keyL ds ++ t).length ≤ 1000000) :
    Calls Tryd.prog 34 #[.string (bs (keyL ds ++ t))] w fun e w' => ∃ v, e = .returned (.tuple #[v, .string (bs t), .int .i64 0]) ∧ Below w.heap.size w w' ∧ Rd w' 2 v ds.length (prc ds) := by
  refine (take_lb _ w hl).mono ?_
  rintro e w' ⟨v, he, hb, _, h2⟩
  rw [tkS_key ds t h] at he h2
  exact ⟨v, he, hb, Rd.of_sl (h2 rfl)⟩
/-- Parse at a text. -/
theorem parse_txt (ds : List Pr) (w : World) (h : chk ds = true) (hv : ∀ x ∈ ds, 44 ∉ x.v) (hl : (txt ds).length ≤ 900000) :
    Calls Tryd.prog 32 #[.string (bs (txt ds))] w fun e w' => ∃ v, e = .returned (.tuple #[v, .int .i64 0]) ∧ Below w.heap.size w w' ∧ Rd w' 2 v ds.length (prc ds) := by
  refine (parse_lb _ w hl).mono ?_
  rintro e w' ⟨v, er, he, hb, hm⟩
  have hp : pairsL (parts 44 (txt ds)) = some ds := by
    cases ds with
    | nil => have := (chk_parts h).1; simp at this
    | cons p ds =>
      refine pairs_txt ds p fun x hx => ?_
      obtain ⟨a, _⟩ := chkR_mem _ _ (chk_parts h).2.2 x hx
      exact ⟨(nameB_not a).1, (nameB_not a).2, hv x hx⟩
  rw [hp] at hm
  simp only [sortP_chk ds h, h, if_true] at hm
  obtain ⟨rfl, hs⟩ := hm
  exact ⟨v, he, hb, Rd.of_sl hs⟩
theorem txt_small : ∀ (ds : List Pr), (∀ x ∈ ds, x.n.length ≤ 40 ∧ x.v.length ≤ 40) → (txt ds).length ≤ ds.length * 82 ∧ (txtR ds).length ≤ ds.length * 82
  | [], _ => by simp [txt, txtR]
  | p :: ds, h => by
    have ih := (txt_small ds fun x hx => h x (by simp [hx])).2
    obtain ⟨h1, h2⟩ := h p (by simp)
    constructor
    · simp only [txt, pairT, List.length_append, List.length_cons]; omega
    · simp only [txtR, pairT, List.length_append, List.length_cons]; omega

set_option maxHeartbeats 4000000 in
set_option maxRecDepth 100000 in
theorem back_any (a0 : Option Addr) (len0 cap0 : Nat) (z0 : List Pr) (s1 : ByteArray) (w : World) (m0 : len0 ≤ maxLen) (w0 : PrsAt w a0 len0 z0) :
    Calls Tryd.prog 6 #[.slice a0 len0 cap0, .string s1] w fun e w' => e = .returned (.bool true) ∧ Below w.heap.size w w' := by
  have HM := Lib.hid (made_any a0 len0 cap0 z0 w m0 w0)
  obtain ⟨t, ht, htl⟩ := cut_list s1 20
  have C1 := Lib.hid (fun W => cut_is s1 t 20 20 rfl ht W)
  have HAw := Lib.hid (fun W => lawake_any W)
  clear w0 ht
  go_enter Tryd.func6, Tryd.ntmps6
  go_wp2_with fail
  refine HM.out.mono ?_
  rintro e w1 ⟨v, rfl, b1, hv⟩
  go_wp2_with fail
  refine (C1.out _).mono ?_
  rintro e w2 ⟨rfl, rfl⟩
  go_wp2_with fail
  refine (HAw.out _).mono ?_
  rintro e w3 ⟨rfl, b3⟩
  have bb3 := below_step b1 b3
  rcases hv with rfl | ⟨ds, hs, hc, hcv⟩
  · have hq := fun W => run_isnils none 0 0 W
    clear b1 b3
    go_wp2_with fail
    refine (HAw.out _).mono ?_
    rintro e w4 ⟨rfl, b4⟩
    go_wp2
    go_ret
    exact ⟨rfl, below_step bb3 b4⟩
  · obtain ⟨h1, h2, h3⟩ := chk_parts hc
    have hsm : ∀ x ∈ ds, x.n.length ≤ 40 ∧ x.v.length ≤ 40 := fun x hx => by obtain ⟨a, b⟩ := chkR_mem ds _ h3 x hx; exact ⟨nameB_len a, valB_len b⟩
    have hkl := key_small ds (fun x hx => by have := hsm x hx; omega)
    have htx := (txt_small ds hsm).1
    have hul := (Leb.encU_len ds.length).2
    have hkl2 : (keyL ds).length ≤ 20000 := by unfold keyL; rw [List.length_append]; omega
    have hz : ds.length ≤ 8 := h2
    rcases hs.2 with ⟨_, h0⟩ | ⟨g, off, cap, rfl, _⟩
    · omega
    have r3 := (Rd.of_sl hs).on b3
    have hq := fun W => run_isnils (some ⟨g, off, none⟩) ds.length cap W
    have HK := Lib.hid (fun u W (h : Rd W 2 u ds.length (prc ds)) => key_lb u ds W h (by omega) (by omega))
    have HT := Lib.hid (fun W => take_key ds t W hc (by rw [List.length_append]; omega))
    have HS := Lib.hid (fun u W (h : Rd W 2 u ds.length (prc ds)) => string_lb u ds W h (by omega) (by omega))
    have HP := Lib.hid (fun W => parse_txt ds W hc hcv (by omega))
    have HC := Lib.hid (fun u v W (h : Rd W 2 u ds.length (prc ds)) (k : Rd W 2 v ds.length (prc ds)) => show Calls Tryd.prog 36 #[u, v] W (fun e w' => e = .returned (.int .i64 0) ∧ Below W.heap.size W w') by
      have := cmp_lb u v ds ds W h k (by omega) (by omega); rwa [cmpS_self] at this)
    have hA := bs_append (keyL ds) t
    have l1 := bs_size_le (keyL ds) 20000 hkl2
    have l2 := bs_size_le t 20 htl
    generalize keyL ds = kl at *
    generalize txt ds = tx at *
    clear hs b1 b3 hc hcv h3 hsm hkl htx hul hkl2 h2
    go_wp2_with fail
    refine (HK.out _ _ r3).mono ?_
    rintro e w4 ⟨rfl, b4⟩
    have r4 := r3.on b4
    go_wp2_with fail
    refine (HT.out _).mono ?_
    rintro e w5 ⟨ua, rfl, b5, ra5⟩
    have r5 := r4.on b5
    go_wp2_with fail
    refine (HS.out _ _ r5).mono ?_
    rintro e w6 ⟨rfl, b6⟩
    have r6 := r5.on b6; have ra6 := ra5.on b6
    go_wp2_with fail
    refine (HP.out _).mono ?_
    rintro e w7 ⟨ub, rfl, b7, rb7⟩
    have r7 := r6.on b7; have ra7 := ra6.on b7
    go_wp2_with fail
    refine (HC.out _ _ _ ra7 r7).mono ?_
    rintro e w8 ⟨rfl, b8⟩
    have r8 := r7.on b8; have ra8 := ra7.on b8; have rb8 := rb7.on b8
    go_wp2_with fail
    refine (HC.out _ _ _ rb8 r8).mono ?_
    rintro e w9 ⟨rfl, b9⟩
    have r9 := r8.on b9; have ra9 := ra8.on b9
    go_wp2_with fail
    refine (HK.out _ _ ra9).mono ?_
    rintro e w10 ⟨rfl, b10⟩
    have r10 := r9.on b10
    go_wp2_with fail
    refine (HK.out _ _ r10).mono ?_
    rintro e w11 ⟨rfl, b11⟩
    go_wp2
    go_ret
    exact ⟨rfl, below_step (below_step (below_step (below_step (below_step (below_step (below_step (below_step bb3 b4) b5) b6) b7) b8) b9) b10) b11⟩
end Go.Proofs.YtfdbhmdaiihmhaaDoor
