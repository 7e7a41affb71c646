/- Layer 7's statements: samples one by one. -/
import Derived.Test.YtieaiecoiononaaDoorQ3
import Derived.Test.YtieaiecoiononaaDoorU0
import Derived.Deep.RegionHeld3
namespace Go.Proofs.YtieaiecoiononaaDoor
open Go.RowKit Go.Lib Go.Deep Go.ChangeShapes Go.WideShapes

def SmcAt (w : World) (ao : Option Addr) (len cap : Nat) (l : List Xo.Sm) : Prop := len ≤ cap ∧ SmsAt w ao len cap l
theorem smc_open {H : Type} {enc : TypeId × Value → H} {W : World} {base : Nat} {spare : Nat → Bool} {held : Bool} {fuel : Nat} {ao : Option Addr} {len cap : Nat} {x : DataW H × List MemPlace}
    (h : DataW.trod enc Tryd.prog W base spare held fuel 22 [.slice ao len cap] = some x) : ∃ l, len ≤ maxLen ∧ SmcAt W ao len cap l := by
  obtain ⟨l, h1, h2⟩ := sms_open h
  refine ⟨l, h1, ?_, h2⟩
  rcases open_slice_pairs Tryd.underlying22 Tryd.underlying25 (by kernel_rfl) rfl rfl (by kernel_rfl) (by kernel_rfl) h with ⟨hcs, _⟩ | ⟨a, len', cap', m, n, V0, V1, D0, D1, P0, P1, hcs, hb, hl, hm, hmm, _, hi⟩
  · simp only [List.cons.injEq, Value.slice.injEq, and_true] at hcs
    obtain ⟨rfl, rfl, rfl⟩ := hcs
    exact Nat.le_refl _
  · simp only [List.cons.injEq, Value.slice.injEq, and_true] at hcs
    obtain ⟨rfl, rfl, rfl⟩ := hcs
    exact hl

theorem appAll_snoc : ∀ (l acc : List Xo.Sm) (s : Xo.Sm), Xo.Good (acc ++ l) → appAll acc (l ++ [s]) = Xo.err (acc ++ l) s
  | [], acc, s, _ => by
    rw [List.nil_append, List.append_nil]
    unfold appAll
    split
    · rfl
    · rename_i h; simp only [ne_eq, Decidable.not_not] at h; rw [h]; rfl
  | x :: l, acc, s, h => by
    rw [← List.singleton_append, ← List.append_assoc] at h
    have he := Xo.good_err (Xo.good_prefix h)
    rw [List.cons_append]
    unfold appAll
    rw [if_neg (by omega), appAll_snoc l (acc ++ [x]) s h, List.append_assoc, List.singleton_append]
theorem ofErr_snoc (H : List Xo.Sm) (s : Xo.Sm) (h : Xo.Good H) : ofErr (H ++ [s]) = Xo.err H s := by
  have := appAll_snoc H [] s (by simpa using h)
  simpa [ofErr] using this
theorem appAll_zero : ∀ (l acc : List Xo.Sm), Xo.Good acc → Fits l → appAll acc l = 0 → Xo.Good (acc ++ l)
  | [], acc, h, _, _ => by simpa using h
  | s :: l, acc, h, hf, h0 => by
    unfold appAll at h0
    have hs := hf s (by simp)
    by_cases he : Xo.err acc s = 0
    · rw [if_neg (by omega)] at h0
      have := appAll_zero l (acc ++ [s]) (Xo.good_snoc h hs.2.2 he) (fun x hx => hf x (by simp [hx])) h0
      rwa [List.append_assoc, List.singleton_append] at this
    · rw [if_pos he] at h0; exact absurd h0 he
theorem ofErr_zero (l : List Xo.Sm) (hf : Fits l) (h : ofErr l = 0) : Xo.Good l := by
  have := appAll_zero l [] Xo.good_nil hf h
  simpa using this
theorem fits_snoc {l : List Xo.Sm} {s : Xo.Sm} (h : Fits l) (hs : -9223372036854775808 ≤ s.1 ∧ s.1 ≤ 9223372036854775807 ∧ s.2 < 18446744073709551616) : Fits (l ++ [s]) := by
  intro x hx
  rcases List.mem_append.1 hx with hx | hx
  · exact h x hx
  · rw [List.mem_singleton.1 hx]; exact hs
theorem rd_cut {w : World} {a : Option Addr} {cap n m : Nat} {l : List Xo.Sm} (h : Rd w 2 (.slice a n cap) n (smc l)) (hl : l.length = n) (hm : m ≤ n) : Rd w 2 (.slice a m cap) (l.take m).length (smc (l.take m)) := by
  have e : (l.take m).length = m := by rw [List.length_take]; omega
  obtain ⟨h0, a', cap', g, off, hv, h1, h2⟩ := h
  cases hv
  rw [e]
  refine ⟨by rw [smc_length, e], a, cap, g, off, rfl, fun h => h1 (by omega), fun j hj => ?_⟩
  rw [h2 j (by omega), smc_take l m j (by rw [e]; exact hj)]
set_option maxHeartbeats 2000000 in
set_option maxRecDepth 100000 in
theorem writes_any (ao : Option Addr) (len cap : Nat) (l : List Xo.Sm) (w : World) (h : SmcAt w ao len cap l) (hT : Tabs w.heap.size w) :
    Calls Tryd.prog 3 #[.slice ao len cap] w fun e w' => e = .returned (.bool true) ∧ Below w.heap.size w w' := by
  obtain ⟨hlc, hll, hfl, hrd⟩ := h
  obtain ⟨m, hm⟩ : ∃ m, m = min len 130 := ⟨_, rfl⟩
  obtain ⟨i0, hi, hz0, hz1, hz2⟩ := info_parts zc_sm
  have Hz := Lib.hid hz0; have Hs := Lib.hid hz1; have Hb := Lib.hid hz2; have Hi := Lib.hid hi
  clear hz0 hz1 hz2 hi
  obtain ⟨hz, hsz⟩ := zero_of_info chZ_info
  obtain ⟨Z, hZ⟩ : ∃ Z, Z = chZ := ⟨_, rfl⟩
  have hch := chZ_ch
  rw [← hZ] at hz hch
  clear hZ
  have HL0 := Lib.hid (rd_cut hrd hll (m := m) (by omega))
  have hLf : Fits (l.take m) := fun s hs => hfl s (List.mem_of_mem_take hs)
  have hLn : (l.take m).length = m := by rw [List.length_take]; omega
  obtain ⟨L, hL⟩ : ∃ L, L = l.take m := ⟨_, rfl⟩
  rw [← hL] at HL0 hLf hLn
  have hm130 : m ≤ 130 := by omega
  have hmc : m ≤ cap := by omega
  have hmin : min (len : Int) 130 = (m : Int) := by omega
  have HLN := Lib.hid hLn
  have HLF := Lib.hid hLf
  have AW := Lib.hid (fun W (b : Below w.heap.size w W) => xawake_any w.heap.size W (hT.below b (Nat.le_refl _)))
  have HTT := Lib.hid hT
  clear hL hm hlc hll hfl hrd hLn hLf hT
  rw [HLN.out] at HL0
  obtain ⟨hxs, a', cap', g, off, hv, hga, hcell⟩ := HL0.out
  cases hv
  have HC := Lib.hid hcell
  clear hxs hcell
  go_enter Tryd.func3, Tryd.ntmps3
  go_wp2_with fail
  have b2 : Below w.heap.size w ((w.alloc (.cells Z 28)).alloc (.cells #[] 25)) := ((Below.refl _ _).alloc (Nat.le_refl _) _).alloc (by simp) _
  have c2 : ChAt w.heap.size Z [] ((w.alloc (.cells Z 28)).alloc (.cells #[] 25)) := ⟨hch, (Below.heap_alloc _ _ w.heap.size (by simp)).trans (heap_alloc_new _ _)⟩
  have s2 : Sl ((w.alloc (.cells Z 28)).alloc (.cells #[] 25)) (w.heap.size + 1) 2 (.slice (some ⟨w.heap.size + 1, 0, none⟩) 0 0) 0 [] := by
    have := Sl.lit (w.alloc (.cells Z 28)) (w.heap.size + 1) 2 0 #[] 25 (by simp) (by decide) rfl
    simpa using this
  refine (AW.out _ b2).mono ?_
  rintro e w3 ⟨rfl, b3⟩
  have hB3 := b2.trans (b3.mono b2.size)
  have hC3 := c2.keep (b3.block _ c2.lt)
  have hS3 := s2.on b3
  clear b2 c2 s2 b3
  go_wp2_with fail
  obtain ⟨B, hB⟩ : ∃ B, B = w.heap.size := ⟨_, rfl⟩
  have HBB := Lib.hid hB
  rw [← hB] at hC3 hS3
  go_loopw [4, 6, 7, 8, 22] (fun h' _ _ _ i' wr => ∃ (i n hg ho hc : Nat) (A : Array Value) (H : List Xo.Sm), h' = .slice (some ⟨hg, ho, none⟩) n hc ∧ i' = .int .i64 i ∧ i ≤ m ∧ n ≤ i ∧ Hid (n = H.length) ∧ ChAt w.heap.size A H wr ∧ Sl wr (w.heap.size + 1) 2 (.slice (some ⟨hg, ho, none⟩) n hc) n (smc H) ∧ Below w.heap.size w wr) (fun _ _ _ _ i' _ => m - (RowKit.intOf i').toNat)
  case atStart => exact ⟨0, 0, _, _, _, Z, [], rfl, rfl, by omega, by omega, rfl, by rw [← hB]; exact hC3, by rw [← hB]; exact hS3, hB3⟩
  case round =>
    obtain ⟨i, n, hg, ho, hc, A, H, rfl, rfl, hi, hni, hn, hC, hs, hb⟩ := hrel
    by_cases hlt : i < m
    · obtain ⟨⟨s1, s2⟩, hsi⟩ : ∃ s, L[i]? = some s := ⟨L[i]'(by rw [HLN.out]; exact hlt), List.getElem?_eq_getElem _⟩
      have hfs := HLF.out (s1, s2) (List.mem_of_getElem? hsi)
      obtain ⟨rfl, hgl⟩ := hga (by omega)
      have hcs := smc_at L i _ hsi
      have c0 := (hb.cell (p := ⟨g, off + i * 2, none⟩) hgl).trans ((HC.out (i * 2) (by omega)).trans hcs.1)
      have c1 := (hb.cell (p := ⟨g, off + i * 2 + 1, none⟩) hgl).trans ((HC.out (i * 2 + 1) (by omega)).trans hcs.2)
      simp only at c0 c1 hfs
      have hCl := hC.lt
      have hbz := hb.size
      obtain ⟨er, her⟩ : ∃ er, er = Xo.err H (s1, s2) := ⟨_, rfl⟩
      have hGH := hC.ch.good
      have hof := ofErr_snoc H (s1, s2) hGH
      rw [← her] at hof
      have AC := Lib.hid (append_chunk w.heap.size A H s1 s2 (wr.alloc (.cells #[.int .i64 s1, .int .u64 s2] 25)) (hC.keep (Below.heap_alloc wr _ _ hCl)) hfs.1 hfs.2.1 hfs.2.2)
      unfold App at AC
      rw [← her] at AC
      have hfh : Fits (H ++ [(s1, s2)]) := fits_snoc (fits_good hGH) hfs
      have b1 : Below w.heap.size w (wr.alloc (.cells #[.int .i64 s1, .int .u64 s2] 25)) := hb.alloc hbz _
      have HS := Lib.hid hs; have HN := Lib.hid hn.out; have HOF := Lib.hid hof; have HFH := Lib.hid hfh; have HB1 := Lib.hid b1; have HER := Lib.hid her; have HGH := Lib.hid hGH
      clear hs hn hof hfh b1 her hGH hsi hcs hC hS3 hC3 hB3
      go_wp2_with (go_at_call 6; refine AC.out.mono ?_; rintro e w1 ⟨rfl, u1, A1, hC1⟩)
      have ux : wr.heap.size < (wr.alloc (.cells #[.int .i64 s1, .int .u64 s2] 25)).heap.size := by simp
      have x0 : w1.cell? ⟨wr.heap.size, 0, none⟩ = some (.int .i64 s1) := (u1.cell (p := ⟨wr.heap.size, 0, none⟩) ux (by simp only; omega)).trans (by simp [go_sem])
      have x1 : w1.cell? ⟨wr.heap.size, 1, none⟩ = some (.int .u64 s2) := (u1.cell (p := ⟨wr.heap.size, 1, none⟩) ux (by simp only; omega)).trans (by simp [go_sem])
      have S1 := Lib.hid ((HS.out.alloc (.cells #[.int .i64 s1, .int .u64 s2] 25)).same u1.size fun k hk => u1.block k ((HS.out.alloc (.cells #[.int .i64 s1, .int .u64 s2] 25)).lt k hk).2 (by have := (HS.out.lt k hk).1; omega))
      have bb1 : Below w.heap.size w w1 := HB1.out.trans (u1.below HB1.out.size (fun k hk => by omega))
      have zz1 : wr.heap.size + 1 ≤ w1.heap.size := by have := u1.size; simp at this; omega
      have C1 := Lib.hid hC1
      clear HS HB1 u1 hC1 ux
      have hn2 : n + 1 ≤ 131 := by omega
      have n1 : 0 + n ≤ maxLen := by unfold maxLen; omega
      have n2 : (0 + n) * 16 ≤ 140737488355328 := by omega
      have n3 : 0 + n + 1 ≤ maxLen := by unfold maxLen; omega
      have n4 : (0 + n + 1) * 16 ≤ 140737488355328 := by omega
      have hHl := Lib.hid (show (smc H).length = n * 2 by rw [smc_length, ← HN.out])
      have SO := smc_one
      have bA : Below w1.heap.size w1 ((w1.alloc (.cells #[] 25)).drew) := ((Below.refl w1.heap.size w1).alloc (Nat.le_refl _) _).drew
      have bC : Below w1.heap.size w1 (((w1.alloc (.cells #[] 25)).alloc (.cells #[.int .i64 s1, .int .u64 s2] 25)).drew) := (((Below.refl w1.heap.size w1).alloc (Nat.le_refl _) _).alloc (by simp) _).drew
      have bD : Below w1.heap.size w1 ((w1.alloc (.cells #[.int .i64 s1, .int .u64 s2] 25)).drew) := ((Below.refl w1.heap.size w1).alloc (Nat.le_refl _) _).drew
      have bE : Below w1.heap.size w1 (((w1.alloc (.cells #[.int .i64 s1, .int .u64 s2] 25)).alloc (.cells #[] 25)).drew) := (((Below.refl w1.heap.size w1).alloc (Nat.le_refl _) _).alloc (by simp) _).drew
      have HA : Sl ((w1.alloc (.cells #[] 25)).drew) w1.heap.size 2 (.slice (some ⟨w1.heap.size, 0, none⟩) 0 0) 0 [] := Sl.lit w1 w1.heap.size 2 0 #[] 25 (Nat.le_refl _) (by decide) rfl
      have HCC : Sl (((w1.alloc (.cells #[] 25)).alloc (.cells #[.int .i64 s1, .int .u64 s2] 25)).drew) w1.heap.size 2 (.slice (some ⟨w1.heap.size, 0, none⟩) 0 0) 0 [] := HA.alloc _
      have HE : Sl (((w1.alloc (.cells #[.int .i64 s1, .int .u64 s2] 25)).alloc (.cells #[] 25)).drew) w1.heap.size 2 (.slice (some ⟨w1.heap.size + 1, 0, none⟩) 0 0) 0 [] := by
        have := Sl.lit (w1.alloc (.cells #[.int .i64 s1, .int .u64 s2] 25)) w1.heap.size 2 0 #[] 25 (by simp) (by decide) rfl
        have h2 : Sl ((w1.alloc (.cells #[.int .i64 s1, .int .u64 s2] 25)).alloc (.cells #[] 25)) w1.heap.size 2 (.slice (some ⟨w1.heap.size + 1, 0, none⟩) 0 0) 0 [] := by simpa using this
        exact h2.drew
      have SA := (S1.out.on bA).cells
      have SC := (S1.out.on bC).cells
      have SE := (S1.out.on bE).cells
      have LC : Sl (((w1.alloc (.cells #[] 25)).alloc (.cells #[.int .i64 s1, .int .u64 s2] 25)).drew) w1.heap.size 2 (.slice (some ⟨w1.heap.size + 1, 0, none⟩) 1 1) 1 [.int .i64 s1, .int .u64 s2] := by
        have := Sl.lit (w1.alloc (.cells #[] 25)) w1.heap.size 2 1 #[.int .i64 s1, .int .u64 s2] 25 (by simp) (by decide) rfl
        have h2 : Sl ((w1.alloc (.cells #[] 25)).alloc (.cells #[.int .i64 s1, .int .u64 s2] 25)) w1.heap.size 2 (.slice (some ⟨w1.heap.size + 1, 0, none⟩) 1 1) 1 [.int .i64 s1, .int .u64 s2] := by simpa using this
        exact h2.drew
      have LE : Sl (((w1.alloc (.cells #[.int .i64 s1, .int .u64 s2] 25)).alloc (.cells #[] 25)).drew) w1.heap.size 2 (.slice (some ⟨w1.heap.size, 0, none⟩) 1 1) 1 [.int .i64 s1, .int .u64 s2] := (Sl.lit w1 w1.heap.size 2 1 #[.int .i64 s1, .int .u64 s2] 25 (Nat.le_refl _) (by decide) rfl).alloc _
      have LC5 := Lib.hid (fun (w5 : World) (g5 : (((w1.alloc (.cells #[] 25)).alloc (.cells #[.int .i64 s1, .int .u64 s2] 25)).drew).grownBy w5 (Value.slice (some ⟨w1.heap.size, 0, none⟩) 0 0).ownBlock) => (LC.kept g5 (.inr (by simp [Value.ownBlock]))).cells)
      have LE5 := Lib.hid (fun (w5 : World) (g5 : (((w1.alloc (.cells #[.int .i64 s1, .int .u64 s2] 25)).alloc (.cells #[] 25)).drew).grownBy w5 (Value.slice (some ⟨w1.heap.size + 1, 0, none⟩) 0 0).ownBlock) => (LE.kept g5 (.inr (by simp [Value.ownBlock]))).cells)
      have LA5 := Lib.hid (fun (w5 : World) => two_cells w5 (.int .i64 s1) (.int .u64 s2) 25)
      have KX := Lib.hid (fun (W : World) (b : Below w1.heap.size w1 W) => show W.cell? ⟨wr.heap.size, 0, none⟩ = some (.int .i64 s1) ∧ W.cell? ⟨wr.heap.size, 1, none⟩ = some (.int .u64 s2) from ⟨(b.cell (p := ⟨wr.heap.size, 0, none⟩) zz1).trans x0, (b.cell (p := ⟨wr.heap.size, 1, none⟩) zz1).trans x1⟩)
      have GD := Lib.hid (fun (W : World) (a : Option Addr) (c : Nat) (h : Sl W w1.heap.size 2 (.slice a (n + 1) c) (n + 1) (smc H ++ [.int .i64 s1, .int .u64 s2])) => show Calls Tryd.prog 7 #[.slice a (n + 1) c] W (fun e w' => e = .returned (.int .i64 er) ∧ Below W.heap.size W w') by
        rw [← HOF.out]
        have hlen : n + 1 = (H ++ [((s1 : Int), s2)]).length := by rw [List.length_append, ← HN.out]; simp
        have hrd : Rd W 2 (.slice a (n + 1) c) (n + 1) (smc (H ++ [((s1 : Int), s2)])) := by rw [smc_append]; exact Rd.of_sl h
        exact rgood_any a c (H ++ [(s1, s2)]) (n + 1) W hlen hrd HFH.out (by omega))
      have B0 := Lib.hid (show Below w1.heap.size w1 w1.drew from (Below.refl w1.heap.size w1).drew)
      have BA := Lib.hid bA; have BC := Lib.hid bC; have BE := Lib.hid bE; have BD := Lib.hid bD
      have HA' := Lib.hid HA; have HC' := Lib.hid HCC; have HE' := Lib.hid HE
      have SA' := Lib.hid SA; have SC' := Lib.hid SC; have SE' := Lib.hid SE
      clear bA bC bE bD HA HCC HE LC LE SA SC SE
      have hZC : (Value.agg #[.int .i64 0, .int .u64 0]).cells.size = 2 := by decide
      have h02 : 0 < 2 := by decide
      have hl2 : [Value.int .i64 s1, Value.int .u64 (s2 : Int)].length = 1 * 2 := rfl
      have so1 := SO H
      have so2 : ∀ v ∈ [Value.int .i64 s1, Value.int .u64 (s2 : Int)], v.oneCell' = true := SO [(s1, s2)]
      have zA := BA.out.size; have zC := BC.out.size; have zE := BE.out.size
      go_region_held3 (fun w' => w'.cell? ⟨wr.heap.size, 0, none⟩ = some (.int .i64 s1) ∧ w'.cell? ⟨wr.heap.size, 1, none⟩ = some (.int .u64 s2)) (first | with_reducible exact KX.out _ B0.out | with_reducible exact KX.out _ BA.out | with_reducible exact KX.out _ BC.out | with_reducible exact KX.out _ BD.out | with_reducible exact KX.out _ BE.out | with_reducible assumption)
        (first
          | ((with_reducible refine step_append_sl rfl (.tmp 28) (.tmp 29) 22 rfl w1.heap.size 25 i0 (.agg #[.int .i64 0, .int .u64 0]) 2 16 Tryd.underlying22 Hi.out Hz.out Hs.out Hb.out hZC h02 _ 0 [] (by simp [Act.eval]) HA'.out ⟨hg, ho, none⟩ n hc (smc H) (by simp [Act.eval]) hHl.out SA'.out so1 n1 n2 zA ?_); intro v5 w5 x5; have y5 := x5.now; rw [List.nil_append] at y5; have q5 : Below w1.heap.size w1 w5 := BA.out.trans (x5.below (Nat.le_refl _) zA); have q5b : Below w1.heap.size w1 (w5.alloc (.cells #[.int .i64 s1, .int .u64 s2] 25)) := q5.alloc q5.size _; have y5b := y5.alloc (.cells #[.int .i64 s1, .int .u64 s2] 25); have L5 := LA5.out w5; have k5 := KX.out _ q5; have k5b := KX.out _ q5b)
          | ((with_reducible refine step_append_sl rfl (.tmp 28) (.tmp 29) 22 rfl w1.heap.size 25 i0 (.agg #[.int .i64 0, .int .u64 0]) 2 16 Tryd.underlying22 Hi.out Hz.out Hs.out Hb.out hZC h02 _ 0 [] (by simp [Act.eval]) HC'.out ⟨hg, ho, none⟩ n hc (smc H) (by simp [Act.eval]) hHl.out SC'.out so1 n1 n2 zC ?_); intro v5 w5 x5; have y5b := x5.now; rw [List.nil_append] at y5b; have q5b : Below w1.heap.size w1 w5 := BC.out.trans (x5.below (Nat.le_refl _) zC); have L5 := LC5.out w5 x5.grown; have k5b := KX.out _ q5b)
          | ((with_reducible refine step_append_sl rfl (.tmp 28) (.tmp 29) 22 rfl w1.heap.size 25 i0 (.agg #[.int .i64 0, .int .u64 0]) 2 16 Tryd.underlying22 Hi.out Hz.out Hs.out Hb.out hZC h02 _ 0 [] (by simp [Act.eval]) HE'.out ⟨hg, ho, none⟩ n hc (smc H) (by simp [Act.eval]) hHl.out SE'.out so1 n1 n2 zE ?_); intro v5 w5 x5; have y5b := x5.now; rw [List.nil_append] at y5b; have q5b : Below w1.heap.size w1 w5 := BE.out.trans (x5.below (Nat.le_refl _) zE); have L5 := LE5.out w5 x5.grown; have k5b := KX.out _ q5b)
          | ((with_reducible refine step_append_sl rfl (.tmp 30) (.tmp 32) 22 rfl w1.heap.size 25 i0 (.agg #[.int .i64 0, .int .u64 0]) 2 16 Tryd.underlying22 Hi.out Hz.out Hs.out Hb.out hZC h02 _ (0 + n) (smc H) (by simp [Act.eval]) y5b ⟨_, 0, none⟩ 1 1 [.int .i64 s1, .int .u64 s2] (by simp [Act.eval]) hl2 L5 so2 n3 n4 q5b.size ?_); intro v6 w6 x6; obtain ⟨a6, c6, rfl⟩ := x6.now.slice; have q6 : Below w1.heap.size w1 w6 := q5b.trans (x6.below (Nat.le_refl _) q5b.size); have y6 := x6.now; rw [Nat.zero_add] at y6; have G6 := GD.out w6 a6 c6 y6; have k6 := KX.out _ q6)
          | (go_at_call 7; (with_reducible refine G6.mono ?_); rintro e w7 ⟨rfl, b7⟩; have q7 : Below w1.heap.size w1 w7 := q6.trans (b7.mono q6.size); have k7 := KX.out _ q7))
      all_goals
        obtain ⟨k70, k71⟩ := k7
        have S7 := Lib.hid (S1.out.on q7)
        have C7 := Lib.hid (C1.out.keep (q7.block _ C1.out.lt))
        have bb7 : Below w.heap.size w w7 := bb1.trans (q7.mono bb1.size)
        have z7 := bb7.size
        have z7b : w.heap.size < w7.heap.size := C7.out.lt
        clear S1 C1 BA BC BE BD B0 HA' HC' HE' SA' SC' SE' LC5 LE5 LA5 KX GD G6 q5b q6 q7 k6 k5b x5 x6 L5 y5b y6 b7 x0 x1 zA zC zE bb1 AC
        by_cases he : er = 0
        · have hez : ((er : Int) == 0) = true := by simp; omega
          have C7b := Lib.hid (show ChAt w.heap.size A1 (H ++ [(s1, s2)]) w7 by have := C7.out; rw [if_pos he] at this; exact this)
          have LN := Lib.hid (fun W (hk : W.heap[w.heap.size]? = w7.heap[w.heap.size]?) => show Calls Tryd.prog 8 #[.pointer (.some ⟨w.heap.size, 0, none⟩)] W (fun e w' => e = .returned (.int .i64 ((n + 1 : Nat) : Int)) ∧ W = w') by
            have := len_chunk w.heap.size A1 _ W (C7b.out.keep hk)
            rw [List.length_append, ← HN.out] at this
            exact this)
          clear C7 he
          go_wp2_with (at_builtin; refine wpList_append_sl _ rfl _ _ 22 rfl (w.heap.size + 1) 25 i0 (.agg #[.int .i64 0, .int .u64 0]) 2 16 Tryd.underlying22 Hi.out Hz.out Hs.out Hb.out rfl (by decide) _ n _ rfl (S7.out.alloc _) ⟨w7.heap.size, 0, none⟩ 1 1 [_, _] rfl rfl (two_cells _ _ _ _) (by simp [Value.oneCell']) (by unfold maxLen; omega) (by omega) (by simp; omega) ?_; intro v9 w9 x9; obtain ⟨hg9, ho9, hc9, rfl, _⟩ := x9.now.somewhere (by omega); have bb9 := (bb7.alloc z7 _).trans (x9.below (by omega) (by simp; omega)); have k9 : w9.heap[w.heap.size]? = w7.heap[w.heap.size]? := (x9.grown.block w.heap.size (by simp; omega) (fun e => by have := (S7.out.lt _ e.symm).1; omega)).trans (Below.heap_alloc w7 _ w.heap.size z7b); have X9 := Lib.hid x9; clear x9)
          go_wp2_with fail
          refine (LN.out _ k9).mono ?_
          rintro e _ ⟨rfl, rfl⟩
          go_wp2_with fail
          exact ⟨⟨i + 1, n + 1, hg9, ho9, hc9, A1, H ++ [(s1, s2)], rfl, by go_num, hlt, by omega, by show _ = _; rw [List.length_append, ← HN.out]; rfl, C7b.out.keep k9, by rw [smc_append]; exact X9.out.now, bb9⟩, by simp [RowKit.intOf]; omega⟩
        · have hez : ((er : Int) == 0) = false := by simp; omega
          have C7b := Lib.hid (show ChAt w.heap.size A1 H w7 by have := C7.out; rw [if_neg he] at this; exact this)
          have LN := Lib.hid (show Calls Tryd.prog 8 #[.pointer (.some ⟨w.heap.size, 0, none⟩)] w7 (fun e w' => e = .returned (.int .i64 (n : Int)) ∧ w7 = w') by
            have := len_chunk w.heap.size A1 _ w7 C7b.out
            rw [← HN.out] at this
            exact this)
          clear C7 he
          go_wp2_with fail
          refine LN.out.mono ?_
          rintro e _ ⟨rfl, rfl⟩
          go_wp2_with fail
          exact ⟨⟨i + 1, n, hg, ho, hc, A1, H, rfl, by go_num, hlt, by omega, HN.out, C7b.out, S7.out, bb7⟩, by simp [RowKit.intOf]; omega⟩
    · have him : i = m := by omega
      subst him
      clear hlt hi hni
      have HS := Lib.hid hs; have HN := Lib.hid hn.out; have HCC := Lib.hid hC; have HB := Lib.hid hb
      have hbz := hb.size
      have TX := Lib.hid (fun W (b : Below wr.heap.size wr W) => text_chunk w.heap.size w.heap.size A H W (hC.keep (b.block _ hC.lt)) (HTT.out.below (hb.trans (b.mono hbz)) (Nat.le_refl _)))
      have OF := Lib.hid (of_any w.heap.size (.slice ao i cap) L wr (by rw [HLN.out]; exact HL0.out.on hb) HLF.out (HTT.out.below hb (Nat.le_refl _)) (by rw [HLN.out]; omega))
      have GO := Lib.hid (fun W (b : Below w.heap.size w W) => rgood_any ao cap L i W HLN.out.symm (HL0.out.on b) HLF.out (by rw [HLN.out]; omega))
      have RT := Lib.hid (fun W (b : Below wr.heap.size wr W) => rtext07_any (some ⟨hg, ho, none⟩) hc H n W HN.out (Rd.of_sl (hs.on b)) hC.ch.good)
      obtain ⟨TH, hTH⟩ : ∃ TH, TH = bs (Xo.text H) := ⟨_, rfl⟩
      rw [← hTH] at TX RT
      obtain ⟨er, her⟩ : ∃ er, er = ofErr L := ⟨_, rfl⟩
      rw [← her] at OF GO
      by_cases he : er = 0
      · have hgL := ofErr_zero L HLF.out (by rw [← her]; exact he)
        have hez : ((er : Int) == 0) = true := by simp; omega
        have hez2 : ((er : Int) != 0) = false := by simp; omega
        have RL := Lib.hid (fun W (b : Below w.heap.size w W) => rtext07_any ao cap L i W HLN.out.symm (HL0.out.on b) hgL)
        rw [show ofS L = Xo.text L by unfold ofS; rw [← her, if_pos he]] at OF
        obtain ⟨TL, hTL⟩ : ∃ TL, TL = bs (Xo.text L) := ⟨_, rfl⟩
        rw [← hTL] at OF RL
        clear hs hn hC hb hTH her he hTL hgL
        go_wp2_with fail
        refine OF.out.mono ?_
        rintro e w4 ⟨rfl, b4⟩
        have bb4 := Lib.hid b4
        clear b4
        go_wp2_with fail
        refine (GO.out _ (HB.out.trans (bb4.out.mono hbz))).mono ?_
        rintro e w5 ⟨rfl, b5⟩
        have bb5 := Lib.hid (bb4.out.trans (b5.mono bb4.out.size))
        clear b5
        go_wp2_with fail
        refine (TX.out _ bb5.out).mono ?_
        rintro e w6 ⟨rfl, b6⟩
        have bb6 := Lib.hid (bb5.out.trans (b6.mono bb5.out.size))
        clear b6
        go_wp2_with fail
        refine (RT.out _ bb6.out).mono ?_
        rintro e w7 ⟨rfl, b7⟩
        have bb7 := Lib.hid (bb6.out.trans (b7.mono bb6.out.size))
        clear b7
        go_wp2_with fail
        refine (RL.out _ (HB.out.trans (bb7.out.mono hbz))).mono ?_
        rintro e w8 ⟨rfl, b8⟩
        have bb8 := Lib.hid (bb7.out.trans (b8.mono bb7.out.size))
        clear b8
        go_wp2_with fail
        go_ret
        exact ⟨by simp, HB.out.trans (bb8.out.mono hbz)⟩
      · have hez : ((er : Int) == 0) = false := by simp; omega
        have hez2 : ((er : Int) != 0) = true := by simp; omega
        rw [show ofS L = [] by unfold ofS; rw [← her, if_neg he]] at OF
        have hBE : (bs []).toList = [] := bs_toList []
        clear hs hn hC hb hTH her he
        go_wp2_with fail
        refine OF.out.mono ?_
        rintro e w4 ⟨rfl, b4⟩
        have bb4 := Lib.hid b4
        clear b4
        go_wp2_with fail
        refine (GO.out _ (HB.out.trans (bb4.out.mono hbz))).mono ?_
        rintro e w5 ⟨rfl, b5⟩
        have bb5 := Lib.hid (bb4.out.trans (b5.mono bb4.out.size))
        clear b5
        go_wp2_with fail
        refine (TX.out _ bb5.out).mono ?_
        rintro e w6 ⟨rfl, b6⟩
        have bb6 := Lib.hid (bb5.out.trans (b6.mono bb5.out.size))
        clear b6
        go_wp2_with fail
        refine (RT.out _ bb6.out).mono ?_
        rintro e w7 ⟨rfl, b7⟩
        have bb7 := Lib.hid (bb6.out.trans (b7.mono bb6.out.size))
        clear b7
        go_wp2_with fail
        go_ret
        exact ⟨by simp, HB.out.trans (bb7.out.mono hbz)⟩
end Go.Proofs.YtieaiecoiononaaDoor
