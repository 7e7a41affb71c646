/- The statement FrameBehind, walked. -/
import Derived.Test.YtbebgdjlabincaaR3
namespace Go.Proofs.Ytbebgdjlabincaa
open Go.RowKit Go.Lib

theorem behind_all (F : List Fr.Rc) (hF : ∀ r ∈ F, r.2.length ≤ 60) (hF6 : F.length ≤ 6) (X T : List UInt8) (hX : X = Fr.laid F) (hT : T.length ≤ 50) (hn : (Fr.next T).2.2 ≠ 0) (W : World) :
    Calls Try.prog 33 #[.string (bs (X ++ T))] W fun e w' => ∃ a cap, e = .returned (.tuple #[.slice a F.length cap, .int .i64 (bs X).size]) ∧ Sl w' W.heap.size 2 (.slice a F.length cap) F.length (rc F) ∧ Below W.heap.size W w' := by
  have hall : Fr.all (X ++ T) = (F, T) := by
    rw [hX, Fr.all_laid T F (fun r hr => by have := hF r hr; omega), Fr.all_stop hn]; simp
  have hl : X.length ≤ 450 := by have := Fr.laid_le F hF; rw [hX]; omega
  have := all_any (X ++ T) W (by rw [List.length_append]; omega)
  rw [hall] at this
  refine this.mono fun e w' h => ?_
  obtain ⟨a, cap, he, hs, hb⟩ := alld_slice h
  refine ⟨a, cap, ?_, hs, hb⟩
  rw [he]
  have hn : ((X ++ T).length : Int) - (T.length : Int) = ((bs X).size : Int) := by
    rw [List.length_append, bs_size]; omega
  show Ending.returned (.tuple #[.slice a F.length cap, .int .i64 (((X ++ T).length : Int) - (T.length : Int))]) = _
  rw [hn]

set_option maxHeartbeats 2000000 in
set_option maxRecDepth 100000 in
theorem behind_any (ao : Option Addr) (len cap : Nat) (rs : List Fr.Rc) (tail : ByteArray) (w : World) (hlen : len ≤ maxLen) (h : RecsAt w ao len rs) :
    Calls Try.prog 11 #[.slice ao len cap, .string tail] w fun e w' => e = .returned (.bool true) ∧ Below w.heap.size w w' := by
  have hA := bs_append
  have hr6 : rs.length ≤ 6 := by have := h.1; omega
  have F1 := Lib.hid (few_any ao len cap rs w hlen h)
  obtain ⟨F, hF⟩ : ∃ F, F = f60 rs := ⟨_, rfl⟩
  have hm := f60_mem rs
  have hF6 : F.length ≤ 6 := by rw [hF]; simp only [f60, List.length_map]; exact hr6
  rw [← hF] at F1 hm
  have HM := Lib.hid hm
  obtain ⟨T, ht, ht50⟩ := cut_list tail 50
  have HT := Lib.hid ht
  obtain ⟨X, hX⟩ : ∃ X, X = Fr.laid F := ⟨_, rfl⟩
  have hXl : X.length ≤ 450 := by have := Fr.laid_le F hm; rw [hX]; omega
  have hc3 : (bs X).size ≤ 450 := by rw [bs_size]; exact hXl
  have hc4 : (bs T).size ≤ 50 := by rw [bs_size]; exact ht50
  have HX := Lib.hid hX
  obtain ⟨k, d, rest, er, hn⟩ : ∃ k d rest er, Fr.next T = ((k, d), rest, er) := ⟨_, _, _, _, rfl⟩
  have HN := Lib.hid (show nextV (Fr.next T) = .tuple #[.agg #[.int .u8 k.toNat, .string (bs d)], .string (bs rest), .int .i64 er] by rw [hn]; rfl)
  clear h hF hm hX hr6 ht
  by_cases he : er = 0
  · subst he
    clear hn
    go_enter Try.func11, Try.ntmps11
    go_wp2_with fail
    refine F1.out.mono ?_
    rintro e w1 ⟨a1, k1, rfl, s1, b1⟩
    go_wp2_with fail
    refine (laid_any _ a1 k1 F w1 s1 HM.out hF6).mono ?_
    rintro e w2 ⟨a2, k2, rfl, s2, b2⟩
    rw [← HX.out]
    go_wp2_with fail
    refine (cut_is tail T 50 50 rfl HT.out _).mono ?_
    rintro e w3 ⟨rfl, rfl⟩
    go_wp2_with fail
    refine (next_any T _ (by omega)).mono ?_
    rintro e w3 ⟨rfl, b3⟩
    rw [HN.out]
    have hbel := below_step (below_step b1 b2) b3
    go_wp2_with fail
    refine (fawake_any _).mono ?_
    rintro e w4 ⟨rfl, b4⟩
    go_wp2
    go_ret
    exact ⟨rfl, below_step (hbel.alloc hbel.size _) b4⟩
  · have A1 := Lib.hid (behind_all F HM.out hF6 X T HX.out ht50 (by rw [hn]; exact he))
    clear hn
    go_enter Try.func11, Try.ntmps11
    go_wp2_with fail
    refine F1.out.mono ?_
    rintro e w1 ⟨a1, k1, rfl, s1, b1⟩
    go_wp2_with fail
    refine (laid_any _ a1 k1 F w1 s1 HM.out hF6).mono ?_
    rintro e w2 ⟨a2, k2, rfl, s2, b2⟩
    rw [← HX.out]
    go_wp2_with fail
    refine (cut_is tail T 50 50 rfl HT.out _).mono ?_
    rintro e w3 ⟨rfl, rfl⟩
    go_wp2_with fail
    refine (next_any T _ (by omega)).mono ?_
    rintro e w3 ⟨rfl, b3⟩
    rw [HN.out]
    have hbel := below_step (below_step b1 b2) b3
    go_wp2_with fail
    refine (A1.out _).mono ?_
    rintro e w4 ⟨a4, k4, rfl, s4, b4⟩
    have hbel4 := below_step (hbel.alloc hbel.size _) b4
    have u1 := (((s1.on b2).on b3).alloc _).on b4
    go_wp2_with fail
    refine (fawake_any _).mono ?_
    rintro e w5 ⟨rfl, b5⟩
    go_wp2_with fail
    refine (same_any _ _ a4 a1 k4 k1 F.length F _ (by omega) (s4.on b5) (u1.on b5)).mono ?_
    rintro e w6 ⟨rfl, m6, rfl⟩
    go_wp2
    go_ret
    exact ⟨rfl, below_draw (below_step hbel4 b5) _⟩
#print axioms behind_any
end Go.Proofs.Ytbebgdjlabincaa
