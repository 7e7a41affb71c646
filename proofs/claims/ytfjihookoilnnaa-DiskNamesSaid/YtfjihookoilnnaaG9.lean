/- BucketParts. -/
import Derived.Test.YtfjihookoilnnaaG8
namespace Go.Proofs.Ytfjihookoilnnaa
open Go.Conc Go.RowKit

theorem range_one (s : ByteArray) (t : Int) (ck n u : Nat) (hn : n ≤ s.size) : rangeR nO (n : Int) (u : Int) [⟨nO, s, t, ck⟩] = (s.extract n (n + u), 0) := by
  unfold rangeR
  rw [show lookO nO [⟨nO, s, t, ck⟩] = some ⟨nO, s, t, ck⟩ by simp [lookO]]
  simp only
  rw [if_neg (by omega)]
  unfold partB
  simp
theorem range_past (s : ByteArray) (t : Int) (ck n u : Nat) (hn : s.size < n) : rangeR nO (n : Int) (u : Int) [⟨nO, s, t, ck⟩] = (ByteArray.empty, 1) := by
  unfold rangeR
  rw [show lookO nO [⟨nO, s, t, ck⟩] = some ⟨nO, s, t, ck⟩ by simp [lookO]]
  simp only
  rw [if_pos (by omega)]
set_option maxHeartbeats 2000000 in
set_option maxRecDepth 100000 in
theorem bparts_any (a0 : ByteArray) (a1 : Int) (w : World) (h1 : -9223372036854775808 ≤ a1 ∧ a1 ≤ 9223372036854775807) : Calls Try.prog 5 #[.string a0, .int .i64 a1] w fun e w' => e = .returned (.bool true) ∧ Below w.heap.size w w' := by
  have HN := Lib.hid (fun W => bnew_home W)
  have HA := Lib.hid (fun W => bawake_any W)
  obtain ⟨s, hs⟩ : ∃ s, s = cutB a0 200 := ⟨_, rfl⟩
  have hsz : s.size ≤ 200 := by
    rw [hs]
    obtain ⟨l, h, hl⟩ := cut_list a0 200
    rw [h]
    simpa [bs, ByteArray.size] using hl
  have HC := fun W => cut_any a0 200 W (by decide)
  rw [show (200 : Int).toNat = 200 from rfl, ← hs] at HC
  have HCut := Lib.hid HC
  clear HC hs
  by_cases hst : a1 < 1
  · go_enter Try.func5, Try.ntmps5
    go_wp2_with fail
    refine (HCut.out _).mono ?_
    rintro e x ⟨rfl, rfl⟩
    go_wp2_with fail
    refine (HN.out _).mono ?_
    rintro e w1 ⟨k, f, c, m, rfl, D1, hH, b1⟩
    go_wp2_with fail
    refine (HA.out _).mono ?_
    rintro e w2 ⟨rfl, b2⟩
    have D2 := D1.below b2
    have C1 := Lib.hid (bput_go w.heap.size k f c m _ _ nO s 0 w2 D2 hH (by decide))
    go_wp2_with fail
    refine C1.out.mono ?_
    rintro e w3 ⟨he, _, b3⟩
    rw [show (if (tryL []).1.1 = true then (0 : Int) else 8) = 0 from rfl] at he
    subst he
    go_wp2_with fail
    refine (HA.out _).mono ?_
    rintro e w4 ⟨rfl, b4⟩
    go_wp2
    go_ret
    exact ⟨rfl, below_step ((below_step b1 b2).trans b3) b4⟩
  · by_cases hst2 : 300 < a1
    · go_enter Try.func5, Try.ntmps5
      go_wp2_with fail
      refine (HCut.out _).mono ?_
      rintro e x ⟨rfl, rfl⟩
      go_wp2_with fail
      refine (HN.out _).mono ?_
      rintro e w1 ⟨k, f, c, m, rfl, D1, hH, b1⟩
      go_wp2_with fail
      refine (HA.out _).mono ?_
      rintro e w2 ⟨rfl, b2⟩
      have D2 := D1.below b2
      have C1 := Lib.hid (bput_go w.heap.size k f c m _ _ nO s 0 w2 D2 hH (by decide))
      go_wp2_with fail
      refine C1.out.mono ?_
      rintro e w3 ⟨he, _, b3⟩
      rw [show (if (tryL []).1.1 = true then (0 : Int) else 8) = 0 from rfl] at he
      subst he
      go_wp2_with fail
      refine (HA.out _).mono ?_
      rintro e w4 ⟨rfl, b4⟩
      go_wp2
      go_ret
      exact ⟨rfl, below_step ((below_step b1 b2).trans b3) b4⟩
    · obtain ⟨u, rfl⟩ : ∃ u : Nat, a1 = u := ⟨a1.toNat, by omega⟩
      have hu1 : 1 ≤ u := by omega
      have hu2 : u ≤ 300 := by omega
      have hu1' : (1 : Int) ≤ u := by omega
      have hu2' : (u : Int) ≤ 300 := by omega
      clear hst hst2
      go_enter Try.func5, Try.ntmps5
      go_wp2_with fail
      refine (HCut.out _).mono ?_
      rintro e x ⟨rfl, rfl⟩
      go_wp2_with fail
      refine (HN.out _).mono ?_
      rintro e w1 ⟨k, f, c, m, rfl, D1, hH, b1⟩
      go_wp2_with fail
      refine (HA.out _).mono ?_
      rintro e w2 ⟨rfl, b2⟩
      have D2 := D1.below b2
      have C1 := Lib.hid (bput_go w.heap.size k f c m _ _ nO s 0 w2 D2 hH (by decide))
      go_wp2_with fail
      refine C1.out.mono ?_
      rintro e w3 ⟨he, ⟨ck, D3⟩, b3⟩
      rw [show (if (tryL []).1.1 = true then (0 : Int) else 8) = 0 from rfl] at he
      subst he
      change Bk k f c m [⟨nO, s, 0, ck⟩] [] w3 at D3
      have bA : Below w.heap.size w w3 := (below_step b1 b2).trans b3
      clear C1 D1 D2 b1 b2 b3
      have HR := Lib.hid (fun n v W D ha hn => brange w.heap.size k f c m [⟨nO, s, 0, ck⟩] [] nO n v W D hH ha hn)
      have HG := Lib.hid (fun W D => bget w.heap.size k f c m [⟨nO, s, 0, ck⟩] [] nO W D hH)
      go_wp2_with fail
      go_loopw [6, 7] (fun va vi wr => ∃ n : Nat, vi = .int .i64 n ∧ va = .string (s.extract 0 n) ∧ n ≤ s.size + 300 ∧ Bk k f c m [⟨nO, s, 0, ck⟩] [] wr ∧ Below w.heap.size w wr) (fun _ vi _ => 600 - (RowKit.intOf vi).toNat)
      case atStart => exact ⟨0, rfl, by simp; rfl, by omega, D3, bA⟩
      case round =>
        obtain ⟨n, rfl, rfl, hn, D, bR⟩ := hrel
        by_cases hlt : n < s.size
        · have C1 := HR.out n u wr D (by omega) (by omega)
          rw [range_one s 0 ck n u (by omega)] at C1
          have HC1 := Lib.hid C1
          have hA : (s.extract 0 n).size ≤ 200 := by rw [ByteArray.size_extract]; omega
          have hP : (s.extract n (n + u)).size ≤ 200 := by rw [ByteArray.size_extract]; omega
          have hP2 : (s.extract n (n + u)).size ≤ u := by rw [ByteArray.size_extract]; omega
          have hj : s.extract 0 n ++ s.extract n (n + u) = s.extract 0 (n + u) := by
            rw [ByteArray.extract_append_extract]
            congr 1 <;> omega
          have HJ := Lib.hid hj
          obtain ⟨a, ha⟩ : ∃ a, a = s.extract 0 n := ⟨_, rfl⟩
          obtain ⟨q, hq⟩ : ∃ q, q = s.extract n (n + u) := ⟨_, rfl⟩
          rw [← ha] at hA HJ ⊢
          rw [← hq] at hP hP2 HJ HC1
          clear C1 hj ha hq
          have hlt' : (n : Int) < s.size := by omega
          go_wp2_with fail
          refine HC1.out.mono ?_
          rintro e w4 ⟨he, D4, b4⟩
          change e = .returned (.tuple #[.string q, .int .i64 0]) at he
          subst he
          go_wp2
          exact ⟨⟨n + u, by go_num, by rw [HJ.out], by omega, D4, bR.trans b4⟩, by simp [RowKit.intOf]; omega⟩
        · have hall : s.extract 0 n = s := by
            rw [extract_bs0, List.take_of_length_le (by simp; omega)]
            exact bs_of s
          rw [hall]
          have C1 := HG.out wr D
          rw [getR_some (show lookO nO [⟨nO, s, 0, ck⟩] = some ⟨nO, s, 0, ck⟩ by simp [lookO])] at C1
          have HC1 := Lib.hid C1
          have R1 := range_one s 0 ck s.size 5 (Nat.le_refl _)
          have R2 := range_past s 0 ck (s.size + 1) 5 (by omega)
          have he0 : s.extract s.size (s.size + 5) = ByteArray.empty := by
            apply ByteArray.ext
            simp
          rw [he0] at R1
          have HR1 := Lib.hid R1; have HR2 := Lib.hid R2
          have hsz' : ¬ (n : Int) < s.size := by omega
          clear C1 R1 R2 he0 hall
          go_wp2_with fail
          refine HC1.out.mono ?_
          rintro e w4 ⟨he, D4, b4⟩
          change e = .returned (.tuple #[.string s, .int .i64 0]) at he
          subst he
          have C2 := HR.out s.size 5 w4 D4 (by omega) (by omega)
          have r1 := HR1.out
          change rangeR nO (s.size : Int) 5 _ = _ at r1
          rw [r1] at C2
          have HC2 := Lib.hid C2
          clear C2 r1
          go_wp2_with fail
          refine HC2.out.mono ?_
          rintro e w5 ⟨he, D5, b5⟩
          change e = .returned (.tuple #[.string ByteArray.empty, .int .i64 0]) at he
          subst he
          have C3 := HR.out ((s.size : Int) + 1) 5 w5 D5 (by omega) (by omega)
          have r2 := HR2.out
          change rangeR nO ((s.size : Int) + 1) 5 _ = _ at r2
          rw [r2] at C3
          have HC3 := Lib.hid C3
          clear C3 r2
          go_wp2_with fail
          refine HC3.out.mono ?_
          rintro e w6 ⟨he, D6, b6⟩
          change e = .returned (.tuple #[.string ByteArray.empty, .int .i64 1]) at he
          subst he
          go_wp2
          go_ret
          exact ⟨rfl, ((bR.trans b4).trans b5).trans b6⟩
end Go.Proofs.Ytfjihookoilnnaa
