/- DiskKeeps. -/
import Derived.Test.YtfhpbjokgijdfaaE0
namespace Go.Proofs.Ytfhpbjokgijdfaa
open Go.Conc Go.RowKit

theorem cutB_le (s : ByteArray) (n : Nat) : (cutB s n).size ≤ n := by
  obtain ⟨l, h, hl⟩ := cut_list s n
  rw [h]
  simpa [bs, ByteArray.size] using hl

set_option maxHeartbeats 1000000 in
set_option maxRecDepth 100000 in
theorem dkeeps_any (a0 a1 : ByteArray) (a2 : Option Addr) (len2 cap2 : Nat) (z2 : List Int) (w : World) (w2 : IntsAt w a2 len2 cap2 z2) :
    Calls Try.prog 11 #[.string a0, .string a1, .slice a2 len2 cap2] w fun e w' => e = .returned (.bool true) ∧ Below w.heap.size w w' := by
  obtain ⟨a, ha⟩ : ∃ a, a = cutB a0 60 := ⟨_, rfl⟩
  obtain ⟨b, hb⟩ : ∃ b, b = cutB a1 60 := ⟨_, rfl⟩
  have ha60 : a.size ≤ 60 := by rw [ha]; exact cutB_le a0 60
  have hb60 : b.size ≤ 60 := by rw [hb]; exact cutB_le a1 60
  have K0 := fun W => cut_any a0 60 W (by decide)
  have K1 := fun W => cut_any a1 60 W (by decide)
  rw [show (60 : Int).toNat = 60 from rfl] at K0 K1
  rw [← ha] at K0
  rw [← hb] at K1
  have HK0 := Lib.hid K0; have HK1 := Lib.hid K1
  have HNew := Lib.hid (fun W => new_home 1000 W (by decide) (by decide))
  have HAw := Lib.hid (fun W => dawake_any W)
  clear K0 K1 ha hb
  go_enter Try.func11, Try.ntmps11
  go_wp2_with fail
  refine (HK0.out _).mono ?_
  rintro e x1 ⟨rfl, rfl⟩
  go_wp2_with fail
  refine (HK1.out _).mono ?_
  rintro e x1 ⟨rfl, rfl⟩
  go_wp2_with fail
  refine (HNew.out _).mono ?_
  rintro e x1 ⟨base, d, f, c, m, rfl, D1, hH, b1⟩
  go_wp2_with fail
  refine (HAw.out _).mono ?_
  rintro e x2 ⟨rfl, b2⟩
  have D2 := D1.below b2
  have C1 := Lib.hid (one_append0 w.heap.size _ _ _ _ _ _ _ ⟨#[102]⟩ a x2 D2 hH (by decide) (by omega) (by omega))
  go_wp2_with fail
  refine C1.out.mono ?_
  rintro e x3 ⟨rfl, O3, b3⟩
  have C2 := Lib.hid (one_sync w.heap.size _ _ _ _ _ _ _ _ _ x3 O3 hH)
  go_wp2_with fail
  refine C2.out.mono ?_
  rintro e x4 ⟨rfl, O4, b4⟩
  have hal : a.data.toList.length = a.size := Array.length_toList
  have C3 := Lib.hid (one_append w.heap.size _ _ _ _ _ _ _ b _ _ [] x4 O4 hH (by decide) (by rw [hal]; omega) (by rw [hal]; omega) rfl)
  go_wp2_with fail
  refine C3.out.mono ?_
  rintro e x5 ⟨he, O5, b5⟩
  rw [show (if (tryL []).1.1 = true then (0 : Int) else 8) = 0 from rfl] at he
  subst he
  obtain ⟨hzl, hzi, hzr, hzb⟩ := w2
  have bA : Below w.heap.size w x5 := (((b1.trans (b2.mono b1.size)).trans b3).trans b4).trans b5
  have zA := bA.size
  have hi5 : IntsIn x5 (.slice a2 len2 cap2) z2 := hzi.on fun h0 k hk => bA.block k (hzb h0 k hk)
  have C4 := Lib.hid (one_crash w.heap.size _ _ _ _ _ _ _ _ _ _ (.slice a2 len2 cap2) z2 (if 0 < z2.length then (Value.slice a2 len2 cap2).ownBlock else none) x5 x5 O5 (Below.refl _ _) hH hi5 hzr (fun h0 k hk => by rw [if_pos h0]; exact hk) (fun k hk => by
    split at hk
    · rename_i h0
      have := hzb h0 k hk
      exact ⟨by omega, .inl this⟩
    · cases hk))
  go_wp2_with fail
  refine C4.out.mono ?_
  rintro e x6 ⟨rfl, O6, b6⟩
  have hsz : (a.data.toList ++ b.data.toList).length = a.size + b.size := by rw [List.length_append]; rfl
  obtain ⟨K, hK⟩ : ∃ K, K = left1 (a.data.toList ++ b.data.toList).length a.data.toList.length (z2.headD 0) := ⟨_, rfl⟩
  rw [← hK] at O6
  have hKb := left1_le (a.data.toList ++ b.data.toList).length a.data.toList.length (z2.headD 0) (by rw [List.length_append]; omega)
  rw [← hK, hsz, hal] at hKb
  rw [hsz, hal] at hK
  have C5 := Lib.hid (one_read _ _ _ _ _ _ _ _ _ _ x6 O6)
  obtain ⟨S, hS⟩ : ∃ S : ByteArray, S = ⟨(List.take K (a.data.toList ++ b.data.toList)).toArray⟩ := ⟨_, rfl⟩
  rw [← hS] at C5
  have hSK : S.size = K := by
    rw [hS]
    show (List.take K (a.data.toList ++ b.data.toList)).toArray.size = K
    rw [List.size_toArray, List.length_take, hsz]; omega
  have hEx : (((a ++ b).extract 0 S.size).toList == S.toList) = true := by
    rw [ext_toList, hSK, ByteArray.toList_eq S, hS, ByteArray.data_append, Array.toList_append]
    simp
  have hS1 : a.size ≤ S.size := by omega
  have hS2 : S.size ≤ a.size + b.size := by omega
  rw [← hSK] at hK
  have HS := Lib.hid hS; have HSK := Lib.hid hSK; have HK := Lib.hid hK
  have bB : Below w.heap.size w x6 := bA.trans b6
  clear hS hSK hK hKb C1 C2 C3 C4 O6 hsz hal
  go_wp2_with fail
  refine C5.out.mono ?_
  rintro e x7 ⟨rfl, b7⟩
  have bC : Below w.heap.size w x7 := bB.trans (b7.mono bB.size)
  have hmx : ¬ (9223372036854775807 < a.size + b.size) := by omega
  by_cases hz0 : z2.length = 0
  · have hl0 : len2 = 0 := by omega
    subst hl0
    go_wp2_with fail
    go_ret
    exact ⟨rfl, bC⟩
  · obtain ⟨ac, cap, hv, _, hcx⟩ := hzi
    obtain ⟨g, off, rfl, hcc⟩ := hcx (by omega)
    simp only [Value.slice.injEq] at hv
    obtain ⟨rfl, hv2, rfl⟩ := hv
    clear hv2
    have hpos : 0 < len2 := by omega
    have hc0 := hcc 0 (by omega)
    have hg := hzb (by omega) g rfl
    have hc7 : x7.cell? ⟨g, off, none⟩ = some (.int .i64 (z2.getD 0 0)) := (bC.cell (p := ⟨g, off, none⟩) hg).trans hc0
    obtain ⟨ch, hch⟩ : ∃ ch, ch = z2.getD 0 0 := ⟨_, rfl⟩
    have hhd : z2.headD 0 = ch := by rw [hch]; cases z2 <;> rfl
    have hr := hzr.2 ch (by rw [hch]; cases z2 with | nil => simp at hz0 | cons y ys => simp)
    rw [← hch] at hc7
    have hkk := HK.out
    rw [hhd] at hkk
    have HC := Lib.hid hkk
    clear hzl hz0 hcc hcx hc0 hch hhd hkk hi5 hzr hzb
    by_cases n1 : ch < 0
    · go_wp2_with fail
      go_ret
      exact ⟨rfl, bC⟩
    · by_cases n2 : (b.size : Int) < ch
      · have d1 : decide (ch < 0) = false := by simp; omega
        go_wp2_with fail
        go_ret
        exact ⟨rfl, bC⟩
      · have d1 : decide (ch < 0) = false := by simp; omega
        have d2 : decide ((b.size : Int) < ch) = false := by simp; omega
        have hS3 : (S.size : Int) = (a.size : Int) + ch := by
          rw [HC.out]
          unfold left1
          have h1 : ch % ((a.size + b.size - a.size : Nat) + 1 : Int) = ch := Int.emod_eq_of_lt (by omega) (by omega)
          rw [h1]
          omega
        have w3k : IntKind.i64.wrap ((a.size : Int) + ch) = (S.size : Int) := by rw [← hS3]; exact IntWalk.i64_in _ (by omega)
        have hS4 := hS3.symm
        clear hS3
        go_wp2_with fail
        go_ret
        exact ⟨rfl, bC⟩
end Go.Proofs.Ytfhpbjokgijdfaa
