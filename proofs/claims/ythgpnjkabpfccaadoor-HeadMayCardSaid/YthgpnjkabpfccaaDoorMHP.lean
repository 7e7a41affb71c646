/- Layer 15: HeadMay, walked. -/
import Derived.Test.YthgpnjkabpfccaaDoorMHO
namespace Go.Proofs.YthgpnjkabpfccaaDoor
open Go.RowKit Go.Lib

set_option maxHeartbeats 2000000 in
set_option maxRecDepth 100000 in
theorem headmay_any (se sa wd : Int) (w : World) :
    Calls Tryd.prog 3 #[.agg #[.int .i64 se, .int .i64 sa, .int .i64 wd]] w fun e w' => e = .returned (.bool true) ∧ Below w.heap.size w w' := by
  have AW := Lib.hid (fun W => awake15_any W)
  have HB := (Below.refl w.heap.size w).alloc (Nat.le_refl _) (.cells #[.int .i64 se, .int .i64 sa, .int .i64 wd] 23)
  have Q := heap_alloc_new w (.cells #[.int .i64 se, .int .i64 sa, .int .i64 wd] 23)
  have F := Lib.hid (fun W (b : Below (w.alloc (.cells #[.int .i64 se, .int .i64 sa, .int .i64 wd] 23)).heap.size (w.alloc (.cells #[.int .i64 se, .int .i64 sa, .int .i64 wd] 23)) W) => (show W.cell? ⟨w.heap.size, 0, none⟩ = some (.int .i64 se) ∧ W.cell? ⟨w.heap.size, 1, none⟩ = some (.int .i64 sa) ∧ W.cell? ⟨w.heap.size, 2, none⟩ = some (.int .i64 wd) from ⟨Lib.cell_of_heap (kept_below b Q) 0, Lib.cell_of_heap (kept_below b Q) 1, Lib.cell_of_heap (kept_below b Q) 2⟩))
  have HB := Lib.hid HB
  clear Q
  by_cases hg : CfgGood se sa wd
  · have C := Lib.hid (fun W => hcfg_good se sa wd W hg)
    have N := Lib.hid (fun W => hnew_good se sa wd W hg)
    obtain ⟨h1, h2, h3, h4, h5, h6⟩ := hg
    go_enter Tryd.func3, Tryd.ntmps3
    go_wp2_with fail
    refine (N.out _).mono ?_
    rintro e w1 ⟨b, ms, mi, mp, mh, ml, rfl, _, _, _, _, _, _, _, _, b1⟩
    obtain ⟨c0, c1, c2⟩ := F.out _ b1
    go_wp2_with fail
    refine (AW.out _).mono ?_
    rintro e w2 ⟨rfl, b2⟩
    have b12 := b1.trans (b2.mono b1.size)
    obtain ⟨d0, d1, d2⟩ := F.out _ b12
    go_wp2_with fail
    refine (C.out _).mono ?_
    rintro e w3 ⟨rfl, b3⟩
    have FIN := Lib.hid (HB.out.trans ((b12.trans (b3.mono b12.size)).mono HB.out.size))
    clear c0 c1 c2 d0 d1 d2 b1 b2 b3 b12
    go_wp2
    go_ret
    exact ⟨rfl, FIN.out⟩
  · have C := Lib.hid (fun W => hcfg_bad se sa wd W hg)
    have N := Lib.hid (fun W => hnew_bad se sa wd W hg)
    unfold CfgGood at hg
    have hc : (¬ 1 ≤ se) ∨ (1 ≤ se ∧ ¬ se ≤ 10000) ∨ (1 ≤ se ∧ se ≤ 10000 ∧ ¬ 1 ≤ sa) ∨ (1 ≤ se ∧ se ≤ 10000 ∧ 1 ≤ sa ∧ ¬ sa ≤ 1048576) ∨ (1 ≤ se ∧ se ≤ 10000 ∧ 1 ≤ sa ∧ sa ≤ 1048576 ∧ ¬ 1 ≤ wd) ∨ (1 ≤ se ∧ se ≤ 10000 ∧ 1 ≤ sa ∧ sa ≤ 1048576 ∧ 1 ≤ wd ∧ ¬ wd ≤ 1073741824) := by omega
    clear hg
    rcases hc with a1 | ⟨a1, a2⟩ | ⟨a1, a2, a3⟩ | ⟨a1, a2, a3, a4⟩ | ⟨a1, a2, a3, a4, a5⟩ | ⟨a1, a2, a3, a4, a5, a6⟩ <;>
    · go_enter Tryd.func3, Tryd.ntmps3
      go_wp2_with fail
      refine (N.out _).mono ?_
      rintro e w1 ⟨rfl, b1⟩
      obtain ⟨c0, c1, c2⟩ := F.out _ b1
      go_wp2_with fail
      refine (AW.out _).mono ?_
      rintro e w2 ⟨rfl, b2⟩
      have b12 := b1.trans (b2.mono b1.size)
      obtain ⟨d0, d1, d2⟩ := F.out _ b12
      go_wp2_with fail
      refine (C.out _).mono ?_
      rintro e w3 ⟨rfl, b3⟩
      have FIN := Lib.hid (HB.out.trans ((b12.trans (b3.mono b12.size)).mono HB.out.size))
      clear c0 c1 c2 d0 d1 d2 b1 b2 b3 b12
      go_wp2
      go_ret
      exact ⟨rfl, FIN.out⟩
end Go.Proofs.YthgpnjkabpfccaaDoor
