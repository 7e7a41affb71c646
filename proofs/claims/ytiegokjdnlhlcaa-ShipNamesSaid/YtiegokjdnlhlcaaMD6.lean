/- Layer 4: small calls: a remainder, a file's beginning, new fuses, new disks. -/
import Derived.Test.YtiegokjdnlhlcaaMD5
import Derived.Handy
import Derived.Conc.SmallLaws
namespace Go.Proofs.Ytiegokjdnlhlcaa
open Go.Conc Go.RowKit

theorem mod_any (x n : Int) (w : World) (hn : 0 < n) (hn2 : n ≤ 1000001) :
    Calls Try.prog 19 #[.int .i64 x, .int .i64 n] w fun e w' => e = .returned (.int .i64 (x % n)) ∧ w = w' := by
  have h1 : x.tmod n < n := Int.tmod_lt_of_pos x hn
  have h2 : -n < x.tmod n := by have := Int.lt_tmod_of_pos x hn; omega
  have h3 : (x.tmod n + n).tmod n = x % n := by
    rw [Int.tmod_eq_emod_of_nonneg (by omega), Int.add_emod_right]
    have := Int.mul_tdiv_add_tmod x n
    rw [show x.tmod n = x + n * (-(x.tdiv n)) by rw [Int.mul_neg]; omega, Int.add_mul_emod_self_left]
  have H3 := Lib.hid h3
  have hn0 : n ≠ 0 := by omega
  have hw : wrap64 (x.tmod n + n) = x.tmod n + n := IntWalk.wrap64_in _ ⟨by omega, by omega⟩
  have HW := Lib.hid hw
  clear h1 h2 h3 hw
  go_enter Try.func19, Try.ntmps19
  go_wp2
  go_ret
  refine ⟨?_, rfl⟩
  have h := H3.out
  rw [← HW.out] at h
  rw [← h]
  rfl

theorem mk_chan (w : World) : (Instr.makeChan 39 (.int .i64 16)).run Try.prog w = .ok (.chan (some w.heap.size)) (w.alloc (.chan 16 #[] false 0 0 false)) := by
  have h : (Try.prog.info? 41).map (fun i => decide (i.bytes ≤ 64)) = some true := by kernel_rfl
  obtain ⟨i, hi, hb⟩ := Option.map_eq_some_iff.1 h
  have hb' : i.bytes ≤ 64 := by simpa using hb
  simpa using Go.Conc.run_makeChan (P := Try.prog) (w := w) Try.underlying39 hi .i64 16 (by omega) (by omega)

theorem newfuse_any (w : World) : Calls Try.prog 9 #[] w fun e w' => e = .returned (.pointer (some ⟨w.heap.size + 1, 0, none⟩)) ∧ Holds (w.heap.size + 1) w.heap.size [] w' ∧ Below w.heap.size w w' ∧ w'.heap.size = w.heap.size + 2 := by
  have hmk := mk_chan
  go_enter Try.func9, Try.ntmps9
  go_wp2
  go_ret
  obtain ⟨W1, hW1⟩ : ∃ W1, W1 = w.alloc (.chan 16 #[] false 0 0 false) := ⟨_, rfl⟩
  have z1 : W1.heap.size = w.heap.size + 1 := by rw [hW1]; simp
  have hc : W1.heap[w.heap.size]? = some (.chan 16 #[] false 0 0 false) := by rw [hW1]; exact heap_alloc_new w _
  have b1 : Below w.heap.size w W1 := by rw [hW1]; exact (Below.refl _ w).alloc (Nat.le_refl _) _
  rw [← hW1]
  obtain ⟨W2, hW2⟩ : ∃ W2, W2 = W1.alloc (.cells #[.chan (some w.heap.size), .bool false, .int .i64 0, .bool false] 43) := ⟨_, rfl⟩
  have z2 : W2.heap.size = w.heap.size + 2 := by rw [hW2]; simp; omega
  have hf : W2.heap[w.heap.size + 1]? = some (.cells #[.chan (some w.heap.size), .bool false, .int .i64 0, .bool false] 43) := by
    rw [hW2]; have := heap_alloc_new W1 (.cells #[.chan (some w.heap.size), .bool false, .int .i64 0, .bool false] 43); rw [z1] at this; exact this
  have hc2 : W2.heap[w.heap.size]? = some (.chan 16 #[] false 0 0 false) := by rw [hW2, Below.heap_alloc _ _ _ (by omega)]; exact hc
  rw [← hW2]
  have hcell : ∀ o v, (#[Value.chan (some w.heap.size), Value.bool false, Value.int IntKind.i64 0, Value.bool false] : Array Value)[o]? = some v → W2.cell? ⟨w.heap.size + 1, o, none⟩ = some v := fun o v hv => by
    rw [cell_of_row _ _ o _ _ _ hf]; exact hv
  have hfr : ∀ o, W2.frozen? ⟨w.heap.size + 1, o, none⟩ = false := fun o => by simp only [World.frozen?, hf]; rfl
  refine ⟨rfl, ⟨[], false, (0, false), ⟨by omega, by omega, by omega, hcell _ _ rfl, hcell _ _ rfl, hcell _ _ rfl, hcell _ _ rfl, hfr _, hfr _, hfr _, ⟨0, 0, hc2⟩, by simp, by simp, by unfold Ft.Fits; decide⟩, rfl⟩, ?_, z2⟩
  rw [hW2]
  exact b1.alloc (by omega) _

theorem new_disk (R : Int) (w w1 : World) (h0 : 0 ≤ R) (h1 : R ≤ 9223372036854775807) (hh : Holds (w.heap.size + 1) w.heap.size [] w1) (b1 : Below w.heap.size w w1) (z1 : w1.heap.size = w.heap.size + 2) :
    DiskAt (w.heap.size + 4) (w.heap.size + 3) (w.heap.size + 1) w.heap.size (w.heap.size + 2) R [] [] 0 ((w1.alloc (.map #[] 0)).alloc (.cells #[.pointer (some ⟨w.heap.size + 1, 0, none⟩), .int .i64 R, .int .i64 0, .map (some (w.heap.size + 2))] 32)) ∧
    Below w.heap.size w ((w1.alloc (.map #[] 0)).alloc (.cells #[.pointer (some ⟨w.heap.size + 1, 0, none⟩), .int .i64 R, .int .i64 0, .map (some (w.heap.size + 2))] 32)) := by
  obtain ⟨W2, hW2⟩ : ∃ W2, W2 = w1.alloc (.map #[] 0) := ⟨_, rfl⟩
  have z2 : W2.heap.size = w.heap.size + 3 := by rw [hW2]; simp; omega
  have hm : W2.heap[w.heap.size + 2]? = some (.map #[] 0) := by rw [hW2]; have := heap_alloc_new w1 (.map #[] 0); rw [z1] at this; exact this
  have b2 : Below w1.heap.size w1 W2 := by rw [hW2]; exact (Below.refl _ _).alloc (Nat.le_refl _) _
  rw [← hW2]
  obtain ⟨W3, hW3⟩ : ∃ W3, W3 = W2.alloc (.cells #[.pointer (some ⟨w.heap.size + 1, 0, none⟩), .int .i64 R, .int .i64 0, .map (some (w.heap.size + 2))] 32) := ⟨_, rfl⟩
  have z3 : W3.heap.size = w.heap.size + 4 := by rw [hW3]; simp; omega
  have hd : W3.heap[w.heap.size + 3]? = some (.cells #[.pointer (some ⟨w.heap.size + 1, 0, none⟩), .int .i64 R, .int .i64 0, .map (some (w.heap.size + 2))] 32) := by
    rw [hW3]; have := heap_alloc_new W2 (.cells #[.pointer (some ⟨w.heap.size + 1, 0, none⟩), .int .i64 R, .int .i64 0, .map (some (w.heap.size + 2))] 32); rw [z2] at this; exact this
  have b3 : Below W2.heap.size W2 W3 := by rw [hW3]; exact (Below.refl _ _).alloc (Nat.le_refl _) _
  rw [← hW3]
  have hcell : ∀ o v, (#[Value.pointer (some ⟨w.heap.size + 1, 0, none⟩), Value.int IntKind.i64 R, Value.int IntKind.i64 0, Value.map (some (w.heap.size + 2))] : Array Value)[o]? = some v → W3.cell? ⟨w.heap.size + 3, o, none⟩ = some v := fun o v hv => by
    rw [cell_of_row _ _ o _ _ _ hd]; exact hv
  have t13 : Turn (fun _ => False) w1 W3 := (Turn.of_below b2).trans (Turn.of_below b3)
  refine ⟨⟨by omega, by omega, by omega, by omega, by omega, by omega, by omega, by omega, by omega, by omega, by omega, hcell _ _ rfl, hcell _ _ rfl, hcell _ _ rfl, hcell _ _ rfl, by simp only [World.frozen?, hd]; rfl, hh.turn t13 (fun h => h) (fun h => h), ?_, ⟨by simp, by simp, by simp, by simp⟩, h0, h1, by decide, ⟨by simp, by simp⟩⟩, ?_⟩
  · show W3.heap[w.heap.size + 2]? = _
    rw [b3.block _ (by omega)]; exact hm
  · exact (b1.trans (b2.mono (by omega))).trans (b3.mono (by omega))

theorem new_any (room : Int) (w : World) (h1 : room ≤ 9223372036854775807) (h0 : -9223372036854775808 ≤ room) : Calls Try.prog 4 #[.int .i64 room] w fun e w' => e = .returned (.pointer (some ⟨w.heap.size + 3, 0, none⟩)) ∧
      DiskAt (w.heap.size + 4) (w.heap.size + 3) (w.heap.size + 1) w.heap.size (w.heap.size + 2) (max room 0) [] [] 0 w' ∧ Below w.heap.size w w' := by
  have hmm := @run_makeMap Try.prog
  by_cases hr : room < 0
  · rw [show max room 0 = 0 by omega]
    go_enter Try.func4, Try.ntmps4
    go_wp2_with fail
    refine (newfuse_any _).mono ?_
    rintro e w1 ⟨rfl, hh, b1, z1⟩
    have N := Lib.hid (new_disk 0 w w1 (by decide) (by decide) hh b1 z1)
    go_wp2
    go_ret
    exact ⟨rfl, N.out⟩
  · rw [show max room 0 = room by omega]
    have hr' : 0 ≤ room := by omega
    go_enter Try.func4, Try.ntmps4
    go_wp2_with fail
    refine (newfuse_any _).mono ?_
    rintro e w1 ⟨rfl, hh, b1, z1⟩
    have N := Lib.hid (new_disk room w w1 hr' h1 hh b1 z1)
    go_wp2
    go_ret
    exact ⟨rfl, N.out⟩
end Go.Proofs.Ytiegokjdnlhlcaa
