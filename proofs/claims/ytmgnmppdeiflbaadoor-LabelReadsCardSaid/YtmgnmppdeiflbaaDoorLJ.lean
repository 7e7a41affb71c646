/- Layer 6: a pair, a set taken from bytes. -/
import Derived.Test.YtmgnmppdeiflbaaDoorLE
namespace Go.Proofs.YtmgnmppdeiflbaaDoor
open Go.RowKit Go.Lib

/-- The pair at the beginning of bytes, what is left, the error. -/
def tkP (l : List UInt8) : Pr × List UInt8 × Nat :=
  if (Leb.takeT l 40).2.2 ≠ 0 then (⟨[], []⟩, [], (Leb.takeT l 40).2.2)
  else if (Leb.takeT (Leb.takeT l 40).2.1 40).2.2 ≠ 0 then (⟨[], []⟩, [], (Leb.takeT (Leb.takeT l 40).2.1 40).2.2)
  else (⟨(Leb.takeT l 40).1, (Leb.takeT (Leb.takeT l 40).2.1 40).1⟩, (Leb.takeT (Leb.takeT l 40).2.1 40).2.1, 0)
def TakenP (w : World) (r : Pr × List UInt8 × Nat) (e : Ending) (w' : World) : Prop := e = .returned (.tuple #[prV r.1, .string (bs r.2.1), .int .i64 r.2.2]) ∧ Below w.heap.size w w'

theorem takeT_left (l : List UInt8) (most : Int) : (Leb.takeT l most).2.1.length ≤ l.length := by
  unfold Leb.takeT
  split
  · simp
  · split
    · simp
    · have : (Leb.takeM l most).2.1.length ≤ l.length := by
        unfold Leb.takeM
        split
        · simp
        · split
          · simp
          · exact Leb.dec_left l 0 0
      simp only [List.length_drop]
      omega

theorem box2 (w : World) (x y a b : Value) (t : TypeId) (k : Nat) :
    ((((w.alloc (.cells #[x, y] t)).drewN k).setCell ⟨w.heap.size, 0, none⟩ a).setCell ⟨w.heap.size, 1, none⟩ b).cell? ⟨w.heap.size, 0, none⟩ = some a ∧
    ((((w.alloc (.cells #[x, y] t)).drewN k).setCell ⟨w.heap.size, 0, none⟩ a).setCell ⟨w.heap.size, 1, none⟩ b).cell? ⟨w.heap.size, 1, none⟩ = some b ∧
    Below w.heap.size w ((((w.alloc (.cells #[x, y] t)).drewN k).setCell ⟨w.heap.size, 0, none⟩ a).setCell ⟨w.heap.size, 1, none⟩ b) := by
  have hh : ((w.alloc (.cells #[x, y] t)).drewN k).heap[w.heap.size]? = some (.cells #[x, y] t) := by rw [World.heap_drewN]; exact heap_alloc_new w _
  have c0 : ((w.alloc (.cells #[x, y] t)).drewN k).cell? ⟨w.heap.size, 0, none⟩ = some x := by rw [Lib.cell_of_heap hh]; rfl
  have c1 : ((w.alloc (.cells #[x, y] t)).drewN k).cell? ⟨w.heap.size, 1, none⟩ = some y := by rw [Lib.cell_of_heap hh]; rfl
  refine ⟨?_, ?_, ?_⟩
  · rw [cell_setCell_other _ _ _ _ _ (.inr (by simp))]
    exact cell_setCell_same _ _ _ _ (by rw [c0]; rfl)
  · exact cell_setCell_same _ _ _ _ (by rw [cell_setCell_other _ _ _ _ _ (.inr (by simp)), c1]; rfl)
  · exact (((below_draw ((Below.refl _ _).alloc (Nat.le_refl _) _) _).setCell (Nat.le_refl _) _).setCell (Nat.le_refl _) _)

set_option maxHeartbeats 2000000 in
set_option maxRecDepth 100000 in
theorem takepair_any (l : List UInt8) (w : World) (hl : l.length ≤ 1000000) :
    Calls Tryd.prog 40 #[.string (bs l)] w (TakenP w (tkP l)) := by
  have T1 := Lib.hid (fun W => show Calls Tryd.prog 53 #[.string (bs l), .int .i64 40] W (fun e w' => e = .returned (tupT (Leb.takeT l 40)) ∧ ∃ n, w' = W.drewN n) by
    have := takeT_any (bs l) 40 W (by rw [bs_size]; unfold maxLen; omega) (by omega) (by omega)
    rwa [bs_list] at this)
  have hl1 := takeT_left l 40
  obtain ⟨n1, r1, e1, h1⟩ : ∃ n1 r1 e1, Leb.takeT l 40 = (n1, r1, e1) := ⟨_, _, _, rfl⟩
  have HK : tkP l = if e1 ≠ 0 then (⟨[], []⟩, [], e1) else if (Leb.takeT r1 40).2.2 ≠ 0 then (⟨[], []⟩, [], (Leb.takeT r1 40).2.2) else (⟨n1, (Leb.takeT r1 40).1⟩, (Leb.takeT r1 40).2.1, 0) := by
    unfold tkP; rw [h1]
  rw [h1] at T1 hl1
  unfold tupT at T1
  simp only at T1 hl1
  obtain ⟨S, hS⟩ : ∃ S, S = w.heap.size := ⟨_, rfl⟩
  have b0 : Below w.heap.size w (w.alloc (.cells #[.string ⟨#[]⟩, .string ⟨#[]⟩] 51)) := (Below.refl _ _).alloc (Nat.le_refl _) _
  by_cases he : e1 = 0
  · subst he
    rw [if_neg (by simp)] at HK
    have T2 := Lib.hid (fun W => show Calls Tryd.prog 53 #[.string (bs r1), .int .i64 40] W (fun e w' => e = .returned (tupT (Leb.takeT r1 40)) ∧ ∃ n, w' = W.drewN n) by
      have := takeT_any (bs r1) 40 W (by rw [bs_size]; unfold maxLen; omega) (by omega) (by omega)
      rwa [bs_list] at this)
    obtain ⟨n2, r2, e2, h2⟩ : ∃ n2 r2 e2, Leb.takeT r1 40 = (n2, r2, e2) := ⟨_, _, _, rfl⟩
    rw [h2] at T2 HK
    unfold tupT at T2
    simp only at T2 HK
    by_cases he2 : e2 = 0
    · subst he2
      rw [if_neg (by simp)] at HK
      have HK' := Lib.hid HK
      clear HK h1 h2
      go_enter Tryd.func40, Tryd.ntmps40
      go_wp2_with fail
      refine (T1.out _).mono ?_
      rintro e w1 ⟨rfl, m1, rfl⟩
      go_wp2_with fail
      refine (T2.out _).mono ?_
      rintro e w2 ⟨rfl, m2, rfl⟩
      obtain ⟨p0, p1, pb⟩ := box2 w (.string ⟨#[]⟩) (.string ⟨#[]⟩) (.string (bs n1)) (.string (bs n2)) 51 (m1 + m2)
      go_wp2
      exact bodyPost_ret (v := .tuple #[.agg #[.string (bs n1), .string (bs n2)], .string (bs r2), .int .i64 0]) (by simp [results, Tryd.results40, go_sem, p0, p1]) rfl ⟨by rw [HK'.out]; rfl, pb⟩
    · rw [if_pos he2] at HK
      have HK' := Lib.hid HK
      have hne : ((e2 : Int) != 0) = true := by simp; omega
      clear HK h1 h2
      go_enter Tryd.func40, Tryd.ntmps40
      go_wp2_with fail
      refine (T1.out _).mono ?_
      rintro e w1 ⟨rfl, m1, rfl⟩
      go_wp2_with fail
      refine (T2.out _).mono ?_
      rintro e w2 ⟨rfl, m2, rfl⟩
      obtain ⟨p0, p1, pb⟩ := box2 w (.string ⟨#[]⟩) (.string ⟨#[]⟩) (.string ⟨#[]⟩) (.string ⟨#[]⟩) 51 (m1 + m2)
      go_wp2
      exact bodyPost_ret (v := .tuple #[.agg #[.string ⟨#[]⟩, .string ⟨#[]⟩], .string ⟨#[]⟩, .int .i64 e2]) (by simp [results, Tryd.results40, go_sem, p0, p1]) rfl ⟨by rw [HK'.out]; rfl, pb⟩
  · rw [if_pos he] at HK
    have HK' := Lib.hid HK
    have hne : ((e1 : Int) != 0) = true := by simp; omega
    clear HK h1
    go_enter Tryd.func40, Tryd.ntmps40
    go_wp2_with fail
    refine (T1.out _).mono ?_
    rintro e w1 ⟨rfl, m1, rfl⟩
    obtain ⟨p0, p1, pb⟩ := box2 w (.string ⟨#[]⟩) (.string ⟨#[]⟩) (.string ⟨#[]⟩) (.string ⟨#[]⟩) 51 m1
    go_wp2
    exact bodyPost_ret (v := .tuple #[.agg #[.string ⟨#[]⟩, .string ⟨#[]⟩], .string ⟨#[]⟩, .int .i64 e1]) (by simp [results, Tryd.results40, go_sem, p0, p1]) rfl ⟨by rw [HK'.out]; rfl, pb⟩
end Go.Proofs.YtmgnmppdeiflbaaDoor
