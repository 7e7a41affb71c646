/- Layer 4: Sync. -/
import Derived.Test.YtiegokjdnlhlcaaMD7
namespace Go.Proofs.Ytiegokjdnlhlcaa
open Go.Conc Go.RowKit

/-- Two boxes laid. -/
theorem boxes2 (w : World) (x y : Value) (s t : TypeId) (W0 : World) (hW : W0 = (w.alloc (.cells #[x] s)).alloc (.cells #[y] t)) :
    Below w.heap.size w W0 ∧ W0.heap.size = w.heap.size + 2 ∧ W0.cell? ⟨w.heap.size, 0, none⟩ = some x ∧ W0.cell? ⟨w.heap.size + 1, 0, none⟩ = some y := by
  subst hW
  have hb := heap_alloc_new (w.alloc (.cells #[x] s)) (.cells #[y] t)
  rw [show (w.alloc (.cells #[x] s)).heap.size = w.heap.size + 1 by simp] at hb
  refine ⟨((Below.refl _ w).alloc (Nat.le_refl _) _).alloc (by simp) _, by simp, ?_, ?_⟩
  · rw [World.cell?_alloc_past _ _ _ (by simp), cell_of_row _ _ 0 _ _ _ (heap_alloc_new w _)]; rfl
  · rw [cell_of_row _ _ 0 _ _ _ hb]; rfl

theorem sync_none (base d f c m : Nat) (room : Int) (fs : List Fl) (A : List Ft) (clock : Nat) (name : ByteArray) (w : World) (h : DiskAt base d f c m room fs A clock w) (hl : lookF name fs = none) :
    Calls Try.prog 40 #[.pointer (some ⟨d, 0, none⟩), .string name] w fun e w' => e = .returned (.int .i64 5) ∧ Now base d f c m room fs fs A w w' := by
  go_enter Try.func40, Try.ntmps40
  go_wp2_with fail
  obtain ⟨W0, hW0⟩ : ∃ W0, W0 = (w.alloc (.cells #[.pointer (some ⟨d, 0, none⟩)] 23)).alloc (.cells #[.string name] 9) := ⟨_, rfl⟩
  rw [← hW0]
  obtain ⟨b0, z0, k0, k1⟩ := boxes2 w _ _ _ _ W0 hW0
  have D0 := h.below b0
  have c3 := D0.c3
  have hm := D0.map
  have hdl : d < W0.heap.size := Nat.lt_of_lt_of_le h.dlt (Nat.le_trans h.hb b0.size)
  have hml : m < W0.heap.size := Nat.lt_of_lt_of_le h.mlt (Nat.le_trans h.hb b0.size)
  have hl0 := run_look (P := Try.prog) (w := W0) Try.underlying30 Try.underlying9 (fval (.slice none 0 0) 0) zero_file hm name true
  have hl1 := run_look (P := Try.prog) (w := W0.drew) Try.underlying30 Try.underlying9 (fval (.slice none 0 0) 0) zero_file hm name true
  have hl2 := run_look (P := Try.prog) (w := (W0.alloc (.cells #[.slice none 0 0, .int .i64 0] 53)).drew) Try.underlying30 Try.underlying9 (fval (.slice none 0 0) 0) zero_file (show MapIs m (fs.map Fl.en) clock _ from (Below.heap_alloc W0 _ _ hml).trans hm) name true
  have a3 : ∀ o, (W0.alloc o).cell? ⟨d, 3, none⟩ = some (.map (some m)) := fun o => (World.cell?_alloc_past _ _ _ hdl).trans c3
  have a0 : ∀ o, (W0.alloc o).cell? ⟨w.heap.size, 0, none⟩ = some (.pointer (some ⟨d, 0, none⟩)) := fun o => (World.cell?_alloc_past _ _ _ (show w.heap.size < W0.heap.size by omega)).trans k0
  have a1 : ∀ o, (W0.alloc o).cell? ⟨w.heap.size + 1, 0, none⟩ = some (.string name) := fun o => (World.cell?_alloc_past _ _ _ (show w.heap.size + 1 < W0.heap.size by omega)).trans k1
  rw [look_en, hl] at hl0 hl1 hl2
  simp only [if_true, Option.map_none, Option.getD_none, Option.isSome_none] at hl0 hl1 hl2
  unfold fval at hl0 hl1 hl2
  clear hW0
  go_region
  all_goals
    go_wp2
    go_ret
    refine ⟨rfl, Now.same h (b0.trans ?_)⟩
    exact ((Below.refl _ W0).alloc b0.size _).drew
theorem sync_go (base d f c m : Nat) (room : Int) (fs : List Fl) (A : List Ft) (clock : Nat) (name : ByteArray) (w : World) (h : DiskAt base d f c m room fs A clock w) (x : Fl) (hl : lookF name fs = some x) :
    Calls Try.prog 40 #[.pointer (some ⟨d, 0, none⟩), .string name] w fun e w' => e = .returned (.int .i64 (if (tryL A).1.1 then 0 else 8)) ∧
      Now base d f c m room fs (if (tryL A).1.2 then setF name x.v x.data x.data.length clock fs else fs) (tryL A).2 w w' := by
  obtain ⟨hx, rfl⟩ := look_mem name fs x hl
  obtain ⟨a, cap, hv⟩ := (h.files.sl x hx).slice
  obtain ⟨n, hn⟩ : ∃ n, n = x.data.length := ⟨_, rfl⟩
  rw [← hn] at hv
  go_enter Try.func40, Try.ntmps40
  go_wp2_with fail
  obtain ⟨W0, hW0⟩ : ∃ W0, W0 = (w.alloc (.cells #[.pointer (some ⟨d, 0, none⟩)] 23)).alloc (.cells #[.string x.name] 9) := ⟨_, rfl⟩
  rw [← hW0]
  obtain ⟨b0, z0, k0, k1⟩ := boxes2 w _ _ _ _ W0 hW0
  have D0 := h.below b0
  have c3 := D0.c3
  have hm := D0.map
  have hdl : d < W0.heap.size := Nat.lt_of_lt_of_le h.dlt (Nat.le_trans h.hb b0.size)
  have hml : m < W0.heap.size := Nat.lt_of_lt_of_le h.mlt (Nat.le_trans h.hb b0.size)
  have hl0 := run_look (P := Try.prog) (w := W0) Try.underlying30 Try.underlying9 (fval (.slice none 0 0) 0) zero_file hm x.name true
  have hl1 := run_look (P := Try.prog) (w := W0.drew) Try.underlying30 Try.underlying9 (fval (.slice none 0 0) 0) zero_file hm x.name true
  have hl2 := run_look (P := Try.prog) (w := (W0.alloc (.cells #[.slice none 0 0, .int .i64 0] 53)).drew) Try.underlying30 Try.underlying9 (fval (.slice none 0 0) 0) zero_file (show MapIs m (fs.map Fl.en) clock _ from (Below.heap_alloc W0 _ _ hml).trans hm) x.name true
  have a3 : ∀ o, (W0.alloc o).cell? ⟨d, 3, none⟩ = some (.map (some m)) := fun o => (World.cell?_alloc_past _ _ _ hdl).trans c3
  have a0 : ∀ o, (W0.alloc o).cell? ⟨w.heap.size, 0, none⟩ = some (.pointer (some ⟨d, 0, none⟩)) := fun o => (World.cell?_alloc_past _ _ _ (show w.heap.size < W0.heap.size by omega)).trans k0
  have a1 : ∀ o, (W0.alloc o).cell? ⟨w.heap.size + 1, 0, none⟩ = some (.string x.name) := fun o => (World.cell?_alloc_past _ _ _ (show w.heap.size + 1 < W0.heap.size by omega)).trans k1
  rw [look_en, hl] at hl0 hl1 hl2
  simp only [if_true, Option.map_some, Option.getD_some, Option.isSome_some, Fl.en, hv] at hl0 hl1 hl2
  unfold fval at hl0 hl1 hl2
  clear hW0
  have HN := Lib.hid hn
  have HV := Lib.hid hv
  clear hn hv
  go_region
  all_goals
    obtain ⟨W1, hW1⟩ : ∃ W1, W1 = (W0.alloc (.cells #[.slice a n cap, .int .i64 x.sure] 53)).drew := ⟨_, rfl⟩
    rw [← hW1]
    have b01 : Below W0.heap.size W0 W1 := by rw [hW1]; exact ((Below.refl _ W0).alloc (Nat.le_refl _) _).drew
    have b1 : Below w.heap.size w W1 := b0.trans (b01.mono b0.size)
    have z1 : W1.heap.size = w.heap.size + 3 := by rw [hW1]; simp; omega
    have hblk : W1.heap[w.heap.size + 2]? = some (.cells #[.slice a n cap, .int .i64 x.sure] 53) := by rw [hW1, ← z0]; exact heap_alloc_new W0 _
    have q0 : W1.cell? ⟨w.heap.size, 0, none⟩ = some (.pointer (some ⟨d, 0, none⟩)) := (b01.cell (p := ⟨w.heap.size, 0, none⟩) (show w.heap.size < W0.heap.size by omega)).trans k0
    have q1 : W1.cell? ⟨w.heap.size + 1, 0, none⟩ = some (.string x.name) := (b01.cell (p := ⟨w.heap.size + 1, 0, none⟩) (show w.heap.size + 1 < W0.heap.size by omega)).trans k1
    obtain ⟨q2, q3, _, _⟩ := box2 hblk
    have D1 := h.below b1
    have e0 := D1.c0
    clear hl0 hl1 hl2 a0 a1 a3 hW1 hblk c3 k0 k1
    have HD := Lib.hid (do_sync f c #[.pointer (some ⟨w.heap.size, 0, none⟩), .pointer (some ⟨w.heap.size + 1, 0, none⟩), .pointer (some ⟨w.heap.size + 2, 0, none⟩)] A W1
      (fun W er w' => er = 0 ∧ Now base d f c m room fs (setF x.name x.v x.data x.data.length clock fs) (tryL A).2 W w') D1.fuse (by
        intro W hA t
        have D2 := D1.tried t hA
        have hlt := Mine.lt h
        have hown : ∀ k, w.heap.size ≤ k → ¬ Own f c k := fun k hk e => by
          rcases e with e | e
          · have := h.flt; have := h.hb; omega
          · have := h.clt; have := h.hb; omega
        have ht : ∀ k o v, k < W1.heap.size → w.heap.size ≤ k → W1.cell? ⟨k, o, none⟩ = some v → W.cell? ⟨k, o, none⟩ = some v := fun k o v hk hk2 hc => (t.cell (p := ⟨k, o, none⟩) hk (hown k hk2)).trans hc
        refine (sync1_any base d f c m room fs (tryL A).2 clock x a n cap w.heap.size (w.heap.size + 1) (w.heap.size + 2) x.sure W D2 hx HV.out (ht _ _ _ (by omega) (by omega) q0) (ht _ _ _ (by omega) (by omega) q1) (ht _ _ _ (by omega) (by omega) q2) (ht _ _ _ (by omega) (by omega) q3) ?_).mono ?_
        · intro k hk
          have hz := t.size
          refine ⟨by omega, fun hm => ?_⟩
          have := hlt k hm
          omega
        · rintro e w' ⟨er, he, h0, hv⟩
          exact ⟨er, he, h0, hv⟩))
    go_wp2_with fail
    refine HD.out.mono ?_
    rintro e w2 ⟨W, hA, t, hif⟩
    have N1 : Now base d f c m room fs fs (tryL A).2 w W := Now.tried h b1 t hA
    cases hdn : (tryL A).1.2
    · rw [hdn] at hif
      obtain ⟨rfl, rfl⟩ := hif
      go_wp2
      all_goals
        go_ret
        exact ⟨rfl, N1⟩
    · rw [hdn] at hif
      obtain ⟨er, ⟨rfl, hv⟩, rfl⟩ := hif
      go_wp2
      all_goals
        go_ret
        exact ⟨rfl, N1.trans hv⟩
end Go.Proofs.Ytiegokjdnlhlcaa
