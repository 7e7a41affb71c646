/- Layer 4: Rename. Layer 4: Rename. -/
import Derived.Test.YtiegokjdnlhlcaaMD15
namespace Go.Proofs.Ytiegokjdnlhlcaa
open Go.Conc Go.RowKit

theorem del_mem (k : ByteArray) : ∀ fs : List Fl, (fs.map (·.name)).Nodup → ∀ y ∈ delF k fs, y.name ≠ k
  | [], _, y, h => by cases h
  | e :: es, hn, y, h => by
    rw [List.map_cons, List.nodup_cons] at hn
    unfold delF at h
    by_cases hk : k = e.name
    · rw [if_pos hk] at h
      exact fun e2 => hn.1 (List.mem_map.2 ⟨y, h, by rw [e2, hk]⟩)
    · rw [if_neg hk] at h
      rcases List.mem_cons.1 h with rfl | h
      · exact fun e2 => hk e2.symm
      · exact del_mem k es hn.2 y h

set_option maxHeartbeats 1000000 in
set_option maxRecDepth 100000 in
theorem rename1_any (base d f c m : Nat) (room : Int) (fs : List Fl) (A : List Ft) (clock : Nat) (x : Fl) (a : Option Addr) (n cap : Nat) (name : ByteArray) (bd bn bm bf : Nat) (w : World) (h : DiskAt base d f c m room fs A clock w) (hx : x ∈ fs) (hv : x.v = .slice a n cap)
    (p0 : w.cell? ⟨bd, 0, none⟩ = some (.pointer (some ⟨d, 0, none⟩))) (p1 : w.cell? ⟨bn, 0, none⟩ = some (.string x.name)) (p2 : w.cell? ⟨bm, 0, none⟩ = some (.string name)) (p3 : w.cell? ⟨bf, 0, none⟩ = some (.slice a n cap)) (p4 : w.cell? ⟨bf, 1, none⟩ = some (.int .i64 x.sure))
    (q : ∀ k, k = bd ∨ k = bn ∨ k = bm ∨ k = bf → k < w.heap.size ∧ ¬ Mine d f c m fs k) :
    Calls Try.prog 55 #[.pointer (some ⟨bd, 0, none⟩), .pointer (some ⟨bn, 0, none⟩), .pointer (some ⟨bm, 0, none⟩), .pointer (some ⟨bf, 0, none⟩)] w fun e w' => ∃ er, e = .returned (.int .i64 er) ∧ er = 0 ∧ ∃ b, Now base d f c m room fs (setF name x.v x.data x.sure b (delF x.name fs)) A w w' := by
  obtain ⟨hsl, hnc, hn⟩ := files_cut h.files x hx a n cap n hv (Nat.le_refl _)
  have hlook := look_of h.files.names x hx
  have hval : valF x.name fs = .slice a n cap := by unfold valF; rw [hlook]; exact hv
  have hlen : lenF x.name fs = n := by unfold lenF; rw [hlook]; exact hn.symm
  have hu := used_del x.name fs
  rw [List.take_of_length_le (by omega)] at hsl
  have hap : ∀ y ∈ delF x.name fs, y.name ≠ name → ∀ i, (Value.slice a n cap).ownBlock = some i → y.v.ownBlock ≠ some i := fun y hy _ => by
    rw [← hval]; exact files_apart h.files x.name y ((del_sub x.name fs).subset hy) (del_mem x.name fs h.files.names y hy)
  have hsm := h.small
  have hsure := h.files.sure x hx
  have H1 := Lib.hid (drop_any base d f c m room fs A clock x.name w h)
  have H2 := Lib.hid (fun W ck (D : DiskAt base d f c m room (delF x.name fs) A ck W) (hs : Sl W base 1 (.slice a n cap) n (cb x.data)) => dput_any base d f c m room (delF x.name fs) A ck name a n cap x.sure x.data W D (by omega) hn.symm hs (by omega) hap)
  have HV := Lib.hid hv
  have nd : ∀ k, k = bd ∨ k = bn ∨ k = bm ∨ k = bf → ¬ (k = d ∨ k = m) := fun k hk e => (q k hk).2 (by rcases e with e | e; exact .inl e; exact .inr (.inr (.inr (.inl e))))
  have hdB := h.dlt
  have hmB := h.mlt
  clear hn hv hap hlen hval hlook hu
  go_enter Try.func55, Try.ntmps55
  go_wp2_with fail
  refine H1.out.mono ?_
  rintro e w2 ⟨rfl, ⟨ck, D2⟩, t2⟩
  have r0 := (t2.cell (p := ⟨bd, 0, none⟩) (q bd (.inl rfl)).1 (nd bd (.inl rfl))).trans p0
  have r2 := (t2.cell (p := ⟨bm, 0, none⟩) (q bm (.inr (.inr (.inl rfl)))).1 (nd bm (.inr (.inr (.inl rfl))))).trans p2
  have r3 := (t2.cell (p := ⟨bf, 0, none⟩) (q bf (.inr (.inr (.inr rfl)))).1 (nd bf (.inr (.inr (.inr rfl))))).trans p3
  have r4 := (t2.cell (p := ⟨bf, 1, none⟩) (q bf (.inr (.inr (.inr rfl)))).1 (nd bf (.inr (.inr (.inr rfl))))).trans p4
  have hs2 : Sl w2 base 1 (.slice a n cap) n (cb x.data) := hsl.same t2.size fun k hk => t2.block k (hsl.lt k hk).2 fun e => by
    have := (hsl.lt k hk).1
    rcases e with e | e <;> omega
  have C2 := Lib.hid (H2.out w2 ck D2 hs2)
  unfold fval at C2
  clear p0 p1 p2 p3 p4
  go_wp2_with fail
  refine C2.out.mono ?_
  rintro e w4 ⟨rfl, D4, t4⟩
  go_wp2
  go_ret
  refine ⟨0, rfl, rfl, ck, ?_⟩
  have N1 : Now base d f c m room fs (delF x.name fs) A w w2 := Now.del (Below.refl _ w) ⟨ck, D2⟩ t2
  rw [HV.out]
  refine ⟨D4, N1.2.1.trans (t4.mono fun k hk => by rcases hk with e | e; exact .inl e; exact .inr (.inr (.inr (.inl e)))), fun k hk => ?_⟩
  rcases hk with e | e | e | e | ⟨y, hym, hyk⟩
  · exact .inl (.inl e)
  · exact .inl (.inr (.inl e))
  · exact .inl (.inr (.inr (.inl e)))
  · exact .inl (.inr (.inr (.inr (.inl e))))
  · rcases set_mem name _ _ _ _ _ D2.files.names y hym with ⟨h1, _⟩ | ⟨h1, _⟩
    · exact .inl (.inr (.inr (.inr (.inr ⟨y, (del_sub x.name fs).subset h1, hyk⟩))))
    · rw [h1] at hyk
      exact .inl (.inr (.inr (.inr (.inr ⟨x, hx, by rw [HV.out]; exact hyk⟩))))
end Go.Proofs.Ytiegokjdnlhlcaa

namespace Go.Proofs.Ytiegokjdnlhlcaa
open Go.Conc Go.RowKit

/-- Three boxes laid. -/
theorem boxes3 (w : World) (x y z : Value) (s t u : TypeId) (W0 : World) (hW : W0 = ((w.alloc (.cells #[x] s)).alloc (.cells #[y] t)).alloc (.cells #[z] u)) :
    Below w.heap.size w W0 ∧ W0.heap.size = w.heap.size + 3 ∧ W0.cell? ⟨w.heap.size, 0, none⟩ = some x ∧ W0.cell? ⟨w.heap.size + 1, 0, none⟩ = some y ∧ W0.cell? ⟨w.heap.size + 2, 0, none⟩ = some z := by
  obtain ⟨W, hW'⟩ : ∃ W, W = (w.alloc (.cells #[x] s)).alloc (.cells #[y] t) := ⟨_, rfl⟩
  obtain ⟨b, hz, h0, h1⟩ := boxes2 w x y s t W hW'
  rw [← hW'] at hW
  subst hW
  have hb := heap_alloc_new W (.cells #[z] u)
  rw [hz] at hb
  refine ⟨b.alloc (by omega) _, by simp; omega, ?_, ?_, ?_⟩
  · rw [World.cell?_alloc_past _ _ _ (show w.heap.size < W.heap.size by omega)]; exact h0
  · rw [World.cell?_alloc_past _ _ _ (show w.heap.size + 1 < W.heap.size by omega)]; exact h1
  · rw [cell_of_row _ _ 0 _ _ _ hb]; rfl

theorem rename_none (base d f c m : Nat) (room : Int) (fs : List Fl) (A : List Ft) (clock : Nat) (name nw : ByteArray) (w : World) (h : DiskAt base d f c m room fs A clock w) (hl : lookF name fs = none) :
    Calls Try.prog 41 #[.pointer (some ⟨d, 0, none⟩), .string name, .string nw] w fun e w' => e = .returned (.int .i64 5) ∧ Now base d f c m room fs fs A w w' := by
  go_enter Try.func41, Try.ntmps41
  go_wp2_with fail
  obtain ⟨W0, hW0⟩ : ∃ W0, W0 = ((w.alloc (.cells #[.pointer (some ⟨d, 0, none⟩)] 23)).alloc (.cells #[.string name] 9)).alloc (.cells #[.string nw] 9) := ⟨_, rfl⟩
  rw [← hW0]
  obtain ⟨b0, z0, k0, k1, k2⟩ := boxes3 w _ _ _ _ _ _ W0 hW0
  have D0 := h.below b0
  have c3 := D0.c3
  have hm := D0.map
  have hdl : d < W0.heap.size := Nat.lt_of_lt_of_le h.dlt (Nat.le_trans h.hb b0.size)
  have hml : m < W0.heap.size := Nat.lt_of_lt_of_le h.mlt (Nat.le_trans h.hb b0.size)
  have hl0 := run_look (P := Try.prog) (w := W0) Try.underlying30 Try.underlying9 (fval (.slice none 0 0) 0) zero_file hm name true
  have hl1 := run_look (P := Try.prog) (w := W0.drew) Try.underlying30 Try.underlying9 (fval (.slice none 0 0) 0) zero_file hm name true
  have hl2 := run_look (P := Try.prog) (w := (W0.alloc (.cells #[.slice none 0 0, .int .i64 0] 53)).drew) Try.underlying30 Try.underlying9 (fval (.slice none 0 0) 0) zero_file (show MapIs m (fs.map Fl.en) clock _ from (Below.heap_alloc W0 _ _ hml).trans hm) name true
  have a3 : ∀ o, (W0.alloc o).cell? ⟨d, 3, none⟩ = some (.map (some m)) := fun o => (World.cell?_alloc_past _ _ _ hdl).trans c3
  have a0 : ∀ o, (W0.alloc o).cell? ⟨w.heap.size, 0, none⟩ = some (.pointer (some ⟨d, 0, none⟩)) := fun o => (World.cell?_alloc_past _ _ _ (show w.heap.size < W0.heap.size by omega)).trans k0
  have a1 : ∀ o, (W0.alloc o).cell? ⟨w.heap.size + 1, 0, none⟩ = some (.string name) := fun o => (World.cell?_alloc_past _ _ _ (show w.heap.size + 1 < W0.heap.size by omega)).trans k1
  rw [look_en, hl] at hl0 hl1 hl2
  simp only [if_true, Option.map_none, Option.getD_none, Option.isSome_none] at hl0 hl1 hl2
  unfold fval at hl0 hl1 hl2
  clear hW0
  go_region
  all_goals
    go_wp2
    go_ret
    refine ⟨rfl, Now.same h (b0.trans ?_)⟩
    exact ((Below.refl _ W0).alloc b0.size _).drew
theorem rename_bad (base d f c m : Nat) (room : Int) (fs : List Fl) (A : List Ft) (clock : Nat) (name nw : ByteArray) (w : World) (h : DiskAt base d f c m room fs A clock w) (x : Fl) (hl : lookF name fs = some x) (hn1 : ¬ (0 < nw.size ∧ nw.size ≤ 40)) :
    Calls Try.prog 41 #[.pointer (some ⟨d, 0, none⟩), .string name, .string nw] w fun e w' => e = .returned (.int .i64 1) ∧ Now base d f c m room fs fs A w w' := by
  have hmb := fun W => maybe_any nw W
  rw [decide_eq_false hn1] at hmb
  have HM := Lib.hid hmb
  clear hmb hn1
  obtain ⟨hx, rfl⟩ := look_mem name fs x hl
  obtain ⟨a, cap, hv⟩ := (h.files.sl x hx).slice
  obtain ⟨n, hn⟩ : ∃ n, n = x.data.length := ⟨_, rfl⟩
  rw [← hn] at hv
  go_enter Try.func41, Try.ntmps41
  go_wp2_with fail
  obtain ⟨W0, hW0⟩ : ∃ W0, W0 = ((w.alloc (.cells #[.pointer (some ⟨d, 0, none⟩)] 23)).alloc (.cells #[.string x.name] 9)).alloc (.cells #[.string nw] 9) := ⟨_, rfl⟩
  rw [← hW0]
  obtain ⟨b0, z0, k0, k1, k2⟩ := boxes3 w _ _ _ _ _ _ W0 hW0
  have D0 := h.below b0
  have c3 := D0.c3
  have hm := D0.map
  have hdl : d < W0.heap.size := Nat.lt_of_lt_of_le h.dlt (Nat.le_trans h.hb b0.size)
  have hml : m < W0.heap.size := Nat.lt_of_lt_of_le h.mlt (Nat.le_trans h.hb b0.size)
  have hl0 := run_look (P := Try.prog) (w := W0) Try.underlying30 Try.underlying9 (fval (.slice none 0 0) 0) zero_file hm x.name true
  have hl1 := run_look (P := Try.prog) (w := W0.drew) Try.underlying30 Try.underlying9 (fval (.slice none 0 0) 0) zero_file hm x.name true
  have hl2 := run_look (P := Try.prog) (w := (W0.alloc (.cells #[.slice none 0 0, .int .i64 0] 53)).drew) Try.underlying30 Try.underlying9 (fval (.slice none 0 0) 0) zero_file (show MapIs m (fs.map Fl.en) clock _ from (Below.heap_alloc W0 _ _ hml).trans hm) x.name true
  have a3 : ∀ o, (W0.alloc o).cell? ⟨d, 3, none⟩ = some (.map (some m)) := fun o => (World.cell?_alloc_past _ _ _ hdl).trans c3
  have a0 : ∀ o, (W0.alloc o).cell? ⟨w.heap.size, 0, none⟩ = some (.pointer (some ⟨d, 0, none⟩)) := fun o => (World.cell?_alloc_past _ _ _ (show w.heap.size < W0.heap.size by omega)).trans k0
  have a1 : ∀ o, (W0.alloc o).cell? ⟨w.heap.size + 1, 0, none⟩ = some (.string x.name) := fun o => (World.cell?_alloc_past _ _ _ (show w.heap.size + 1 < W0.heap.size by omega)).trans k1
  rw [look_en, hl] at hl0 hl1 hl2
  simp only [if_true, Option.map_some, Option.getD_some, Option.isSome_some, Fl.en, hv] at hl0 hl1 hl2
  unfold fval at hl0 hl1 hl2
  clear hW0
  have HN := Lib.hid hn
  have HV := Lib.hid hv
  clear hn hv
  go_region
  all_goals
    obtain ⟨W1, hW1⟩ : ∃ W1, W1 = (W0.alloc (.cells #[.slice a n cap, .int .i64 x.sure] 53)).drew := ⟨_, rfl⟩
    rw [← hW1]
    have b01 : Below W0.heap.size W0 W1 := by rw [hW1]; exact ((Below.refl _ W0).alloc (Nat.le_refl _) _).drew
    have b1 : Below w.heap.size w W1 := b0.trans (b01.mono b0.size)
    have z1 : W1.heap.size = w.heap.size + 4 := by rw [hW1]; simp; omega
    have hblk : W1.heap[w.heap.size + 3]? = some (.cells #[.slice a n cap, .int .i64 x.sure] 53) := by rw [hW1, ← z0]; exact heap_alloc_new W0 _
    have q0 : W1.cell? ⟨w.heap.size, 0, none⟩ = some (.pointer (some ⟨d, 0, none⟩)) := (b01.cell (p := ⟨w.heap.size, 0, none⟩) (show w.heap.size < W0.heap.size by omega)).trans k0
    have q1 : W1.cell? ⟨w.heap.size + 1, 0, none⟩ = some (.string x.name) := (b01.cell (p := ⟨w.heap.size + 1, 0, none⟩) (show w.heap.size + 1 < W0.heap.size by omega)).trans k1
    have q4 : W1.cell? ⟨w.heap.size + 2, 0, none⟩ = some (.string nw) := (b01.cell (p := ⟨w.heap.size + 2, 0, none⟩) (show w.heap.size + 2 < W0.heap.size by omega)).trans k2
    clear hl0 hl1 hl2 a0 a1 a3 hW1 hblk c3 k0 k1 k2
    go_wp2_with fail
    refine (HM.out _).mono ?_
    rintro e w2 ⟨rfl, rfl⟩
    go_wp2
    go_ret
    exact ⟨rfl, Now.same h b1⟩
theorem rename_go (base d f c m : Nat) (room : Int) (fs : List Fl) (A : List Ft) (clock : Nat) (name nw : ByteArray) (w : World) (h : DiskAt base d f c m room fs A clock w) (x : Fl) (hl : lookF name fs = some x) (hn1 : 0 < nw.size ∧ nw.size ≤ 40) :
    Calls Try.prog 41 #[.pointer (some ⟨d, 0, none⟩), .string name, .string nw] w fun e w' => e = .returned (.int .i64 (if (tryL A).1.1 then 0 else 8)) ∧
      ∃ b, Now base d f c m room fs (if (tryL A).1.2 then setF nw x.v x.data x.sure b (delF x.name fs) else fs) (tryL A).2 w w' := by
  have hmb := fun W => maybe_any nw W
  rw [decide_eq_true hn1] at hmb
  have HM := Lib.hid hmb
  clear hmb hn1
  obtain ⟨hx, rfl⟩ := look_mem name fs x hl
  obtain ⟨a, cap, hv⟩ := (h.files.sl x hx).slice
  obtain ⟨n, hn⟩ : ∃ n, n = x.data.length := ⟨_, rfl⟩
  rw [← hn] at hv
  go_enter Try.func41, Try.ntmps41
  go_wp2_with fail
  obtain ⟨W0, hW0⟩ : ∃ W0, W0 = ((w.alloc (.cells #[.pointer (some ⟨d, 0, none⟩)] 23)).alloc (.cells #[.string x.name] 9)).alloc (.cells #[.string nw] 9) := ⟨_, rfl⟩
  rw [← hW0]
  obtain ⟨b0, z0, k0, k1, k2⟩ := boxes3 w _ _ _ _ _ _ W0 hW0
  have D0 := h.below b0
  have c3 := D0.c3
  have hm := D0.map
  have hdl : d < W0.heap.size := Nat.lt_of_lt_of_le h.dlt (Nat.le_trans h.hb b0.size)
  have hml : m < W0.heap.size := Nat.lt_of_lt_of_le h.mlt (Nat.le_trans h.hb b0.size)
  have hl0 := run_look (P := Try.prog) (w := W0) Try.underlying30 Try.underlying9 (fval (.slice none 0 0) 0) zero_file hm x.name true
  have hl1 := run_look (P := Try.prog) (w := W0.drew) Try.underlying30 Try.underlying9 (fval (.slice none 0 0) 0) zero_file hm x.name true
  have hl2 := run_look (P := Try.prog) (w := (W0.alloc (.cells #[.slice none 0 0, .int .i64 0] 53)).drew) Try.underlying30 Try.underlying9 (fval (.slice none 0 0) 0) zero_file (show MapIs m (fs.map Fl.en) clock _ from (Below.heap_alloc W0 _ _ hml).trans hm) x.name true
  have a3 : ∀ o, (W0.alloc o).cell? ⟨d, 3, none⟩ = some (.map (some m)) := fun o => (World.cell?_alloc_past _ _ _ hdl).trans c3
  have a0 : ∀ o, (W0.alloc o).cell? ⟨w.heap.size, 0, none⟩ = some (.pointer (some ⟨d, 0, none⟩)) := fun o => (World.cell?_alloc_past _ _ _ (show w.heap.size < W0.heap.size by omega)).trans k0
  have a1 : ∀ o, (W0.alloc o).cell? ⟨w.heap.size + 1, 0, none⟩ = some (.string x.name) := fun o => (World.cell?_alloc_past _ _ _ (show w.heap.size + 1 < W0.heap.size by omega)).trans k1
  rw [look_en, hl] at hl0 hl1 hl2
  simp only [if_true, Option.map_some, Option.getD_some, Option.isSome_some, Fl.en, hv] at hl0 hl1 hl2
  unfold fval at hl0 hl1 hl2
  clear hW0
  have HN := Lib.hid hn
  have HV := Lib.hid hv
  clear hn hv
  go_region
  all_goals
    obtain ⟨W1, hW1⟩ : ∃ W1, W1 = (W0.alloc (.cells #[.slice a n cap, .int .i64 x.sure] 53)).drew := ⟨_, rfl⟩
    rw [← hW1]
    have b01 : Below W0.heap.size W0 W1 := by rw [hW1]; exact ((Below.refl _ W0).alloc (Nat.le_refl _) _).drew
    have b1 : Below w.heap.size w W1 := b0.trans (b01.mono b0.size)
    have z1 : W1.heap.size = w.heap.size + 4 := by rw [hW1]; simp; omega
    have hblk : W1.heap[w.heap.size + 3]? = some (.cells #[.slice a n cap, .int .i64 x.sure] 53) := by rw [hW1, ← z0]; exact heap_alloc_new W0 _
    have q0 : W1.cell? ⟨w.heap.size, 0, none⟩ = some (.pointer (some ⟨d, 0, none⟩)) := (b01.cell (p := ⟨w.heap.size, 0, none⟩) (show w.heap.size < W0.heap.size by omega)).trans k0
    have q1 : W1.cell? ⟨w.heap.size + 1, 0, none⟩ = some (.string x.name) := (b01.cell (p := ⟨w.heap.size + 1, 0, none⟩) (show w.heap.size + 1 < W0.heap.size by omega)).trans k1
    have q4 : W1.cell? ⟨w.heap.size + 2, 0, none⟩ = some (.string nw) := (b01.cell (p := ⟨w.heap.size + 2, 0, none⟩) (show w.heap.size + 2 < W0.heap.size by omega)).trans k2
    obtain ⟨q2, q3, _, _⟩ := box2 hblk
    have D1 := h.below b1
    have e0 := D1.c0
    clear hl0 hl1 hl2 a0 a1 a3 hW1 hblk c3 k0 k1 k2
    have HD := Lib.hid (do_rename f c #[.pointer (some ⟨w.heap.size, 0, none⟩), .pointer (some ⟨w.heap.size + 1, 0, none⟩), .pointer (some ⟨w.heap.size + 2, 0, none⟩), .pointer (some ⟨w.heap.size + 3, 0, none⟩)] A W1
      (fun W er w' => er = 0 ∧ ∃ b, Now base d f c m room fs (setF nw x.v x.data x.sure b (delF x.name fs)) (tryL A).2 W w') D1.fuse (by
        intro W hA t
        have D2 := D1.tried t hA
        have hlt := Mine.lt h
        have hown : ∀ k, w.heap.size ≤ k → ¬ Own f c k := fun k hk e => by
          rcases e with e | e
          · have := h.flt; have := h.hb; omega
          · have := h.clt; have := h.hb; omega
        have ht : ∀ k o v, k < W1.heap.size → w.heap.size ≤ k → W1.cell? ⟨k, o, none⟩ = some v → W.cell? ⟨k, o, none⟩ = some v := fun k o v hk hk2 hc => (t.cell (p := ⟨k, o, none⟩) hk (hown k hk2)).trans hc
        refine (rename1_any base d f c m room fs (tryL A).2 clock x a n cap nw w.heap.size (w.heap.size + 1) (w.heap.size + 2) (w.heap.size + 3) W D2 hx HV.out (ht _ _ _ (by omega) (by omega) q0) (ht _ _ _ (by omega) (by omega) q1) (ht _ _ _ (by omega) (by omega) q4) (ht _ _ _ (by omega) (by omega) q2) (ht _ _ _ (by omega) (by omega) q3) ?_).mono ?_
        · intro k hk
          have hz := t.size
          refine ⟨by omega, fun hm => ?_⟩
          have := hlt k hm
          omega
        · rintro e w' ⟨er, he, h0, hv⟩
          exact ⟨er, he, h0, hv⟩))
    go_wp2_with fail
    refine (HM.out _).mono ?_
    rintro e x2 ⟨rfl, rfl⟩
    go_wp2_with fail
    refine HD.out.mono ?_
    rintro e w2 ⟨W, hA, t, hif⟩
    have N1 : Now base d f c m room fs fs (tryL A).2 w W := Now.tried h b1 t hA
    cases hdn : (tryL A).1.2
    · rw [hdn] at hif
      obtain ⟨rfl, rfl⟩ := hif
      go_wp2
      all_goals
        go_ret
        exact ⟨rfl, N1⟩
    · rw [hdn] at hif
      obtain ⟨er, ⟨rfl, bb, hv⟩, rfl⟩ := hif
      go_wp2
      all_goals
        go_ret
        exact ⟨rfl, bb, N1.trans hv⟩
end Go.Proofs.Ytiegokjdnlhlcaa
