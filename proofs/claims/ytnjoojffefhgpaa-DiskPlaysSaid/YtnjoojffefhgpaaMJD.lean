/- Layer 4: Truncate: none, a number that may not be, done. Layer 4: the disk's files, and the document's list: each call keeps them the same. Layer 4: a crash keeps the disk and the list of the document the same. Layer 4: a call on both disks: the boxes, and what is there behind it. -/
import Derived.Test.YtnjoojffefhgpaaMD17
import Derived.Test.YtnjoojffefhgpaaMD12
import Derived.Test.YtnjoojffefhgpaaMJA
import Derived.Test.YtnjoojffefhgpaaMJB
import Derived.Test.YtnjoojffefhgpaaME4
import Derived.Deep.CutRange
namespace Go.Proofs.Ytnjoojffefhgpaa
open Go.Conc Go.RowKit

set_option maxHeartbeats 1000000 in
set_option maxRecDepth 100000 in
theorem trunc1_any (base d f c m : Nat) (room : Int) (fs : List Fl) (A : List Ft) (clock : Nat) (x : Fl) (a : Option Addr) (n cap bd bn bf bz nn : Nat) (s : Int) (w : World) (h : DiskAt base d f c m room fs A clock w) (hx : x ∈ fs) (hv : x.v = .slice a n cap) (hnn : nn ≤ n)
    (p0 : w.cell? ⟨bd, 0, none⟩ = some (.pointer (some ⟨d, 0, none⟩))) (p1 : w.cell? ⟨bn, 0, none⟩ = some (.string x.name)) (p2 : w.cell? ⟨bf, 0, none⟩ = some (.slice a n cap)) (p3 : w.cell? ⟨bf, 1, none⟩ = some (.int .i64 s)) (p4 : w.cell? ⟨bz, 0, none⟩ = some (.int .i64 nn))
    (q : ∀ k, k = bd ∨ k = bn ∨ k = bf ∨ k = bz → k < w.heap.size ∧ ¬ Mine d f c m fs k) :
    Calls Try.prog 59 #[.pointer (some ⟨bd, 0, none⟩), .pointer (some ⟨bn, 0, none⟩), .pointer (some ⟨bf, 0, none⟩), .pointer (some ⟨bz, 0, none⟩)] w fun e w' => ∃ er, e = .returned (.int .i64 er) ∧ er = 0 ∧ Now base d f c m room fs (setF x.name (.slice a nn cap) (x.data.take nn) nn clock fs) A w w' := by
  obtain ⟨hsl, hnc, hn⟩ := files_cut h.files x hx a n cap nn hv hnn
  have hlook := look_of h.files.names x hx
  have hval : valF x.name fs = .slice a n cap := by unfold valF; rw [hlook]; exact hv
  have hlen : lenF x.name fs = n := by unfold lenF; rw [hlook]; exact hn.symm
  have hap : ∀ y ∈ fs, y.name ≠ x.name → ∀ i, (Value.slice a nn cap).ownBlock = some i → y.v.ownBlock ≠ some i := by
    rw [ownBlock_slice a nn n cap cap, ← hval]; exact files_apart h.files x.name
  have hsm := h.small
  have C1 := fun W => Lib.hid (fcut_any a n cap nn s W hnn hnc)
  have C2 := fun W (D : DiskAt base d f c m room fs A clock W) (hs : Sl W base 1 (.slice a nn cap) nn (cb (x.data.take nn))) => Lib.hid (dput_any base d f c m room fs A clock x.name a nn cap nn (x.data.take nn) W D (by omega) (by rw [List.length_take]; omega) hs (Nat.le_refl _) hap)
  have H1 := Lib.hid C1; have H2 := Lib.hid C2
  have HN := Lib.hid hn
  have HV := Lib.hid hv
  clear C1 C2 hn hv hap hlen hval hlook
  have nd : ∀ k, k = bd ∨ k = bn ∨ k = bf ∨ k = bz → ¬ (k = d ∨ k = m) := fun k hk e => (q k hk).2 (by rcases e with e | e; exact .inl e; exact .inr (.inr (.inr (.inl e))))
  have qd := q bd (.inl rfl); have qn := q bn (.inr (.inl rfl)); have qf := q bf (.inr (.inr (.inl rfl))); have qz := q bz (.inr (.inr (.inr rfl)))
  go_enter Try.func59, Try.ntmps59
  go_wp2_with fail
  go_region_held3 (fun W => W.cell? ⟨bd, 0, none⟩ = some (.pointer (some ⟨d, 0, none⟩)) ∧ W.cell? ⟨bn, 0, none⟩ = some (.string x.name) ∧ W.cell? ⟨bf, 0, none⟩ = some (.slice a n cap) ∧ W.cell? ⟨bf, 1, none⟩ = some (.int .i64 s) ∧ W.cell? ⟨bz, 0, none⟩ = some (.int .i64 nn)) (first | exact ⟨p0, p1, p2, p3, p4⟩ | assumption)
    (first
      | (go_at_call 53; refine (H1.out _).out.mono ?_; rintro e w2 ⟨rfl, b2⟩; unfold fval; have d2 := And.intro ((b2.cell (p := ⟨bd, 0, none⟩) qd.1).trans p0) (And.intro ((b2.cell (p := ⟨bn, 0, none⟩) qn.1).trans p1) (And.intro ((b2.cell (p := ⟨bf, 0, none⟩) qf.1).trans p2) (And.intro ((b2.cell (p := ⟨bf, 1, none⟩) qf.1).trans p3) ((b2.cell (p := ⟨bz, 0, none⟩) qz.1).trans p4)))))
      | (go_at_call 51; refine (H2.out w2 (h.below ((Below.refl _ w).drew.trans b2)) (hsl.on ((Below.refl _ w).drew.trans b2))).out.mono ?_; rintro e w4 ⟨rfl, D4, t4⟩; have d4 := And.intro ((t4.cell (p := ⟨bd, 0, none⟩) (Nat.lt_of_lt_of_le qd.1 b2.size) (nd bd (.inl rfl))).trans d2.1) (And.intro ((t4.cell (p := ⟨bn, 0, none⟩) (Nat.lt_of_lt_of_le qn.1 b2.size) (nd bn (.inr (.inl rfl)))).trans d2.2.1) (And.intro ((t4.cell (p := ⟨bf, 0, none⟩) (Nat.lt_of_lt_of_le qf.1 b2.size) (nd bf (.inr (.inr (.inl rfl))))).trans d2.2.2.1) (And.intro ((t4.cell (p := ⟨bf, 1, none⟩) (Nat.lt_of_lt_of_le qf.1 b2.size) (nd bf (.inr (.inr (.inl rfl))))).trans d2.2.2.2.1) ((t4.cell (p := ⟨bz, 0, none⟩) (Nat.lt_of_lt_of_le qz.1 b2.size) (nd bz (.inr (.inr (.inr rfl))))).trans d2.2.2.2.2))))))
  go_wp2
  go_ret
  refine ⟨0, rfl, rfl, ?_⟩
  exact Now.put h.files.names (fun k hk => .inr (.inr (.inr (.inr ⟨x, hx, by rw [HV.out, ownBlock_slice a n nn cap cap]; exact hk⟩)))) ((Below.refl _ w).drew.trans b2) D4 t4
set_option maxHeartbeats 1000000 in
set_option maxRecDepth 100000 in
theorem trunc_none (base d f c m : Nat) (room : Int) (fs : List Fl) (A : List Ft) (clock : Nat) (name : ByteArray) (n9 : Int) (w : World) (h : DiskAt base d f c m room fs A clock w) (hl : lookF name fs = none) :
    Calls Try.prog 29 #[.pointer (some ⟨d, 0, none⟩), .string name, .int .i64 n9] w fun e w' => e = .returned (.int .i64 5) ∧ Now base d f c m room fs fs A w w' := by
  go_enter Try.func29, Try.ntmps29
  go_wp2_with fail
  obtain ⟨W0, hW0⟩ : ∃ W0, W0 = ((w.alloc (.cells #[.pointer (some ⟨d, 0, none⟩)] 23)).alloc (.cells #[.string name] 9)).alloc (.cells #[.int .i64 n9] 3) := ⟨_, rfl⟩
  rw [← hW0]
  obtain ⟨b0, z0, k0, k1, k2⟩ := boxes3 w _ _ _ _ _ _ W0 hW0
  have D0 := h.below b0
  have c3 := D0.c3
  have hm := D0.map
  have hdl : d < W0.heap.size := Nat.lt_of_lt_of_le h.dlt (Nat.le_trans h.hb b0.size)
  have hml : m < W0.heap.size := Nat.lt_of_lt_of_le h.mlt (Nat.le_trans h.hb b0.size)
  have hl0 := run_look (P := Try.prog) (w := W0) Try.underlying33 Try.underlying9 (fval (.slice none 0 0) 0) zero_file hm name true
  have hl1 := run_look (P := Try.prog) (w := W0.drew) Try.underlying33 Try.underlying9 (fval (.slice none 0 0) 0) zero_file hm name true
  have hl2 := run_look (P := Try.prog) (w := (W0.alloc (.cells #[.slice none 0 0, .int .i64 0] 88)).drew) Try.underlying33 Try.underlying9 (fval (.slice none 0 0) 0) zero_file (show MapIs m (fs.map Fl.en) clock _ from (Below.heap_alloc W0 _ _ hml).trans hm) name true
  have a3 : ∀ o, (W0.alloc o).cell? ⟨d, 3, none⟩ = some (.map (some m)) := fun o => (World.cell?_alloc_past _ _ _ hdl).trans c3
  have a0 : ∀ o, (W0.alloc o).cell? ⟨w.heap.size, 0, none⟩ = some (.pointer (some ⟨d, 0, none⟩)) := fun o => (World.cell?_alloc_past _ _ _ (show w.heap.size < W0.heap.size by omega)).trans k0
  have a1 : ∀ o, (W0.alloc o).cell? ⟨w.heap.size + 1, 0, none⟩ = some (.string name) := fun o => (World.cell?_alloc_past _ _ _ (show w.heap.size + 1 < W0.heap.size by omega)).trans k1
  rw [look_en, hl] at hl0 hl1 hl2
  simp only [if_true, Option.map_none, Option.getD_none, Option.isSome_none] at hl0 hl1 hl2
  unfold fval at hl0 hl1 hl2
  clear hW0
  go_region
  all_goals
    go_wp2
    go_ret
    refine ⟨rfl, Now.same h (b0.trans ?_)⟩
    exact ((Below.refl _ W0).alloc b0.size _).drew
set_option maxHeartbeats 1000000 in
set_option maxRecDepth 100000 in
theorem trunc_bad (base d f c m : Nat) (room : Int) (fs : List Fl) (A : List Ft) (clock : Nat) (name : ByteArray) (n9 : Int) (w : World) (h : DiskAt base d f c m room fs A clock w) (x : Fl) (hl : lookF name fs = some x) (hn1 : ¬ (0 ≤ n9 ∧ n9 ≤ x.data.length)) :
    Calls Try.prog 29 #[.pointer (some ⟨d, 0, none⟩), .string name, .int .i64 n9] w fun e w' => e = .returned (.int .i64 1) ∧ Now base d f c m room fs fs A w w' := by
  obtain ⟨hx, rfl⟩ := look_mem name fs x hl
  obtain ⟨a, cap, hv⟩ := (h.files.sl x hx).slice
  obtain ⟨n, hn⟩ : ∃ n, n = x.data.length := ⟨_, rfl⟩
  rw [← hn] at hv hn1
  go_enter Try.func29, Try.ntmps29
  go_wp2_with fail
  obtain ⟨W0, hW0⟩ : ∃ W0, W0 = ((w.alloc (.cells #[.pointer (some ⟨d, 0, none⟩)] 23)).alloc (.cells #[.string x.name] 9)).alloc (.cells #[.int .i64 n9] 3) := ⟨_, rfl⟩
  rw [← hW0]
  obtain ⟨b0, z0, k0, k1, k2⟩ := boxes3 w _ _ _ _ _ _ W0 hW0
  have D0 := h.below b0
  have c3 := D0.c3
  have hm := D0.map
  have hdl : d < W0.heap.size := Nat.lt_of_lt_of_le h.dlt (Nat.le_trans h.hb b0.size)
  have hml : m < W0.heap.size := Nat.lt_of_lt_of_le h.mlt (Nat.le_trans h.hb b0.size)
  have hl0 := run_look (P := Try.prog) (w := W0) Try.underlying33 Try.underlying9 (fval (.slice none 0 0) 0) zero_file hm x.name true
  have hl1 := run_look (P := Try.prog) (w := W0.drew) Try.underlying33 Try.underlying9 (fval (.slice none 0 0) 0) zero_file hm x.name true
  have hl2 := run_look (P := Try.prog) (w := (W0.alloc (.cells #[.slice none 0 0, .int .i64 0] 88)).drew) Try.underlying33 Try.underlying9 (fval (.slice none 0 0) 0) zero_file (show MapIs m (fs.map Fl.en) clock _ from (Below.heap_alloc W0 _ _ hml).trans hm) x.name true
  have a3 : ∀ o, (W0.alloc o).cell? ⟨d, 3, none⟩ = some (.map (some m)) := fun o => (World.cell?_alloc_past _ _ _ hdl).trans c3
  have a0 : ∀ o, (W0.alloc o).cell? ⟨w.heap.size, 0, none⟩ = some (.pointer (some ⟨d, 0, none⟩)) := fun o => (World.cell?_alloc_past _ _ _ (show w.heap.size < W0.heap.size by omega)).trans k0
  have a1 : ∀ o, (W0.alloc o).cell? ⟨w.heap.size + 1, 0, none⟩ = some (.string x.name) := fun o => (World.cell?_alloc_past _ _ _ (show w.heap.size + 1 < W0.heap.size by omega)).trans k1
  rw [look_en, hl] at hl0 hl1 hl2
  simp only [if_true, Option.map_some, Option.getD_some, Option.isSome_some, Fl.en, hv] at hl0 hl1 hl2
  unfold fval at hl0 hl1 hl2
  clear hW0
  have HN := Lib.hid hn
  have HV := Lib.hid hv
  clear hn hv
  have HB := Lib.hid hn1
  clear hn1
  go_region
  all_goals
    obtain ⟨W1, hW1⟩ : ∃ W1, W1 = (W0.alloc (.cells #[.slice a n cap, .int .i64 x.sure] 88)).drew := ⟨_, rfl⟩
    rw [← hW1]
    have b01 : Below W0.heap.size W0 W1 := by rw [hW1]; exact ((Below.refl _ W0).alloc (Nat.le_refl _) _).drew
    have b1 : Below w.heap.size w W1 := b0.trans (b01.mono b0.size)
    have z1 : W1.heap.size = w.heap.size + 4 := by rw [hW1]; simp; omega
    have hblk : W1.heap[w.heap.size + 3]? = some (.cells #[.slice a n cap, .int .i64 x.sure] 88) := by rw [hW1, ← z0]; exact heap_alloc_new W0 _
    have q0 : W1.cell? ⟨w.heap.size, 0, none⟩ = some (.pointer (some ⟨d, 0, none⟩)) := (b01.cell (p := ⟨w.heap.size, 0, none⟩) (show w.heap.size < W0.heap.size by omega)).trans k0
    have q1 : W1.cell? ⟨w.heap.size + 1, 0, none⟩ = some (.string x.name) := (b01.cell (p := ⟨w.heap.size + 1, 0, none⟩) (show w.heap.size + 1 < W0.heap.size by omega)).trans k1
    have q4 : W1.cell? ⟨w.heap.size + 2, 0, none⟩ = some (.int .i64 n9) := (b01.cell (p := ⟨w.heap.size + 2, 0, none⟩) (show w.heap.size + 2 < W0.heap.size by omega)).trans k2
    obtain ⟨q2, q3, _, _⟩ := box2 hblk
    clear hl0 hl1 hl2 a0 a1 a3 hW1 hblk c3 k0 k1 k2
    by_cases hn0 : n9 < 0
    · go_wp2
      go_ret
      exact ⟨rfl, Now.same h b1⟩
    · have hn2 : (n : Int) < n9 := by have := HB.out; omega
      go_wp2
      go_ret
      exact ⟨rfl, Now.same h b1⟩
set_option maxHeartbeats 1000000 in
set_option maxRecDepth 100000 in
theorem trunc_go (base d f c m : Nat) (room : Int) (fs : List Fl) (A : List Ft) (clock : Nat) (name : ByteArray) (nn : Nat) (w : World) (h : DiskAt base d f c m room fs A clock w) (x : Fl) (hl : lookF name fs = some x) (hnn : nn ≤ x.data.length) :
    Calls Try.prog 29 #[.pointer (some ⟨d, 0, none⟩), .string name, .int .i64 nn] w fun e w' => e = .returned (.int .i64 (if (tryL A).1.1 then 0 else 8)) ∧
      Now base d f c m room fs (if (tryL A).1.2 then setF name (cutV x.v nn) (x.data.take nn) nn clock fs else fs) (tryL A).2 w w' := by
  obtain ⟨hx, rfl⟩ := look_mem name fs x hl
  obtain ⟨a, cap, hv⟩ := (h.files.sl x hx).slice
  obtain ⟨n, hn⟩ : ∃ n, n = x.data.length := ⟨_, rfl⟩
  rw [← hn] at hv hnn
  have hcv : cutV x.v nn = .slice a nn cap := by rw [hv]; rfl
  rw [hcv]
  clear hcv
  have hn0 : ¬ (nn : Int) < 0 := by omega
  have hn2 : ¬ (n : Int) < nn := by omega
  go_enter Try.func29, Try.ntmps29
  go_wp2_with fail
  obtain ⟨W0, hW0⟩ : ∃ W0, W0 = ((w.alloc (.cells #[.pointer (some ⟨d, 0, none⟩)] 23)).alloc (.cells #[.string x.name] 9)).alloc (.cells #[.int .i64 nn] 3) := ⟨_, rfl⟩
  rw [← hW0]
  obtain ⟨b0, z0, k0, k1, k2⟩ := boxes3 w _ _ _ _ _ _ W0 hW0
  have D0 := h.below b0
  have c3 := D0.c3
  have hm := D0.map
  have hdl : d < W0.heap.size := Nat.lt_of_lt_of_le h.dlt (Nat.le_trans h.hb b0.size)
  have hml : m < W0.heap.size := Nat.lt_of_lt_of_le h.mlt (Nat.le_trans h.hb b0.size)
  have hl0 := run_look (P := Try.prog) (w := W0) Try.underlying33 Try.underlying9 (fval (.slice none 0 0) 0) zero_file hm x.name true
  have hl1 := run_look (P := Try.prog) (w := W0.drew) Try.underlying33 Try.underlying9 (fval (.slice none 0 0) 0) zero_file hm x.name true
  have hl2 := run_look (P := Try.prog) (w := (W0.alloc (.cells #[.slice none 0 0, .int .i64 0] 88)).drew) Try.underlying33 Try.underlying9 (fval (.slice none 0 0) 0) zero_file (show MapIs m (fs.map Fl.en) clock _ from (Below.heap_alloc W0 _ _ hml).trans hm) x.name true
  have a3 : ∀ o, (W0.alloc o).cell? ⟨d, 3, none⟩ = some (.map (some m)) := fun o => (World.cell?_alloc_past _ _ _ hdl).trans c3
  have a0 : ∀ o, (W0.alloc o).cell? ⟨w.heap.size, 0, none⟩ = some (.pointer (some ⟨d, 0, none⟩)) := fun o => (World.cell?_alloc_past _ _ _ (show w.heap.size < W0.heap.size by omega)).trans k0
  have a1 : ∀ o, (W0.alloc o).cell? ⟨w.heap.size + 1, 0, none⟩ = some (.string x.name) := fun o => (World.cell?_alloc_past _ _ _ (show w.heap.size + 1 < W0.heap.size by omega)).trans k1
  rw [look_en, hl] at hl0 hl1 hl2
  simp only [if_true, Option.map_some, Option.getD_some, Option.isSome_some, Fl.en, hv] at hl0 hl1 hl2
  unfold fval at hl0 hl1 hl2
  clear hW0
  have HN := Lib.hid hn
  have HV := Lib.hid hv
  clear hn hv
  go_region
  all_goals
    obtain ⟨W1, hW1⟩ : ∃ W1, W1 = (W0.alloc (.cells #[.slice a n cap, .int .i64 x.sure] 88)).drew := ⟨_, rfl⟩
    rw [← hW1]
    have b01 : Below W0.heap.size W0 W1 := by rw [hW1]; exact ((Below.refl _ W0).alloc (Nat.le_refl _) _).drew
    have b1 : Below w.heap.size w W1 := b0.trans (b01.mono b0.size)
    have z1 : W1.heap.size = w.heap.size + 4 := by rw [hW1]; simp; omega
    have hblk : W1.heap[w.heap.size + 3]? = some (.cells #[.slice a n cap, .int .i64 x.sure] 88) := by rw [hW1, ← z0]; exact heap_alloc_new W0 _
    have q0 : W1.cell? ⟨w.heap.size, 0, none⟩ = some (.pointer (some ⟨d, 0, none⟩)) := (b01.cell (p := ⟨w.heap.size, 0, none⟩) (show w.heap.size < W0.heap.size by omega)).trans k0
    have q1 : W1.cell? ⟨w.heap.size + 1, 0, none⟩ = some (.string x.name) := (b01.cell (p := ⟨w.heap.size + 1, 0, none⟩) (show w.heap.size + 1 < W0.heap.size by omega)).trans k1
    have q4 : W1.cell? ⟨w.heap.size + 2, 0, none⟩ = some (.int .i64 nn) := (b01.cell (p := ⟨w.heap.size + 2, 0, none⟩) (show w.heap.size + 2 < W0.heap.size by omega)).trans k2
    obtain ⟨q2, q3, _, _⟩ := box2 hblk
    have D1 := h.below b1
    have e0 := D1.c0
    clear hdl hml
    clear hl0 hl1 hl2 a0 a1 a3 hW1 hblk c3 k0 k1 k2
    have HD := Lib.hid (do_truncate f c #[.pointer (some ⟨w.heap.size, 0, none⟩), .pointer (some ⟨w.heap.size + 1, 0, none⟩), .pointer (some ⟨w.heap.size + 3, 0, none⟩), .pointer (some ⟨w.heap.size + 2, 0, none⟩)] A W1
      (fun W er w' => er = 0 ∧ Now base d f c m room fs (setF x.name (.slice a nn cap) (x.data.take nn) nn clock fs) (tryL A).2 W w') D1.fuse (by
        intro W hA t
        have D2 := D1.tried t hA
        have hlt := Mine.lt h
        have hown : ∀ k, w.heap.size ≤ k → ¬ Own f c k := fun k hk e => by
          rcases e with e | e
          · have := h.flt; have := h.hb; omega
          · have := h.clt; have := h.hb; omega
        have ht : ∀ k o v, k < W1.heap.size → w.heap.size ≤ k → W1.cell? ⟨k, o, none⟩ = some v → W.cell? ⟨k, o, none⟩ = some v := fun k o v hk hk2 hc => (t.cell (p := ⟨k, o, none⟩) hk (hown k hk2)).trans hc
        refine (trunc1_any base d f c m room fs (tryL A).2 clock x a n cap w.heap.size (w.heap.size + 1) (w.heap.size + 3) (w.heap.size + 2) nn x.sure W D2 hx HV.out hnn (ht _ _ _ (by omega) (by omega) q0) (ht _ _ _ (by omega) (by omega) q1) (ht _ _ _ (by omega) (by omega) q2) (ht _ _ _ (by omega) (by omega) q3) (ht _ _ _ (by omega) (by omega) q4) ?_).mono ?_
        · intro k hk
          have hz := t.size
          refine ⟨by omega, fun hm => ?_⟩
          have := hlt k hm
          omega
        · rintro e w' ⟨er, he, h0, hv⟩
          exact ⟨er, he, h0, hv⟩))
    go_wp2_with fail
    refine HD.out.mono ?_
    rintro e w2 ⟨W, hA, t, hif⟩
    have N1 : Now base d f c m room fs fs (tryL A).2 w W := Now.tried h b1 t hA
    cases hdn : (tryL A).1.2
    · rw [hdn] at hif
      obtain ⟨rfl, rfl⟩ := hif
      go_wp2
      all_goals
        go_ret
        exact ⟨rfl, N1⟩
    · rw [hdn] at hif
      obtain ⟨er, ⟨rfl, hv⟩, rfl⟩ := hif
      go_wp2
      all_goals
        go_ret
        exact ⟨rfl, N1.trans hv⟩
end Go.Proofs.Ytnjoojffefhgpaa

namespace Go.Proofs.Ytnjoojffefhgpaa
open Go.Conc Go.RowKit
set_option linter.unusedVariables false

def Fl.toO (x : Fl) : Ob := ⟨x.name, bs x.data, x.sure, x.born⟩
/-- The list is the disk's files, by rising names. -/
def RelD (fs : List Fl) (xs : List Rj) : Prop := RelB (fs.map Fl.toO) xs
theorem look_F (k : ByteArray) : ∀ fs : List Fl, lookO k (fs.map Fl.toO) = (lookF k fs).map Fl.toO
  | [] => rfl
  | e :: es => by
    have ih := look_F k es
    simp only [List.map_cons, lookO, lookF]
    by_cases h : k = e.name
    · rw [if_pos (show k = e.toO.name from h), if_pos h]; rfl
    · rw [if_neg (show ¬ k = e.toO.name from h), if_neg h]; exact ih
theorem set_F (k : ByteArray) (v : Value) (data : List UInt8) (s b : Nat) : ∀ fs : List Fl, (setF k v data s b fs).map Fl.toO = setO k (bs data) s b (fs.map Fl.toO)
  | [] => rfl
  | e :: es => by
    have ih := set_F k v data s b es
    simp only [List.map_cons, setF, setO]
    by_cases h : k = e.name
    · rw [if_pos (show k = e.toO.name from h), if_pos h]; rfl
    · rw [if_neg (show ¬ k = e.toO.name from h), if_neg h, List.map_cons, ih]
theorem del_F (k : ByteArray) : ∀ fs : List Fl, (delF k fs).map Fl.toO = delO k (fs.map Fl.toO)
  | [] => rfl
  | e :: es => by
    have ih := del_F k es
    simp only [List.map_cons, delF, delO]
    by_cases h : k = e.name
    · rw [if_pos (show k = e.toO.name from h), if_pos h]
    · rw [if_neg (show ¬ k = e.toO.name from h), if_neg h, List.map_cons, ih]
def Fl.toR (x : Fl) : Rj := ⟨x.name, bs x.data, x.sure⟩
theorem look_D {fs : List Fl} {xs : List Rj} (h : RelD fs xs) (k : ByteArray) : (lookF k fs = none ∧ atR k xs = none) ∨ ∃ x, lookF k fs = some x ∧ x ∈ fs ∧ x.name = k ∧ atR k xs = some x.toR := by
  rcases look_rel h k with ⟨h1, h2⟩ | ⟨o, i, h1, h2, h3⟩
  · rw [look_F] at h1
    refine .inl ⟨by simpa using h1, ?_⟩
    unfold atR
    rw [h2]
    rfl
  · rw [look_F] at h1
    obtain ⟨x, hx, rfl⟩ := Option.map_eq_some_iff.1 h1
    obtain ⟨hm, hn⟩ := look_mem k fs x hx
    refine .inr ⟨x, hx, hm, hn, ?_⟩
    unfold atR
    rw [h2]
    exact h3
theorem used_D {fs : List Fl} {xs : List Rj} (h : RelD fs xs) : usedR xs = usedF fs := by
  have h1 := (h.2.map fun x : Rj => x.data.size).sum_nat
  unfold usedR usedF
  rw [← h1, List.map_map, List.map_map]
  rw [show ((fun x : Rj => x.data.size) ∘ Ob.toR) ∘ Fl.toO = fun x : Fl => x.data.length from funext fun x => bs_size x.data]
theorem with_D {fs : List Fl} {xs : List Rj} (h : RelD fs xs) (k : ByteArray) (v : Value) (data : List UInt8) (s b : Nat) : RelD (setF k v data s b fs) (withR ⟨k, bs data, (s : Int)⟩ xs) := by
  unfold RelD
  rw [set_F]
  exact with_rel h k (bs data) s b
theorem out_D {fs : List Fl} {xs : List Rj} (h : RelD fs xs) (k : ByteArray) : RelD (delF k fs) (outR k xs) := by
  unfold RelD
  rw [del_F]
  exact out_rel h k
theorem len_D {fs : List Fl} {xs : List Rj} (h : RelD fs xs) : xs.length = fs.length := by
  have := relB_len h
  rwa [List.length_map] at this

/-- Both are the same behind a call. -/
def Both (base d f c m : Nat) (rm : Int) (fs : List Fl) (xs' : List Rj) (A' : List Ft) (W w' : World) : Prop := ∃ fs', Now base d f c m rm fs fs' A' W w' ∧ RelD fs' xs' ∧ usedF fs' ≤ usedF fs + 50 ∧ ((usedF fs : Int) ≤ rm → (usedF fs' : Int) ≤ rm)
def BothE (base d f c m : Nat) (rm : Int) (fs : List Fl) (D : List Rj × List Ft × Int) (W : World) (e : Ending) (w' : World) : Prop := e = .returned (.int .i64 D.2.2) ∧ Both base d f c m rm fs D.1 D.2.1 W w'

theorem play_append (base d f c m : Nat) (rm : Int) (fs : List Fl) (xs : List Rj) (A : List Ft) (clock : Nat) (name s : ByteArray) (w : World) (h : DiskAt base d f c m rm fs A clock w) (hr : RelD fs xs) (hs : s.size ≤ 50) (hu : usedF fs ≤ 900000) :
    Calls Try.prog 18 #[.pointer (some ⟨d, 0, none⟩), .string name, .string s] w (BothE base d f c m rm fs (appR rm name s xs A) w) := by
  by_cases hg : 0 < name.size ∧ name.size ≤ 40
  · by_cases hf : rm - usedR xs < s.size
    · have e : appR rm name s xs A = (xs, A, 7) := by unfold appR; rw [if_pos hg, if_pos hf]
      rw [e]
      rw [used_D hr] at hf
      refine (append_full base d f c m rm fs A clock name s w h hg hf).mono ?_
      rintro e w' ⟨rfl, n⟩
      exact ⟨rfl, fs, n, hr, by omega⟩
    · have e : appR rm name s xs A = triedR (withR ⟨((atR name xs).getD ⟨name, ByteArray.empty, 0⟩).name, ((atR name xs).getD ⟨name, ByteArray.empty, 0⟩).data ++ s, ((atR name xs).getD ⟨name, ByteArray.empty, 0⟩).tm⟩ xs) xs A := by unfold appR; rw [if_pos hg, if_neg hf]
      rw [e]
      rw [used_D hr] at hf
      refine (append_go base d f c m rm fs A clock name s w h hg hf (by omega)).mono ?_
      rintro e w' ⟨rfl, v, n⟩
      refine ⟨rfl, _, n, ?_, ?_⟩
      · show RelD _ (if (tryL A).1.2 = true then _ else xs)
        by_cases hd : (tryL A).1.2 = true
        · rw [if_pos hd, if_pos hd]
          have hw := with_D hr name v (dataF name fs ++ s.data.toList) (sureF name fs) clock
          rw [← bs_append] at hw
          rw [show bs s.data.toList = s from (bs_of s).symm] at hw
          have hy : (⟨name, bs (dataF name fs) ++ s, (sureF name fs : Nat)⟩ : Rj) = ⟨((atR name xs).getD ⟨name, ByteArray.empty, 0⟩).name, ((atR name xs).getD ⟨name, ByteArray.empty, 0⟩).data ++ s, ((atR name xs).getD ⟨name, ByteArray.empty, 0⟩).tm⟩ := by
            unfold dataF sureF
            rcases look_D hr name with ⟨h1, h2⟩ | ⟨x, h1, _, h3, h2⟩
            · rw [h1, h2]; rfl
            · rw [h1, h2, ← h3]; rfl
          rw [← hy]
          exact hw
        · rw [if_neg hd, if_neg hd]; exact hr
      · by_cases hd : (tryL A).1.2 = true
        · rw [if_pos hd]
          have h1 := used_set name v (dataF name fs ++ s.data.toList) (sureF name fs) clock fs
          have h2 : lenF name fs = (dataF name fs).length := by
            unfold lenF dataF
            cases lookF name fs <;> rfl
          rw [List.length_append] at h1
          have h3 : s.data.toList.length = s.size := by rw [Array.length_toList]; rfl
          omega
        · rw [if_neg hd]; omega
  · have e : appR rm name s xs A = (xs, A, 1) := by unfold appR; rw [if_neg hg]
    rw [e]
    refine (append_bad base d f c m rm fs A clock name s w h hg).mono ?_
    rintro e w' ⟨rfl, n⟩
    exact ⟨rfl, fs, n, hr, by omega⟩

/-- What a set file has for bytes. -/
theorem used_le {fs : List Fl} {x : Fl} {k : ByteArray} (hx : lookF k fs = some x) (v : Value) (data : List UInt8) (s b : Nat) (hd : data.length ≤ x.data.length) : usedF (setF k v data s b fs) ≤ usedF fs := by
  have h1 := used_set k v data s b fs
  have h2 : lenF k fs = x.data.length := by unfold lenF; rw [hx]; rfl
  omega
theorem play_sync (base d f c m : Nat) (rm : Int) (fs : List Fl) (xs : List Rj) (A : List Ft) (clock : Nat) (name : ByteArray) (w : World) (h : DiskAt base d f c m rm fs A clock w) (hr : RelD fs xs) :
    Calls Try.prog 19 #[.pointer (some ⟨d, 0, none⟩), .string name] w (BothE base d f c m rm fs (synR name xs A) w) := by
  rcases look_D hr name with ⟨h1, h2⟩ | ⟨x, h1, _, h3, h2⟩
  · have e : synR name xs A = (xs, A, 5) := by unfold synR; rw [h2]
    rw [e]
    refine (sync_none base d f c m rm fs A clock name w h h1).mono ?_
    rintro e w' ⟨rfl, n⟩
    exact ⟨rfl, fs, n, hr, by omega⟩
  · have e : synR name xs A = triedR (withR ⟨x.name, bs x.data, ((bs x.data).size : Int)⟩ xs) xs A := by unfold synR; rw [h2]; rfl
    rw [e]
    refine (sync_go base d f c m rm fs A clock name w h x h1).mono ?_
    rintro e w' ⟨rfl, n⟩
    refine ⟨rfl, _, n, ?_, ?_⟩
    · show RelD _ (if (tryL A).1.2 = true then _ else xs)
      by_cases hd : (tryL A).1.2 = true
      · rw [if_pos hd, if_pos hd, bs_size, h3]; exact with_D hr name x.v x.data x.data.length clock
      · rw [if_neg hd, if_neg hd]; exact hr
    · by_cases hd : (tryL A).1.2 = true
      · rw [if_pos hd]; have := used_le h1 x.v x.data x.data.length clock (Nat.le_refl _); omega
      · rw [if_neg hd]; omega
theorem play_rename (base d f c m : Nat) (rm : Int) (fs : List Fl) (xs : List Rj) (A : List Ft) (clock : Nat) (name s : ByteArray) (w : World) (h : DiskAt base d f c m rm fs A clock w) (hr : RelD fs xs) :
    Calls Try.prog 24 #[.pointer (some ⟨d, 0, none⟩), .string name, .string s] w (BothE base d f c m rm fs (renR name s xs A) w) := by
  rcases look_D hr name with ⟨h1, h2⟩ | ⟨x, h1, _, h3, h2⟩
  · have e : renR name s xs A = (xs, A, 5) := by unfold renR; rw [h2]
    rw [e]
    refine (rename_none base d f c m rm fs A clock name s w h h1).mono ?_
    rintro e w' ⟨rfl, n⟩
    exact ⟨rfl, fs, n, hr, by omega⟩
  · by_cases hg : 0 < s.size ∧ s.size ≤ 40
    · have e : renR name s xs A = triedR (withR ⟨s, bs x.data, (x.sure : Int)⟩ (outR name xs)) xs A := by unfold renR; rw [h2]; simp only; rw [if_pos hg]; rfl
      rw [e]
      refine (rename_go base d f c m rm fs A clock name s w h x h1 hg).mono ?_
      rintro e w' ⟨rfl, b, n⟩
      refine ⟨rfl, _, n, ?_, ?_⟩
      · show RelD _ (if (tryL A).1.2 = true then _ else xs)
        by_cases hd : (tryL A).1.2 = true
        · rw [if_pos hd, if_pos hd, h3]; exact with_D (out_D hr name) s x.v x.data x.sure b
        · rw [if_neg hd, if_neg hd]; exact hr
      · by_cases hd : (tryL A).1.2 = true
        · rw [if_pos hd, h3]
          have u1 := used_set s x.v x.data x.sure b (delF name fs)
          have u2 := used_del name fs
          have u3 : lenF name fs = x.data.length := by unfold lenF; rw [h1]; rfl
          omega
        · rw [if_neg hd]; omega
    · have e : renR name s xs A = (xs, A, 1) := by unfold renR; rw [h2]; simp only; rw [if_neg hg]
      rw [e]
      refine (rename_bad base d f c m rm fs A clock name s w h x h1 hg).mono ?_
      rintro e w' ⟨rfl, n⟩
      exact ⟨rfl, fs, n, hr, by omega⟩
theorem play_remove (base d f c m : Nat) (rm : Int) (fs : List Fl) (xs : List Rj) (A : List Ft) (clock : Nat) (name : ByteArray) (w : World) (h : DiskAt base d f c m rm fs A clock w) (hr : RelD fs xs) :
    Calls Try.prog 25 #[.pointer (some ⟨d, 0, none⟩), .string name] w (BothE base d f c m rm fs (rmvR name xs A) w) := by
  rcases look_D hr name with ⟨h1, h2⟩ | ⟨x, h1, _, h3, h2⟩
  · have hi : idxR name xs = none := by
      rcases look_rel hr name with ⟨_, h4⟩ | ⟨o, i, h4, _, _⟩
      · exact h4
      · rw [look_F, h1] at h4; cases h4
    have e : rmvR name xs A = (xs, A, 5) := by unfold rmvR; rw [hi]; rfl
    rw [e]
    refine (remove_none base d f c m rm fs A clock name w h h1).mono ?_
    rintro e w' ⟨rfl, n⟩
    exact ⟨rfl, fs, n, hr, by omega⟩
  · have hi : (idxR name xs).isSome = true := by
      rcases look_rel hr name with ⟨h4, _⟩ | ⟨o, i, _, h4, _⟩
      · rw [look_F, h1] at h4; cases h4
      · rw [h4]; rfl
    have e : rmvR name xs A = triedR (outR name xs) xs A := by unfold rmvR; rw [if_pos hi]
    rw [e]
    refine (remove_go base d f c m rm fs A clock name w h x h1).mono ?_
    rintro e w' ⟨rfl, n⟩
    refine ⟨rfl, _, n, ?_, ?_⟩
    · show RelD _ (if (tryL A).1.2 = true then _ else xs)
      by_cases hd : (tryL A).1.2 = true
      · rw [if_pos hd, if_pos hd]; exact out_D hr name
      · rw [if_neg hd, if_neg hd]; exact hr
    · by_cases hd : (tryL A).1.2 = true
      · rw [if_pos hd]
        have u2 := used_del name fs
        omega
      · rw [if_neg hd]; omega
theorem play_trunc (base d f c m : Nat) (rm : Int) (fs : List Fl) (xs : List Rj) (A : List Ft) (clock : Nat) (name : ByteArray) (n9 : Int) (w : World) (h : DiskAt base d f c m rm fs A clock w) (hr : RelD fs xs) :
    Calls Try.prog 29 #[.pointer (some ⟨d, 0, none⟩), .string name, .int .i64 n9] w (BothE base d f c m rm fs (rcutR name n9 xs A) w) := by
  rcases look_D hr name with ⟨h1, h2⟩ | ⟨x, h1, _, h3, h2⟩
  · have e : rcutR name n9 xs A = (xs, A, 5) := by unfold rcutR; rw [h2]
    rw [e]
    refine (trunc_none base d f c m rm fs A clock name n9 w h h1).mono ?_
    rintro e w' ⟨rfl, n⟩
    exact ⟨rfl, fs, n, hr, by omega⟩
  · have hsz : (bs x.data).size = x.data.length := bs_size x.data
    by_cases hg : 0 ≤ n9 ∧ n9 ≤ x.data.length
    · obtain ⟨nn, rfl⟩ : ∃ nn : Nat, n9 = nn := ⟨n9.toNat, by omega⟩
      have e : rcutR name nn xs A = triedR (withR ⟨x.name, (bs x.data).extract 0 nn, (nn : Int)⟩ xs) xs A := by
        unfold rcutR
        rw [h2]
        simp only
        rw [if_pos (by show _ ∧ (nn : Int) ≤ (bs x.data).size; omega)]
        rfl
      rw [e]
      refine (trunc_go base d f c m rm fs A clock name nn w h x h1 (by omega)).mono ?_
      rintro e w' ⟨rfl, n⟩
      have hx : (bs x.data).extract 0 nn = bs (x.data.take nn) := by
        refine ByteArray.ext ?_
        simp [bs]
      refine ⟨rfl, _, n, ?_, ?_⟩
      · show RelD _ (if (tryL A).1.2 = true then _ else xs)
        by_cases hd : (tryL A).1.2 = true
        · rw [if_pos hd, if_pos hd, h3, hx]; exact with_D hr name _ (x.data.take nn) nn clock
        · rw [if_neg hd, if_neg hd]; exact hr
      · by_cases hd : (tryL A).1.2 = true
        · rw [if_pos hd]; have := used_le h1 (cutV x.v nn) (x.data.take nn) nn clock (by rw [List.length_take]; omega); omega
        · rw [if_neg hd]; omega
    · have e : rcutR name n9 xs A = (xs, A, 1) := by
        unfold rcutR
        rw [h2]
        simp only
        rw [if_neg (by show ¬ (_ ∧ n9 ≤ (bs x.data).size); omega)]
      rw [e]
      refine (trunc_bad base d f c m rm fs A clock name n9 w h x h1 hg).mono ?_
      rintro e w' ⟨rfl, n⟩
      exact ⟨rfl, fs, n, hr, by omega⟩
end Go.Proofs.Ytnjoojffefhgpaa

namespace Go.Proofs.Ytnjoojffefhgpaa
open Go.Conc Go.RowKit
set_option linter.unusedVariables false

theorem uniq_names : ∀ (a b : List (List UInt8)), a.Perm b → a.Pairwise (fun x y => leB x y = true) → b.Pairwise (fun x y => x < y) → a = b
  | [], b, h, _, _ => h.nil_eq
  | x :: a, [], h, _, _ => by have := h.length_eq; simp at this
  | x :: a, y :: b, h, ha, hb => by
    obtain ⟨ha1, ha2⟩ := List.pairwise_cons.1 ha
    obtain ⟨hb1, hb2⟩ := List.pairwise_cons.1 hb
    have hxy : x = y := by
      rcases List.mem_cons.1 (h.mem_iff.1 List.mem_cons_self) with e | hx
      · exact e
      · rcases List.mem_cons.1 (h.mem_iff.2 List.mem_cons_self) with e | hy
        · exact e.symm
        · have h1 := ha1 y hy
          simp only [leB, decide_eq_true_eq] at h1
          exact absurd (hb1 x hx) (List.not_lt.2 h1)
    subst hxy
    rw [uniq_names a b (List.perm_cons x |>.1 h) ha2 hb2]
theorem sorted_D {fs : List Fl} {xs : List Rj} (h : RelD fs xs) : sortedF fs = xs.map fun x => bl x.name := by
  refine uniq_names _ _ ?_ ?_ ?_
  · refine (List.mergeSort_perm _ leB).trans ?_
    have h1 : namesF ⟨#[]⟩ fs = fs.map fun x => bl x.name := by
      unfold namesF
      refine List.filter_eq_self.2 fun x _ => ?_
      simp [pre]
    rw [h1]
    have h2 := h.2.map fun x : Rj => bl x.name
    rw [List.map_map, List.map_map] at h2
    exact h2
  · exact List.pairwise_mergeSort (fun a b c h1 h2 => by simp only [leB, decide_eq_true_eq] at *; exact List.le_trans h1 h2) (fun a b => by simp only [leB, Bool.or_eq_true, decide_eq_true_eq]; exact List.le_total a b) _
  · rw [List.pairwise_map]
    exact h.1
theorem insL_mid (y : Rj) : ∀ (ls ys : List Rj), (∀ a ∈ ls, bl a.name < bl y.name) → (∀ b ∈ ys, bl y.name < bl b.name) → insL y (ls ++ ys) = ls ++ y :: ys
  | [], [], _, _ => rfl
  | [], b :: ys, _, h => by
    show insL y (b :: ys) = y :: b :: ys
    rw [insL, if_pos (h b List.mem_cons_self)]
  | a :: ls, ys, h, k => by
    show insL y (a :: (ls ++ ys)) = a :: (ls ++ y :: ys)
    rw [insL, if_neg (fun e => bytes_lt_irrefl _ (bytes_lt_trans e (h a List.mem_cons_self))), insL_mid y ls ys (fun b hb => h b (List.mem_cons_of_mem _ hb)) k]
theorem with_mid (y y' : Rj) (ls ys : List Rj) (h : SortR (ls ++ y :: ys)) (hn : y'.name = y.name) : withR y' (ls ++ y :: ys) = ls ++ y' :: ys := by
  obtain ⟨h1, h2, h3⟩ := List.pairwise_append.1 h
  obtain ⟨h4, h5⟩ := List.pairwise_cons.1 h2
  have ha : ∀ a ∈ ls, bl a.name < bl y.name := fun a hm => h3 a hm y List.mem_cons_self
  have e : outR y'.name (ls ++ y :: ys) = ls ++ ys := by
    have f1 : ls.filter (fun x => decide (x.name ≠ y'.name)) = ls := List.filter_eq_self.2 (fun a hm => decide_eq_true fun e => bytes_lt_irrefl (bl y.name) (by have := ha a hm; rw [e, hn] at this; exact this))
    have f2 : ys.filter (fun x => decide (x.name ≠ y'.name)) = ys := List.filter_eq_self.2 (fun b hm => decide_eq_true fun e => bytes_lt_irrefl (bl y.name) (by have := h4 b hm; rw [e, hn] at this; exact this))
    unfold outR
    rw [List.filter_append, List.filter_cons_of_neg (by simp [hn]), f1, f2]
  unfold withR
  rw [e, insL_mid y' ls ys (fun a hm => by rw [hn]; exact ha a hm) (fun b hm => by rw [hn]; exact h4 b hm)]
theorem crash_D : ∀ (ys ls : List Rj) (fs : List Fl) (cs : List Int) (k : Nat), RelD fs (ls ++ ys) → (∀ x ∈ fs, x.sure ≤ x.data.length) → RelD (crashL (ys.map fun x => bl x.name) (cs.drop k) fs) (ls ++ crashR cs k ys)
  | [], ls, fs, cs, k, h, _ => h
  | y :: ys, ls, fs, cs, k, h, hs => by
    obtain ⟨x, hx, hy⟩ : ∃ x ∈ fs, x.toR = y := by
      have hm : y ∈ (fs.map Fl.toO).map Ob.toR := h.2.mem_iff.2 (List.mem_append_right _ List.mem_cons_self)
      rw [List.map_map] at hm
      obtain ⟨x, hx, e⟩ := List.mem_map.1 hm
      exact ⟨x, hx, e⟩
    have hl : lookF x.name fs = some x := look_of (by have := relB_names h; rw [List.map_map] at this; exact this) x hx
    subst hy
    have hsz : (bs x.data).size = x.data.length := bs_size x.data
    have hlo : looseR x.toR = x.data.length - x.sure := by
      show (bs x.data).size - ((x.sure : Nat) : Int).toNat = _
      rw [hsz, Int.toNat_natCast]
    have hc : (cs.drop k).headD 0 = cs.getD k 0 := by
      rw [List.headD_eq_head?_getD, List.head?_drop, List.getD_eq_getElem?_getD]
    rw [List.map_cons]
    by_cases hz : x.data.length - x.sure = 0
    · have e1 : crashL (bl x.toR.name :: ys.map fun x => bl x.name) (cs.drop k) fs = crashL (ys.map fun x => bl x.name) (cs.drop k) fs := crashL_same _ _ _ fs x hl hz
      have e2 : crashR cs k (x.toR :: ys) = x.toR :: crashR cs k ys := by
        show crR x.toR _ :: crashR cs (if looseR x.toR = 0 then k else k + 1) ys = _
        rw [if_pos (hlo.trans hz), crR, if_pos (hlo.trans hz)]
      rw [e1, e2]
      have := crash_D ys (ls ++ [x.toR]) fs cs k (by rw [List.append_assoc]; exact h) hs
      rw [List.append_assoc] at this
      exact this
    · have hln : leftR x.toR (cs.getD k 0) = leftN x (cs.getD k 0) := by
        unfold leftR leftN
        rw [show x.toR.tm.toNat = x.sure from Int.toNat_natCast _, show x.toR.data.size = x.data.length from hsz]
      have hle := (leftN_le x (cs.getD k 0) (hs x hx)).1
      obtain ⟨n, hn⟩ : ∃ n, n = leftN x (cs.getD k 0) := ⟨_, rfl⟩
      have e1 : crashL (bl x.toR.name :: ys.map fun x => bl x.name) (cs.drop k) fs = crashL (ys.map fun x => bl x.name) (cs.drop (k + 1)) (setF x.name (cutV x.v n) (x.data.take n) n 0 fs) := by
        have := crashL_cut (bl x.name) (ys.map fun x => bl x.name) (cs.drop k) fs x hl hz
        rw [hc, List.tail_drop, ← hn] at this
        exact this
      have e3 : crR x.toR (cs.getD k 0) = ⟨x.name, bs (x.data.take n), (n : Nat)⟩ := by
        rw [crR, if_neg (fun e => hz (hlo.symm.trans e)), hln, ← hn]
        show (⟨x.name, (bs x.data).extract 0 n, (min n (bs x.data).size : Nat)⟩ : Rj) = _
        rw [hsz, Nat.min_eq_left (by omega)]
        congr 1
        refine ByteArray.ext ?_
        simp [bs]
      have e2 : crashR cs k (x.toR :: ys) = ⟨x.name, bs (x.data.take n), (n : Nat)⟩ :: crashR cs (k + 1) ys := by
        show crR x.toR _ :: crashR cs (if looseR x.toR = 0 then k else k + 1) ys = _
        rw [if_neg (fun e => hz (hlo.symm.trans e)), e3]
      rw [e1, e2]
      have hw := with_D h x.name (cutV x.v n) (x.data.take n) n 0
      rw [with_mid x.toR ⟨x.name, bs (x.data.take n), (n : Nat)⟩ ls ys h.1 rfl] at hw
      have := crash_D ys (ls ++ [⟨x.name, bs (x.data.take n), (n : Nat)⟩]) _ cs (k + 1) (by rw [List.append_assoc]; exact hw) (fun z hz => by
        rcases set_mem _ _ _ _ _ fs (by have := relB_names h; rw [List.map_map] at this; exact this) z hz with ⟨h1, _⟩ | ⟨_, h2, h3, _⟩
        · exact hs z h1
        · rw [h2, h3, List.length_take]; omega)
      rw [List.append_assoc] at this
      exact this
theorem crash_used (cs : List Int) : ∀ (k : Nat) (xs : List Rj), usedR (crashR cs k xs) ≤ usedR xs
  | _, [] => Nat.le_refl _
  | k, x :: xs => by
    have ih := crash_used cs (if looseR x = 0 then k else k + 1) xs
    show (crR x (cs.getD k 0)).data.size + usedR (crashR cs _ xs) ≤ x.data.size + usedR xs
    have h1 : (crR x (cs.getD k 0)).data.size ≤ x.data.size := by
      unfold crR
      split
      · exact Nat.le_refl _
      · rw [ByteArray.size_extract]; omega
    omega
theorem play_crash (base d f c m : Nat) (rm : Int) (fs : List Fl) (xs : List Rj) (A : List Ft) (clock : Nat) (v : Value) (cs : List Int) (gc : Option Nat) (w : World) (h : DiskAt base d f c m rm fs A clock w) (hr : RelD fs xs) (hfew : fs.length ≤ 1000)
    (hi : IntsIn w v cs) (hrc : Reach cs) (hg : 0 < cs.length → ∀ k, v.ownBlock = some k → gc = some k) (hgc : ∀ k, gc = some k → k < w.heap.size ∧ ¬ Mine d f c m fs k) :
    Calls Try.prog 20 #[.pointer (some ⟨d, 0, none⟩), v] w fun e w' => e = .returned (.tuple #[]) ∧ Both base d f c m rm fs (crashR cs 0 xs) [] w w' := by
  refine (crash_any base d f c m rm fs A clock v cs gc w h hfew hi hrc hg hgc).mono ?_
  rintro e w' ⟨rfl, n⟩
  have h1 : RelD (crashL (sortedF fs) cs fs) (crashR cs 0 xs) := by
    rw [sorted_D hr]
    exact crash_D xs [] fs cs 0 hr h.files.sure
  refine ⟨rfl, _, n, h1, ?_⟩
  have h2 := used_D h1
  have h3 := used_D hr
  have h4 := crash_used cs 0 xs
  omega
end Go.Proofs.Ytnjoojffefhgpaa

namespace Go.Proofs.Ytnjoojffefhgpaa
open Go.Conc Go.RowKit Go.Lib
set_option linter.unusedVariables false

theorem DiskAt.other {base d f c m : Nat} {room : Int} {fs : List Fl} {A : List Ft} {clock : Nat} {S : Nat → Prop} {w w' : World} (h : DiskAt base d f c m room fs A clock w) (t : Turn S w w') (hS : ∀ k, S k → ¬ Mine d f c m fs k) : DiskAt base d f c m room fs A clock w' := by
  have hd : d < w.heap.size := Nat.lt_of_lt_of_le h.dlt h.hb
  have n1 : ¬ S d := fun e => hS d e (.inl rfl)
  have n2 : ¬ S f := fun e => hS f e (.inr (.inl rfl))
  have n3 : ¬ S c := fun e => hS c e (.inr (.inr (.inl rfl)))
  have n4 : ¬ S m := fun e => hS m e (.inr (.inr (.inr (.inl rfl))))
  exact { h with
    hb := Nat.le_trans h.hb t.size
    c0 := (t.cell (p := ⟨d, 0, none⟩) hd n1).trans h.c0
    c1 := (t.cell (p := ⟨d, 1, none⟩) hd n1).trans h.c1
    c2 := (t.cell (p := ⟨d, 2, none⟩) hd n1).trans h.c2
    c3 := (t.cell (p := ⟨d, 3, none⟩) hd n1).trans h.c3
    f2 := (t.frozen (p := ⟨d, 2, none⟩) hd n1).trans h.f2
    fuse := h.fuse.turn t n2 n3
    map := h.map.turn t n4
    files := ⟨fun x hx => (h.files.sl x hx).same t.size fun k hk => t.block k ((h.files.sl x hx).lt k hk).2 fun e => hS k e (.inr (.inr (.inr (.inr ⟨x, hx, hk⟩)))), h.files.sure, h.files.names, h.files.apart⟩ }

theorem cutB_le4 (s : ByteArray) (n : Nat) : (cutB s n).size ≤ n := by
  unfold cutB
  split
  · rw [ByteArray.size_extract]; omega
  · omega
theorem tryL_few4 : ∀ A : List Ft, (tryL A).2.length ≤ A.length
  | [] => Nat.le_refl _
  | x :: A => by
    simp only [tryL]
    split <;> simp
theorem tryL_fit4 (A : List Ft) (h : ∀ x ∈ A, Ft.Fits x) : ∀ x ∈ (tryL A).2, Ft.Fits x := by
  match A, h with
  | [], _ => intro x hx; cases hx
  | y :: A, h =>
    intro x hx
    simp only [tryL] at hx
    split at hx
    · rename_i hy
      rcases List.mem_cons.1 hx with rfl | hx
      · have := h y (by simp)
        unfold Ft.Fits at this ⊢
        simp only
        omega
      · exact h x (by simp [hx])
    · exact h x (by simp at hx; simp [hx])

theorem used_mem {xs : List Rj} {x : Rj} (h : x ∈ xs) : x.data.size ≤ usedR xs := by
  induction xs with
  | nil => cases h
  | cons y ys ih =>
    show _ ≤ y.data.size + usedR ys
    rcases List.mem_cons.1 h with rfl | h
    · omega
    · have := ih h; omega

/-- The three boxes of a call on both: the document's disk, what is asked, what is handed back. -/
structure DV (w : World) (v : Value) (rm : Int) (u : Value) (kd an : Int) (ta tb : ByteArray) (dd : Bool) (ca : Option Addr) (cn cc : Nat) (W : World) : Prop where
  x : W.heap[w.heap.size]? = some (.cells #[v, .int .i64 rm, u] 30)
  a : W.heap[w.heap.size + 1]? = some (.cells #[.int .i64 kd, .int .i64 an, .string ta, .string tb, .bool dd, .slice ca cn cc] 40)
  r : W.heap[w.heap.size + 2]? = some (.cells #[.slice none 0 0, .int .i64 0, .slice none 0 0] 30)
  size : w.heap.size + 3 ≤ W.heap.size
theorem DV.start (w : World) (v : Value) (rm : Int) (u : Value) (kd an : Int) (ta tb : ByteArray) (dd : Bool) (ca : Option Addr) (cn cc : Nat) (V : World)
    (hV : V = ((w.alloc (.cells #[v, .int .i64 rm, u] 30)).alloc (.cells #[.int .i64 kd, .int .i64 an, .string ta, .string tb, .bool dd, .slice ca cn cc] 40)).alloc (.cells #[.slice none 0 0, .int .i64 0, .slice none 0 0] 30)) :
    DV w v rm u kd an ta tb dd ca cn cc V ∧ Below w.heap.size w V ∧ V.heap.size = w.heap.size + 3 := by
  have s1 : (w.alloc (.cells #[v, .int .i64 rm, u] 30)).heap.size = w.heap.size + 1 := by simp
  have s2 : ((w.alloc (.cells #[v, .int .i64 rm, u] 30)).alloc (.cells #[.int .i64 kd, .int .i64 an, .string ta, .string tb, .bool dd, .slice ca cn cc] 40)).heap.size = w.heap.size + 2 := by simp
  have z3 : V.heap.size = w.heap.size + 3 := by rw [hV]; simp
  refine ⟨⟨?_, ?_, ?_, by omega⟩, by rw [hV]; exact (((Below.refl _ _).alloc (Nat.le_refl _) _).alloc (by simp) _).alloc (by simp; omega) _, z3⟩
  · rw [hV, Below.heap_alloc _ _ _ (by omega), Below.heap_alloc _ _ _ (by omega)]; exact heap_alloc_new w _
  · rw [hV, Below.heap_alloc _ _ _ (by omega), ← s1]; exact heap_alloc_new _ _
  · have := heap_alloc_new ((w.alloc (.cells #[v, .int .i64 rm, u] 30)).alloc (.cells #[.int .i64 kd, .int .i64 an, .string ta, .string tb, .bool dd, .slice ca cn cc] 40)) (.cells #[.slice none 0 0, .int .i64 0, .slice none 0 0] 30)
    rw [s2] at this
    rw [hV]; exact this
theorem DV.turn {w : World} {v : Value} {rm : Int} {u : Value} {kd an : Int} {ta tb : ByteArray} {dd : Bool} {ca : Option Addr} {cn cc : Nat} {W W' : World} {S : Nat → Prop} (h : DV w v rm u kd an ta tb dd ca cn cc W) (t : Turn S W W') (hS : ∀ k, S k → k < w.heap.size ∨ W.heap.size ≤ k) : DV w v rm u kd an ta tb dd ca cn cc W' := by
  have hz := h.size
  exact ⟨(t.block _ (by omega) fun e => by have := hS _ e; omega).trans h.x, (t.block _ (by omega) fun e => by have := hS _ e; omega).trans h.a, (t.block _ (by omega) fun e => by have := hS _ e; omega).trans h.r, Nat.le_trans hz t.size⟩
theorem DV.cells {w : World} {v : Value} {rm : Int} {u : Value} {kd an : Int} {ta tb : ByteArray} {dd : Bool} {ca : Option Addr} {cn cc : Nat} {W : World} (h : DV w v rm u kd an ta tb dd ca cn cc W) :
    W.cell? ⟨w.heap.size, 0, none⟩ = some v ∧ W.cell? ⟨w.heap.size, 1, none⟩ = some (.int .i64 rm) ∧ W.cell? ⟨w.heap.size, 2, none⟩ = some u ∧ W.cell? ⟨w.heap.size + 1, 0, none⟩ = some (.int .i64 kd) ∧ W.cell? ⟨w.heap.size + 1, 1, none⟩ = some (.int .i64 an) ∧ W.cell? ⟨w.heap.size + 1, 2, none⟩ = some (.string ta) ∧ W.cell? ⟨w.heap.size + 1, 3, none⟩ = some (.string tb) ∧ W.cell? ⟨w.heap.size + 1, 4, none⟩ = some (.bool dd) ∧ W.cell? ⟨w.heap.size + 1, 5, none⟩ = some (.slice ca cn cc) :=
  ⟨(cell_of_row _ _ 0 _ _ _ h.x).trans rfl, (cell_of_row _ _ 1 _ _ _ h.x).trans rfl, (cell_of_row _ _ 2 _ _ _ h.x).trans rfl, (cell_of_row _ _ 0 _ _ _ h.a).trans rfl, (cell_of_row _ _ 1 _ _ _ h.a).trans rfl, (cell_of_row _ _ 2 _ _ _ h.a).trans rfl, (cell_of_row _ _ 3 _ _ _ h.a).trans rfl, (cell_of_row _ _ 4 _ _ _ h.a).trans rfl, (cell_of_row _ _ 5 _ _ _ h.a).trans rfl⟩
theorem DV.res {w : World} {v : Value} {rm : Int} {u : Value} {kd an : Int} {ta tb : ByteArray} {dd : Bool} {ca : Option Addr} {cn cc : Nat} {W : World} (h : DV w v rm u kd an ta tb dd ca cn cc W) :
    (W.cell? ⟨w.heap.size + 2, 0, none⟩ = some (.slice none 0 0) ∧ W.cell? ⟨w.heap.size + 2, 1, none⟩ = some (.int .i64 0) ∧ W.cell? ⟨w.heap.size + 2, 2, none⟩ = some (.slice none 0 0)) ∧ (∀ o, W.frozen? ⟨w.heap.size + 2, o, none⟩ = false) ∧ ∀ o, W.frozen? ⟨w.heap.size, o, none⟩ = false :=
  ⟨⟨(cell_of_row _ _ 0 _ _ _ h.r).trans rfl, (cell_of_row _ _ 1 _ _ _ h.r).trans rfl, (cell_of_row _ _ 2 _ _ _ h.r).trans rfl⟩, fun o => by simp only [World.frozen?, h.r]; rfl, fun o => by simp only [World.frozen?, h.x]; rfl⟩

/-- What is there of both behind a call. -/
structure DoneD (base d f c m : Nat) (rm : Int) (fs : List Fl) (v u : Value) (w : World) (v' u' : Value) (fs' : List Fl) (xs' : List Rj) (A' : List Ft) (w' : World) : Prop where
  at_ : ∃ ck, DiskAt base d f c m rm fs' A' ck w'
  rel : RelD fs' xs'
  used : usedF fs' ≤ usedF fs + 50
  room : (usedF fs : Int) ≤ rm → (usedF fs' : Int) ≤ rm
  s : Sl w' 0 3 v' xs'.length (rjc xs')
  t : Sl w' 0 2 u' A'.length (ftc A')
  fv : ∀ k, v'.ownBlock = some k → ¬ Mine d f c m fs' k
  fu : ∀ k, u'.ownBlock = some k → ¬ Mine d f c m fs' k
  ov : ∀ k, v'.ownBlock = some k → v.ownBlock = some k ∨ w.heap.size ≤ k
  ou : ∀ k, u'.ownBlock = some k → u.ownBlock = some k ∨ w.heap.size ≤ k
  turn : Turn (Mine d f c m fs) w w'
  mine : ∀ k, Mine d f c m fs' k → Mine d f c m fs k ∨ w.heap.size ≤ k
theorem DoneD.of {base d f c m : Nat} {rm : Int} {fs : List Fl} {v u : Value} {w V w1 w2 W6 : World} {v' u' : Value} {xs' : List Rj} {A' : List Ft} (hB : Both base d f c m rm fs xs' A' V w1) (b0 : Below w.heap.size w V) (hz : w.heap.size + 3 ≤ V.heap.size)
    (hvl : ∀ k, v.ownBlock = some k → k < w.heap.size ∧ ¬ Mine d f c m fs k) (hul : ∀ k, u.ownBlock = some k → k < w.heap.size ∧ ¬ Mine d f c m fs k) (hml : ∀ k, Mine d f c m fs k → k < w.heap.size)
    (s : Sl w2 0 3 v' xs'.length (rjc xs')) (t : Sl w2 0 2 u' A'.length (ftc A')) (ov : ∀ k, v'.ownBlock = some k → v.ownBlock = some k ∨ w1.heap.size ≤ k) (ou : ∀ k, u'.ownBlock = some k → u.ownBlock = some k ∨ w1.heap.size ≤ k) (b2 : Below w1.heap.size w1 w2)
    (T : Turn (fun i => i = w.heap.size ∨ i = w.heap.size + 2) w2 W6) : ∃ fs', DoneD base d f c m rm fs v u w v' u' fs' xs' A' W6 := by
  obtain ⟨fs', ⟨⟨ck, hD⟩, hT, hM⟩, hR, hU⟩ := hB
  have hz1 := hT.size
  have hlt := Mine.lt hD
  have hnm : ∀ k, k < w.heap.size → ¬ Mine d f c m fs k → ¬ Mine d f c m fs' k := fun k hk hn e => by
    rcases hM k e with h | h
    · exact hn h
    · omega
  have h0 : ∀ k, k = w.heap.size ∨ k = w.heap.size + 2 → ¬ Mine d f c m fs' k := fun k hk e => by
    rcases hM k e with h | h
    · have := hml k h; omega
    · omega
  refine ⟨fs', ⟨ck, (hD.below b2).other T fun k hk => h0 k hk⟩, hR, hU.1, hU.2, ?_, ?_, fun k hk => ?_, fun k hk => ?_, fun k hk => (ov k hk).imp_right fun h => by have := b0.size; omega, fun k hk => (ou k hk).imp_right fun h => by have := b0.size; omega, ?_, fun k hk => (hM k hk).imp_right fun h => by omega⟩
  · refine s.same T.size fun k hk => T.block k (s.lt k hk).2 fun e => ?_
    rcases ov k hk with h | h
    · have := (hvl k h).1; omega
    · omega
  · refine t.same T.size fun k hk => T.block k (t.lt k hk).2 fun e => ?_
    rcases ou k hk with h | h
    · have := (hul k h).1; omega
    · omega
  · rcases ov k hk with h | h
    · exact hnm k (hvl k h).1 (hvl k h).2
    · exact fun e => by have := hlt k e; omega
  · rcases ou k hk with h | h
    · exact hnm k (hul k h).1 (hul k h).2
    · exact fun e => by have := hlt k e; omega
  · refine ⟨T.os.trans (b2.os.trans (hT.os.trans b0.os)), T.tape.trans (b2.tape.trans (hT.tape.trans b0.tape)), T.output.trans (b2.output.trans (hT.output.trans b0.output)), by have := T.size; have := b2.size; have := b0.size; omega, fun i hi hn => ?_⟩
    rw [T.block i (by have := b2.size; omega) (by omega), b2.block i (by omega), hT.block i (by omega) hn, b0.block i hi]
end Go.Proofs.Ytnjoojffefhgpaa
