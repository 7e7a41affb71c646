/- Layer 4: a file's beginning; Sync's inner closure. Layer 4: Sync. -/
import Derived.Test.YtnjoojffefhgpaaMD5
import Derived.Deep.RegionHeld3
namespace Go.Proofs.Ytnjoojffefhgpaa
open Go.Conc Go.RowKit

theorem fcut_any (a : Option Addr) (n cap k : Nat) (s : Int) (w : World) (hk : k ≤ n) (hc : n ≤ cap) :
    Calls Try.prog 53 #[.agg #[.slice a n cap, .int .i64 s], .int .i64 k] w fun e w' => e = .returned (fval (.slice a k cap) k) ∧ Below w.heap.size w w' := by
  go_enter Try.func53, Try.ntmps53
  go_wp2
  go_returns
  exact ⟨rfl, ((Below.refl _ w).alloc (Nat.le_refl _) _).alloc (by simp) _⟩

theorem files_cut {base : Nat} {fs : List Fl} {w : World} (h : Files base fs w) (x : Fl) (hx : x ∈ fs) (a : Option Addr) (n cap k : Nat) (hv : x.v = .slice a n cap) (hk : k ≤ n) :
    Sl w base 1 (.slice a k cap) k (cb (x.data.take k)) ∧ n ≤ cap ∧ n = x.data.length := by
  have hs := h.sl x hx
  have hn : n = x.data.length := by
    obtain ⟨a', cap', he⟩ := hs.slice
    rw [hv] at he
    cases he
    rfl
  rw [hv, ← hn] at hs
  rcases hs.2 with ⟨h0, h1⟩ | ⟨g, off, cap', he, _, _, h2, h3, _⟩
  · cases h0
    have : k = 0 := by omega
    subst this
    exact ⟨by simpa [cb] using Sl.nil w base 1, Nat.le_refl _, hn⟩
  · cases he
    exact ⟨hs.cut hk, h2, hn⟩

theorem look_of {fs : List Fl} (h : (fs.map (·.name)).Nodup) (x : Fl) (hx : x ∈ fs) : lookF x.name fs = some x := by
  cases hl : lookF x.name fs with
  | none => exact absurd rfl (look_none x.name fs hl x hx)
  | some y =>
    have hy := look_mem x.name fs y hl
    rw [name_inj fs h y hy.1 x hx hy.2]

theorem Now.put {base d f c m : Nat} {room : Int} {fs : List Fl} {A : List Ft} {w w2 w4 : World} {name : ByteArray} {v : Value} {data : List UInt8} {s b : Nat} (hn : (fs.map (·.name)).Nodup) (hv : ∀ k, v.ownBlock = some k → Mine d f c m fs k) (k : Below w.heap.size w w2)
    (D : ∃ clock', DiskAt base d f c m room (setF name v data s b fs) A clock' w4) (t : Turn (fun k => k = d ∨ k = m) w2 w4) : Now base d f c m room fs (setF name v data s b fs) A w w4 := by
  refine ⟨D, (Turn.of_below k).trans (t.mono fun k hk => by rcases hk with e | e; exact .inl e; exact .inr (.inr (.inr (.inl e)))), fun k hk => ?_⟩
  rcases hk with e | e | e | e | ⟨x, hxm, hxk⟩
  · exact .inl (.inl e)
  · exact .inl (.inr (.inl e))
  · exact .inl (.inr (.inr (.inl e)))
  · exact .inl (.inr (.inr (.inr (.inl e))))
  · rcases set_mem name _ _ _ _ fs hn x hxm with ⟨h1, _⟩ | ⟨h1, _⟩
    · exact .inl (.inr (.inr (.inr (.inr ⟨x, h1, hxk⟩))))
    · rw [h1] at hxk
      exact .inl (hv k hxk)

set_option maxHeartbeats 1000000 in
set_option maxRecDepth 100000 in
theorem sync1_any (base d f c m : Nat) (room : Int) (fs : List Fl) (A : List Ft) (clock : Nat) (x : Fl) (a : Option Addr) (n cap bd bn bf : Nat) (s : Int) (w : World) (h : DiskAt base d f c m room fs A clock w) (hx : x ∈ fs) (hv : x.v = .slice a n cap)
    (p0 : w.cell? ⟨bd, 0, none⟩ = some (.pointer (some ⟨d, 0, none⟩))) (p1 : w.cell? ⟨bn, 0, none⟩ = some (.string x.name)) (p2 : w.cell? ⟨bf, 0, none⟩ = some (.slice a n cap)) (p3 : w.cell? ⟨bf, 1, none⟩ = some (.int .i64 s))
    (q : ∀ k, k = bd ∨ k = bn ∨ k = bf → k < w.heap.size ∧ ¬ Mine d f c m fs k) :
    Calls Try.prog 52 #[.pointer (some ⟨bd, 0, none⟩), .pointer (some ⟨bn, 0, none⟩), .pointer (some ⟨bf, 0, none⟩)] w fun e w' => ∃ er, e = .returned (.int .i64 er) ∧ er = 0 ∧ Now base d f c m room fs (setF x.name x.v x.data x.data.length clock fs) A w w' := by
  obtain ⟨hsl, hnc, hn⟩ := files_cut h.files x hx a n cap n hv (Nat.le_refl _)
  have hlook := look_of h.files.names x hx
  have hval : valF x.name fs = .slice a n cap := by unfold valF; rw [hlook]; exact hv
  have hlen : lenF x.name fs = n := by unfold lenF; rw [hlook]; exact hn.symm
  have hap : ∀ y ∈ fs, y.name ≠ x.name → ∀ i, (Value.slice a n cap).ownBlock = some i → y.v.ownBlock ≠ some i := by
    rw [← hval]; exact files_apart h.files x.name
  rw [List.take_of_length_le (by omega)] at hsl
  have hsm := h.small
  have C1 := fun W => Lib.hid (fcut_any a n cap n s W (Nat.le_refl _) hnc)
  have C2 := fun W (D : DiskAt base d f c m room fs A clock W) (hs : Sl W base 1 (.slice a n cap) n (cb x.data)) => Lib.hid (dput_any base d f c m room fs A clock x.name a n cap n x.data W D (by omega) hn.symm hs (Nat.le_refl _) hap)
  have H1 := Lib.hid C1; have H2 := Lib.hid C2
  have HN := Lib.hid hn
  have HV := Lib.hid hv
  clear C1 C2 hn hv hap hlen hval hlook
  have nd : ∀ k, k = bd ∨ k = bn ∨ k = bf → ¬ (k = d ∨ k = m) := fun k hk e => (q k hk).2 (by rcases e with e | e; exact .inl e; exact .inr (.inr (.inr (.inl e))))
  have qd := q bd (.inl rfl); have qn := q bn (.inr (.inl rfl)); have qf := q bf (.inr (.inr rfl))
  go_enter Try.func52, Try.ntmps52
  go_wp2_with fail
  go_region_held3 (fun W => W.cell? ⟨bd, 0, none⟩ = some (.pointer (some ⟨d, 0, none⟩)) ∧ W.cell? ⟨bn, 0, none⟩ = some (.string x.name) ∧ W.cell? ⟨bf, 0, none⟩ = some (.slice a n cap) ∧ W.cell? ⟨bf, 1, none⟩ = some (.int .i64 s)) (first | exact ⟨p0, p1, p2, p3⟩ | assumption)
    (first
      | (go_at_call 53; refine (H1.out _).out.mono ?_; rintro e w2 ⟨rfl, b2⟩; unfold fval; have d2 := And.intro ((b2.cell (p := ⟨bd, 0, none⟩) qd.1).trans p0) (And.intro ((b2.cell (p := ⟨bn, 0, none⟩) qn.1).trans p1) (And.intro ((b2.cell (p := ⟨bf, 0, none⟩) qf.1).trans p2) ((b2.cell (p := ⟨bf, 1, none⟩) qf.1).trans p3))))
      | (go_at_call 51; refine (H2.out w2 (h.below ((Below.refl _ w).drew.trans b2)) (hsl.on ((Below.refl _ w).drew.trans b2))).out.mono ?_; rintro e w4 ⟨rfl, D4, t4⟩; have d4 := And.intro ((t4.cell (p := ⟨bd, 0, none⟩) (Nat.lt_of_lt_of_le qd.1 b2.size) (nd bd (.inl rfl))).trans d2.1) (And.intro ((t4.cell (p := ⟨bn, 0, none⟩) (Nat.lt_of_lt_of_le qn.1 b2.size) (nd bn (.inr (.inl rfl)))).trans d2.2.1) (And.intro ((t4.cell (p := ⟨bf, 0, none⟩) (Nat.lt_of_lt_of_le qf.1 b2.size) (nd bf (.inr (.inr rfl)))).trans d2.2.2.1) ((t4.cell (p := ⟨bf, 1, none⟩) (Nat.lt_of_lt_of_le qf.1 b2.size) (nd bf (.inr (.inr rfl)))).trans d2.2.2.2)))))
  go_wp2
  go_ret
  refine ⟨0, rfl, rfl, ?_⟩
  rw [HV.out, ← HN.out]
  exact Now.put h.files.names (fun k hk => .inr (.inr (.inr (.inr ⟨x, hx, by rw [HV.out]; exact hk⟩)))) ((Below.refl _ w).drew.trans b2) D4 t4
end Go.Proofs.Ytnjoojffefhgpaa

namespace Go.Proofs.Ytnjoojffefhgpaa
open Go.Conc Go.RowKit

/-- Two boxes laid. -/
theorem boxes2 (w : World) (x y : Value) (s t : TypeId) (W0 : World) (hW : W0 = (w.alloc (.cells #[x] s)).alloc (.cells #[y] t)) :
    Below w.heap.size w W0 ∧ W0.heap.size = w.heap.size + 2 ∧ W0.cell? ⟨w.heap.size, 0, none⟩ = some x ∧ W0.cell? ⟨w.heap.size + 1, 0, none⟩ = some y := by
  subst hW
  have hb := heap_alloc_new (w.alloc (.cells #[x] s)) (.cells #[y] t)
  rw [show (w.alloc (.cells #[x] s)).heap.size = w.heap.size + 1 by simp] at hb
  refine ⟨((Below.refl _ w).alloc (Nat.le_refl _) _).alloc (by simp) _, by simp, ?_, ?_⟩
  · rw [World.cell?_alloc_past _ _ _ (by simp), cell_of_row _ _ 0 _ _ _ (heap_alloc_new w _)]; rfl
  · rw [cell_of_row _ _ 0 _ _ _ hb]; rfl

theorem sync_none (base d f c m : Nat) (room : Int) (fs : List Fl) (A : List Ft) (clock : Nat) (name : ByteArray) (w : World) (h : DiskAt base d f c m room fs A clock w) (hl : lookF name fs = none) :
    Calls Try.prog 19 #[.pointer (some ⟨d, 0, none⟩), .string name] w fun e w' => e = .returned (.int .i64 5) ∧ Now base d f c m room fs fs A w w' := by
  go_enter Try.func19, Try.ntmps19
  go_wp2_with fail
  obtain ⟨W0, hW0⟩ : ∃ W0, W0 = (w.alloc (.cells #[.pointer (some ⟨d, 0, none⟩)] 23)).alloc (.cells #[.string name] 9) := ⟨_, rfl⟩
  rw [← hW0]
  obtain ⟨b0, z0, k0, k1⟩ := boxes2 w _ _ _ _ W0 hW0
  have D0 := h.below b0
  have c3 := D0.c3
  have hm := D0.map
  have hdl : d < W0.heap.size := Nat.lt_of_lt_of_le h.dlt (Nat.le_trans h.hb b0.size)
  have hml : m < W0.heap.size := Nat.lt_of_lt_of_le h.mlt (Nat.le_trans h.hb b0.size)
  have hl0 := run_look (P := Try.prog) (w := W0) Try.underlying33 Try.underlying9 (fval (.slice none 0 0) 0) zero_file hm name true
  have hl1 := run_look (P := Try.prog) (w := W0.drew) Try.underlying33 Try.underlying9 (fval (.slice none 0 0) 0) zero_file hm name true
  have hl2 := run_look (P := Try.prog) (w := (W0.alloc (.cells #[.slice none 0 0, .int .i64 0] 88)).drew) Try.underlying33 Try.underlying9 (fval (.slice none 0 0) 0) zero_file (show MapIs m (fs.map Fl.en) clock _ from (Below.heap_alloc W0 _ _ hml).trans hm) name true
  have a3 : ∀ o, (W0.alloc o).cell? ⟨d, 3, none⟩ = some (.map (some m)) := fun o => (World.cell?_alloc_past _ _ _ hdl).trans c3
  have a0 : ∀ o, (W0.alloc o).cell? ⟨w.heap.size, 0, none⟩ = some (.pointer (some ⟨d, 0, none⟩)) := fun o => (World.cell?_alloc_past _ _ _ (show w.heap.size < W0.heap.size by omega)).trans k0
  have a1 : ∀ o, (W0.alloc o).cell? ⟨w.heap.size + 1, 0, none⟩ = some (.string name) := fun o => (World.cell?_alloc_past _ _ _ (show w.heap.size + 1 < W0.heap.size by omega)).trans k1
  rw [look_en, hl] at hl0 hl1 hl2
  simp only [if_true, Option.map_none, Option.getD_none, Option.isSome_none] at hl0 hl1 hl2
  unfold fval at hl0 hl1 hl2
  clear hW0
  go_region
  all_goals
    go_wp2
    go_ret
    refine ⟨rfl, Now.same h (b0.trans ?_)⟩
    exact ((Below.refl _ W0).alloc b0.size _).drew
theorem sync_go (base d f c m : Nat) (room : Int) (fs : List Fl) (A : List Ft) (clock : Nat) (name : ByteArray) (w : World) (h : DiskAt base d f c m room fs A clock w) (x : Fl) (hl : lookF name fs = some x) :
    Calls Try.prog 19 #[.pointer (some ⟨d, 0, none⟩), .string name] w fun e w' => e = .returned (.int .i64 (if (tryL A).1.1 then 0 else 8)) ∧
      Now base d f c m room fs (if (tryL A).1.2 then setF name x.v x.data x.data.length clock fs else fs) (tryL A).2 w w' := by
  obtain ⟨hx, rfl⟩ := look_mem name fs x hl
  obtain ⟨a, cap, hv⟩ := (h.files.sl x hx).slice
  obtain ⟨n, hn⟩ : ∃ n, n = x.data.length := ⟨_, rfl⟩
  rw [← hn] at hv
  go_enter Try.func19, Try.ntmps19
  go_wp2_with fail
  obtain ⟨W0, hW0⟩ : ∃ W0, W0 = (w.alloc (.cells #[.pointer (some ⟨d, 0, none⟩)] 23)).alloc (.cells #[.string x.name] 9) := ⟨_, rfl⟩
  rw [← hW0]
  obtain ⟨b0, z0, k0, k1⟩ := boxes2 w _ _ _ _ W0 hW0
  have D0 := h.below b0
  have c3 := D0.c3
  have hm := D0.map
  have hdl : d < W0.heap.size := Nat.lt_of_lt_of_le h.dlt (Nat.le_trans h.hb b0.size)
  have hml : m < W0.heap.size := Nat.lt_of_lt_of_le h.mlt (Nat.le_trans h.hb b0.size)
  have hl0 := run_look (P := Try.prog) (w := W0) Try.underlying33 Try.underlying9 (fval (.slice none 0 0) 0) zero_file hm x.name true
  have hl1 := run_look (P := Try.prog) (w := W0.drew) Try.underlying33 Try.underlying9 (fval (.slice none 0 0) 0) zero_file hm x.name true
  have hl2 := run_look (P := Try.prog) (w := (W0.alloc (.cells #[.slice none 0 0, .int .i64 0] 88)).drew) Try.underlying33 Try.underlying9 (fval (.slice none 0 0) 0) zero_file (show MapIs m (fs.map Fl.en) clock _ from (Below.heap_alloc W0 _ _ hml).trans hm) x.name true
  have a3 : ∀ o, (W0.alloc o).cell? ⟨d, 3, none⟩ = some (.map (some m)) := fun o => (World.cell?_alloc_past _ _ _ hdl).trans c3
  have a0 : ∀ o, (W0.alloc o).cell? ⟨w.heap.size, 0, none⟩ = some (.pointer (some ⟨d, 0, none⟩)) := fun o => (World.cell?_alloc_past _ _ _ (show w.heap.size < W0.heap.size by omega)).trans k0
  have a1 : ∀ o, (W0.alloc o).cell? ⟨w.heap.size + 1, 0, none⟩ = some (.string x.name) := fun o => (World.cell?_alloc_past _ _ _ (show w.heap.size + 1 < W0.heap.size by omega)).trans k1
  rw [look_en, hl] at hl0 hl1 hl2
  simp only [if_true, Option.map_some, Option.getD_some, Option.isSome_some, Fl.en, hv] at hl0 hl1 hl2
  unfold fval at hl0 hl1 hl2
  clear hW0
  have HN := Lib.hid hn
  have HV := Lib.hid hv
  clear hn hv
  go_region
  all_goals
    obtain ⟨W1, hW1⟩ : ∃ W1, W1 = (W0.alloc (.cells #[.slice a n cap, .int .i64 x.sure] 88)).drew := ⟨_, rfl⟩
    rw [← hW1]
    have b01 : Below W0.heap.size W0 W1 := by rw [hW1]; exact ((Below.refl _ W0).alloc (Nat.le_refl _) _).drew
    have b1 : Below w.heap.size w W1 := b0.trans (b01.mono b0.size)
    have z1 : W1.heap.size = w.heap.size + 3 := by rw [hW1]; simp; omega
    have hblk : W1.heap[w.heap.size + 2]? = some (.cells #[.slice a n cap, .int .i64 x.sure] 88) := by rw [hW1, ← z0]; exact heap_alloc_new W0 _
    have q0 : W1.cell? ⟨w.heap.size, 0, none⟩ = some (.pointer (some ⟨d, 0, none⟩)) := (b01.cell (p := ⟨w.heap.size, 0, none⟩) (show w.heap.size < W0.heap.size by omega)).trans k0
    have q1 : W1.cell? ⟨w.heap.size + 1, 0, none⟩ = some (.string x.name) := (b01.cell (p := ⟨w.heap.size + 1, 0, none⟩) (show w.heap.size + 1 < W0.heap.size by omega)).trans k1
    obtain ⟨q2, q3, _, _⟩ := box2 hblk
    have D1 := h.below b1
    have e0 := D1.c0
    clear hl0 hl1 hl2 a0 a1 a3 hW1 hblk c3 k0 k1
    have HD := Lib.hid (do_sync f c #[.pointer (some ⟨w.heap.size, 0, none⟩), .pointer (some ⟨w.heap.size + 1, 0, none⟩), .pointer (some ⟨w.heap.size + 2, 0, none⟩)] A W1
      (fun W er w' => er = 0 ∧ Now base d f c m room fs (setF x.name x.v x.data x.data.length clock fs) (tryL A).2 W w') D1.fuse (by
        intro W hA t
        have D2 := D1.tried t hA
        have hlt := Mine.lt h
        have hown : ∀ k, w.heap.size ≤ k → ¬ Own f c k := fun k hk e => by
          rcases e with e | e
          · have := h.flt; have := h.hb; omega
          · have := h.clt; have := h.hb; omega
        have ht : ∀ k o v, k < W1.heap.size → w.heap.size ≤ k → W1.cell? ⟨k, o, none⟩ = some v → W.cell? ⟨k, o, none⟩ = some v := fun k o v hk hk2 hc => (t.cell (p := ⟨k, o, none⟩) hk (hown k hk2)).trans hc
        refine (sync1_any base d f c m room fs (tryL A).2 clock x a n cap w.heap.size (w.heap.size + 1) (w.heap.size + 2) x.sure W D2 hx HV.out (ht _ _ _ (by omega) (by omega) q0) (ht _ _ _ (by omega) (by omega) q1) (ht _ _ _ (by omega) (by omega) q2) (ht _ _ _ (by omega) (by omega) q3) ?_).mono ?_
        · intro k hk
          have hz := t.size
          refine ⟨by omega, fun hm => ?_⟩
          have := hlt k hm
          omega
        · rintro e w' ⟨er, he, h0, hv⟩
          exact ⟨er, he, h0, hv⟩))
    go_wp2_with fail
    refine HD.out.mono ?_
    rintro e w2 ⟨W, hA, t, hif⟩
    have N1 : Now base d f c m room fs fs (tryL A).2 w W := Now.tried h b1 t hA
    cases hdn : (tryL A).1.2
    · rw [hdn] at hif
      obtain ⟨rfl, rfl⟩ := hif
      go_wp2
      all_goals
        go_ret
        exact ⟨rfl, N1⟩
    · rw [hdn] at hif
      obtain ⟨er, ⟨rfl, hv⟩, rfl⟩ := hif
      go_wp2
      all_goals
        go_ret
        exact ⟨rfl, N1.trans hv⟩
end Go.Proofs.Ytnjoojffefhgpaa
