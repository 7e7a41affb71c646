/- Layer 4's disks: Append. -/
import Derived.Test.YtiegokjdnlhlcaaMD4
import Derived.BigQuiet
namespace Go.Proofs.Ytiegokjdnlhlcaa
open Go.Conc Go.RowKit

theorem Mine.lt {base d f c m : Nat} {room : Int} {fs : List Fl} {A : List Ft} {clock : Nat} {w : World} (h : DiskAt base d f c m room fs A clock w) : ∀ k, Mine d f c m fs k → k < w.heap.size := by
  intro k hk
  have := h.hb; have := h.dlt; have := h.flt; have := h.clt; have := h.mlt
  rcases hk with e | e | e | e | ⟨x, hx, hk⟩
  · omega
  · omega
  · omega
  · omega
  · exact ((h.files.sl x hx).lt k hk).2
theorem Now.same {base d f c m : Nat} {room : Int} {fs : List Fl} {A : List Ft} {clock : Nat} {w w' : World} (h : DiskAt base d f c m room fs A clock w) (b : Below w.heap.size w w') : Now base d f c m room fs fs A w w' :=
  ⟨⟨clock, h.below b⟩, Turn.of_below b, fun _ hk => .inl hk⟩
theorem Now.tried {base d f c m : Nat} {room : Int} {fs : List Fl} {A A' : List Ft} {clock : Nat} {w w' w'' : World} (h : DiskAt base d f c m room fs A clock w) (b : Below w.heap.size w w') (t : Turn (Own f c) w' w'') (hA : Holds f c A' w'') : Now base d f c m room fs fs A' w w'' :=
  ⟨⟨clock, (h.below b).tried t hA⟩, (Turn.of_below b).trans (t.mono fun k hk => by rcases hk with e | e; exact .inr (.inl e); exact .inr (.inr (.inl e))), fun _ hk => .inl hk⟩
theorem Now.trans {base d f c m : Nat} {room : Int} {fs fs1 fs2 : List Fl} {A1 A2 : List Ft} {w w1 w2 : World} (h1 : Now base d f c m room fs fs1 A1 w w1) (h2 : Now base d f c m room fs1 fs2 A2 w1 w2) : Now base d f c m room fs fs2 A2 w w2 := by
  obtain ⟨_, t1, m1⟩ := h1
  obtain ⟨c2, t2, m2⟩ := h2
  have hz := t1.size
  refine ⟨c2, ⟨t2.os.trans t1.os, t2.tape.trans t1.tape, t2.output.trans t1.output, Nat.le_trans t1.size t2.size, fun k hk hn => ?_⟩, fun k hk => ?_⟩
  · refine (t2.block k (by omega) fun hm => ?_).trans (t1.block k hk hn)
    rcases m1 k hm with e | e
    · exact hn e
    · omega
  · rcases m2 k hk with e | e
    · exact m1 k e
    · exact .inr (by omega)

theorem append_bad (base d f c m : Nat) (room : Int) (fs : List Fl) (A : List Ft) (clock : Nat) (name s : ByteArray) (w : World) (h : DiskAt base d f c m room fs A clock w) (hn : ¬ (0 < name.size ∧ name.size ≤ 40)) :
    Calls Try.prog 39 #[.pointer (some ⟨d, 0, none⟩), .string name, .string s] w fun e w' => e = .returned (.int .i64 1) ∧ Now base d f c m room fs fs A w w' := by
  have hm := fun W => maybe_any name W
  rw [decide_eq_false hn] at hm
  have HM := Lib.hid hm
  clear hm hn
  go_enter Try.func39, Try.ntmps39
  go_wp2_with fail
  refine (HM.out _).mono ?_
  rintro e w1 ⟨rfl, rfl⟩
  go_wp2
  go_ret
  exact ⟨rfl, Now.same h ((((Below.refl _ w).alloc (Nat.le_refl _) _).alloc (by simp) _).alloc (by simp; omega) _)⟩

theorem append_full (base d f c m : Nat) (room : Int) (fs : List Fl) (A : List Ft) (clock : Nat) (name s : ByteArray) (w : World) (h : DiskAt base d f c m room fs A clock w) (hn : 0 < name.size ∧ name.size ≤ 40) (hs : room - usedF fs < s.size) :
    Calls Try.prog 39 #[.pointer (some ⟨d, 0, none⟩), .string name, .string s] w fun e w' => e = .returned (.int .i64 7) ∧ Now base d f c m room fs fs A w w' := by
  have hm := fun W => maybe_any name W
  rw [decide_eq_true hn] at hm
  have HM := Lib.hid hm
  clear hm hn
  have hB : ∀ (a b c' : Value) (ta tb tc : TypeId), Below w.heap.size w (((w.alloc (.cells #[a] ta)).alloc (.cells #[b] tb)).alloc (.cells #[c'] tc)) := fun a b c' ta tb tc =>
    (((Below.refl _ w).alloc (Nat.le_refl _) _).alloc (by simp) _).alloc (by simp; omega) _
  have hF := fun W b => free_any base d f c m room fs A clock W (h.below b)
  obtain ⟨F, hFd⟩ : ∃ F, F = room - usedF fs := ⟨_, rfl⟩
  rw [← hFd] at hs hF
  have HF := Lib.hid hF
  clear hF hFd
  go_enter Try.func39, Try.ntmps39
  go_wp2_with fail
  refine (HM.out _).mono ?_
  rintro e w1 ⟨rfl, rfl⟩
  go_wp2_with fail
  go_quiet ((go_at_call 26; refine Calls.quiet_of (HF.out _ ?_); exact below_draw (hB _ _ _ _ _ _) _))
  go_wp2
  go_ret
  exact ⟨rfl, Now.same h (below_draw (hB _ _ _ _ _ _) _)⟩

/-- The bytes appended, if the fault lets it be done. -/
theorem append_go (base d f c m : Nat) (room : Int) (fs : List Fl) (A : List Ft) (clock : Nat) (name s : ByteArray) (w : World) (h : DiskAt base d f c m room fs A clock w) (hn : 0 < name.size ∧ name.size ≤ 40) (hs : ¬ room - usedF fs < s.size) (hu : usedF fs + s.size ≤ 1000000) :
    Calls Try.prog 39 #[.pointer (some ⟨d, 0, none⟩), .string name, .string s] w fun e w' => e = .returned (.int .i64 (if (tryL A).1.1 then 0 else 8)) ∧
      ∃ v, Now base d f c m room fs (if (tryL A).1.2 then setF name v (dataF name fs ++ s.data.toList) (sureF name fs) clock fs else fs) (tryL A).2 w w' := by
  have hm := fun W => maybe_any name W
  rw [decide_eq_true hn] at hm
  have HM := Lib.hid hm
  clear hm hn
  have hB : ∀ (a b c' : Value) (ta tb tc : TypeId), Below w.heap.size w (((w.alloc (.cells #[a] ta)).alloc (.cells #[b] tb)).alloc (.cells #[c'] tc)) := fun a b c' ta tb tc =>
    (((Below.refl _ w).alloc (Nat.le_refl _) _).alloc (by simp) _).alloc (by simp; omega) _
  have hF := fun W b => free_any base d f c m room fs A clock W (h.below b)
  obtain ⟨F, hFd⟩ : ∃ F, F = room - usedF fs := ⟨_, rfl⟩
  rw [← hFd] at hs hF
  have HF := Lib.hid hF
  clear hF hFd
  have hs' : (s.size : Int) ≤ F := by omega
  have HU := Lib.hid hu
  clear hs hu
  go_enter Try.func39, Try.ntmps39
  go_wp2_with fail
  refine (HM.out _).mono ?_
  rintro e w1 ⟨rfl, rfl⟩
  obtain ⟨W0, hW0⟩ : ∃ W0, W0 = ((w.alloc (.cells #[.pointer (some ⟨d, 0, none⟩)] 23)).alloc (.cells #[.string name] 9)).alloc (.cells #[.string s] 9) := ⟨_, rfl⟩
  have b0 : Below w.heap.size w W0 := by rw [hW0]; exact hB _ _ _ _ _ _
  have z0 : W0.heap.size = w.heap.size + 3 := by rw [hW0]; simp
  have D0 := h.below b0
  have k0 : W0.cell? ⟨w.heap.size, 0, none⟩ = some (.pointer (some ⟨d, 0, none⟩)) := by
    rw [hW0, World.cell?_alloc_past _ _ _ (by simp; omega), World.cell?_alloc_past _ _ _ (by simp), cell_of_row _ _ 0 _ _ _ (heap_alloc_new w _)]; rfl
  have k1 : W0.cell? ⟨w.heap.size + 1, 0, none⟩ = some (.string name) := by
    have hb := heap_alloc_new (w.alloc (.cells #[.pointer (some ⟨d, 0, none⟩)] 23)) (.cells #[.string name] 9)
    rw [show (w.alloc (.cells #[.pointer (some ⟨d, 0, none⟩)] 23)).heap.size = w.heap.size + 1 by simp] at hb
    rw [hW0, World.cell?_alloc_past _ _ _ (by simp), cell_of_row _ _ 0 _ _ _ hb]; rfl
  have k2 : W0.cell? ⟨w.heap.size + 1 + 1, 0, none⟩ = some (.string s) := by
    have hb := heap_alloc_new ((w.alloc (.cells #[.pointer (some ⟨d, 0, none⟩)] 23)).alloc (.cells #[.string name] 9)) (.cells #[.string s] 9)
    rw [show ((w.alloc (.cells #[.pointer (some ⟨d, 0, none⟩)] 23)).alloc (.cells #[.string name] 9)).heap.size = w.heap.size + 1 + 1 by simp] at hb
    rw [hW0, cell_of_row _ _ 0 _ _ _ hb]; rfl
  have e0 := D0.c0
  rw [← hW0]
  have HW0 := Lib.hid hW0
  clear hW0
  go_wp2_with fail
  go_quiet ((go_at_call 26; refine Calls.quiet_of (HF.out _ ?_); exact below_draw b0 _))
  have b1 : Below w.heap.size w (W0.drewN nq) := below_draw b0 nq
  have D1 := h.below b1
  have HD := Lib.hid (do_append f c #[.pointer (some ⟨w.heap.size, 0, none⟩), .pointer (some ⟨w.heap.size + 1, 0, none⟩), .pointer (some ⟨w.heap.size + 1 + 1, 0, none⟩)] A (W0.drewN nq)
    (fun W er w' => er = 0 ∧ ∃ v, Now base d f c m room fs (setF name v (dataF name fs ++ s.data.toList) (sureF name fs) clock fs) (tryL A).2 W w') D1.fuse (by
      intro W hA t
      have D2 := D1.tried t hA
      have hlt := Mine.lt h
      have hown : ∀ k, w.heap.size ≤ k → ¬ Own f c k := fun k hk e => by
        rcases e with e | e
        · have := h.flt; have := h.hb; omega
        · have := h.clt; have := h.hb; omega
      have ht : ∀ k v, k < W0.heap.size → w.heap.size ≤ k → W0.cell? ⟨k, 0, none⟩ = some v → W.cell? ⟨k, 0, none⟩ = some v := fun k v hk hk2 hc => (t.cell (p := ⟨k, 0, none⟩) hk (hown k hk2)).trans hc
      refine (append1_any base d f c m room fs (tryL A).2 clock name s w.heap.size (w.heap.size + 1) (w.heap.size + 1 + 1) W D2 HU.out (ht _ _ (by omega) (by omega) k0) (ht _ _ (by omega) (by omega) k1) (ht _ _ (by omega) (by omega) k2) ?_).mono ?_
      · intro k hk
        have hz := t.size
        have hz' : (W0.drewN nq).heap.size = W0.heap.size := rfl
        have hge : w.heap.size ≤ k := by omega
        refine ⟨by omega, fun hm => ?_⟩
        have := hlt k hm
        omega
      · rintro e w' ⟨er, he, h0, v, hv⟩
        exact ⟨er, he, h0, v, hv⟩))
  go_wp2_with fail
  refine HD.out.mono ?_
  rintro e w2 ⟨W, hA, t, hif⟩
  have N1 : Now base d f c m room fs fs (tryL A).2 w W := Now.tried h b1 t hA
  cases hdn : (tryL A).1.2
  · rw [hdn] at hif
    obtain ⟨rfl, rfl⟩ := hif
    go_wp2
    all_goals
      go_ret
      exact ⟨rfl, N1⟩
  · rw [hdn] at hif
    obtain ⟨er, ⟨rfl, v, hv⟩, rfl⟩ := hif
    go_wp2
    all_goals
      go_ret
      exact ⟨rfl, v, N1.trans hv⟩
end Go.Proofs.Ytiegokjdnlhlcaa
