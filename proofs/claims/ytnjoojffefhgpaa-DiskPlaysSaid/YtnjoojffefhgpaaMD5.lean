/- Layer 4's disks: Append. Layer 4: small calls: a remainder, a file's beginning, new fuses, new disks. -/
import Derived.Test.YtnjoojffefhgpaaMD4
import Derived.BigQuiet
import Derived.Handy
import Derived.Conc.SmallLaws
namespace Go.Proofs.Ytnjoojffefhgpaa
open Go.Conc Go.RowKit

theorem Mine.lt {base d f c m : Nat} {room : Int} {fs : List Fl} {A : List Ft} {clock : Nat} {w : World} (h : DiskAt base d f c m room fs A clock w) : ∀ k, Mine d f c m fs k → k < w.heap.size := by
  intro k hk
  have := h.hb; have := h.dlt; have := h.flt; have := h.clt; have := h.mlt
  rcases hk with e | e | e | e | ⟨x, hx, hk⟩
  · omega
  · omega
  · omega
  · omega
  · exact ((h.files.sl x hx).lt k hk).2
theorem Now.same {base d f c m : Nat} {room : Int} {fs : List Fl} {A : List Ft} {clock : Nat} {w w' : World} (h : DiskAt base d f c m room fs A clock w) (b : Below w.heap.size w w') : Now base d f c m room fs fs A w w' :=
  ⟨⟨clock, h.below b⟩, Turn.of_below b, fun _ hk => .inl hk⟩
theorem Now.tried {base d f c m : Nat} {room : Int} {fs : List Fl} {A A' : List Ft} {clock : Nat} {w w' w'' : World} (h : DiskAt base d f c m room fs A clock w) (b : Below w.heap.size w w') (t : Turn (Own f c) w' w'') (hA : Holds f c A' w'') : Now base d f c m room fs fs A' w w'' :=
  ⟨⟨clock, (h.below b).tried t hA⟩, (Turn.of_below b).trans (t.mono fun k hk => by rcases hk with e | e; exact .inr (.inl e); exact .inr (.inr (.inl e))), fun _ hk => .inl hk⟩
theorem Now.trans {base d f c m : Nat} {room : Int} {fs fs1 fs2 : List Fl} {A1 A2 : List Ft} {w w1 w2 : World} (h1 : Now base d f c m room fs fs1 A1 w w1) (h2 : Now base d f c m room fs1 fs2 A2 w1 w2) : Now base d f c m room fs fs2 A2 w w2 := by
  obtain ⟨_, t1, m1⟩ := h1
  obtain ⟨c2, t2, m2⟩ := h2
  have hz := t1.size
  refine ⟨c2, ⟨t2.os.trans t1.os, t2.tape.trans t1.tape, t2.output.trans t1.output, Nat.le_trans t1.size t2.size, fun k hk hn => ?_⟩, fun k hk => ?_⟩
  · refine (t2.block k (by omega) fun hm => ?_).trans (t1.block k hk hn)
    rcases m1 k hm with e | e
    · exact hn e
    · omega
  · rcases m2 k hk with e | e
    · exact m1 k e
    · exact .inr (by omega)

theorem append_bad (base d f c m : Nat) (room : Int) (fs : List Fl) (A : List Ft) (clock : Nat) (name s : ByteArray) (w : World) (h : DiskAt base d f c m room fs A clock w) (hn : ¬ (0 < name.size ∧ name.size ≤ 40)) :
    Calls Try.prog 18 #[.pointer (some ⟨d, 0, none⟩), .string name, .string s] w fun e w' => e = .returned (.int .i64 1) ∧ Now base d f c m room fs fs A w w' := by
  have hm := fun W => maybe_any name W
  rw [decide_eq_false hn] at hm
  have HM := Lib.hid hm
  clear hm hn
  go_enter Try.func18, Try.ntmps18
  go_wp2_with fail
  refine (HM.out _).mono ?_
  rintro e w1 ⟨rfl, rfl⟩
  go_wp2
  go_ret
  exact ⟨rfl, Now.same h ((((Below.refl _ w).alloc (Nat.le_refl _) _).alloc (by simp) _).alloc (by simp; omega) _)⟩

theorem append_full (base d f c m : Nat) (room : Int) (fs : List Fl) (A : List Ft) (clock : Nat) (name s : ByteArray) (w : World) (h : DiskAt base d f c m room fs A clock w) (hn : 0 < name.size ∧ name.size ≤ 40) (hs : room - usedF fs < s.size) :
    Calls Try.prog 18 #[.pointer (some ⟨d, 0, none⟩), .string name, .string s] w fun e w' => e = .returned (.int .i64 7) ∧ Now base d f c m room fs fs A w w' := by
  have hm := fun W => maybe_any name W
  rw [decide_eq_true hn] at hm
  have HM := Lib.hid hm
  clear hm hn
  have hB : ∀ (a b c' : Value) (ta tb tc : TypeId), Below w.heap.size w (((w.alloc (.cells #[a] ta)).alloc (.cells #[b] tb)).alloc (.cells #[c'] tc)) := fun a b c' ta tb tc =>
    (((Below.refl _ w).alloc (Nat.le_refl _) _).alloc (by simp) _).alloc (by simp; omega) _
  have hF := fun W b => free_any base d f c m room fs A clock W (h.below b)
  obtain ⟨F, hFd⟩ : ∃ F, F = room - usedF fs := ⟨_, rfl⟩
  rw [← hFd] at hs hF
  have HF := Lib.hid hF
  clear hF hFd
  go_enter Try.func18, Try.ntmps18
  go_wp2_with fail
  refine (HM.out _).mono ?_
  rintro e w1 ⟨rfl, rfl⟩
  go_wp2_with fail
  go_quiet ((go_at_call 34; refine Calls.quiet_of (HF.out _ ?_); exact below_draw (hB _ _ _ _ _ _) _))
  go_wp2
  go_ret
  exact ⟨rfl, Now.same h (below_draw (hB _ _ _ _ _ _) _)⟩

/-- The bytes appended, if the fault lets it be done. -/
theorem append_go (base d f c m : Nat) (room : Int) (fs : List Fl) (A : List Ft) (clock : Nat) (name s : ByteArray) (w : World) (h : DiskAt base d f c m room fs A clock w) (hn : 0 < name.size ∧ name.size ≤ 40) (hs : ¬ room - usedF fs < s.size) (hu : usedF fs + s.size ≤ 1000000) :
    Calls Try.prog 18 #[.pointer (some ⟨d, 0, none⟩), .string name, .string s] w fun e w' => e = .returned (.int .i64 (if (tryL A).1.1 then 0 else 8)) ∧
      ∃ v, Now base d f c m room fs (if (tryL A).1.2 then setF name v (dataF name fs ++ s.data.toList) (sureF name fs) clock fs else fs) (tryL A).2 w w' := by
  have hm := fun W => maybe_any name W
  rw [decide_eq_true hn] at hm
  have HM := Lib.hid hm
  clear hm hn
  have hB : ∀ (a b c' : Value) (ta tb tc : TypeId), Below w.heap.size w (((w.alloc (.cells #[a] ta)).alloc (.cells #[b] tb)).alloc (.cells #[c'] tc)) := fun a b c' ta tb tc =>
    (((Below.refl _ w).alloc (Nat.le_refl _) _).alloc (by simp) _).alloc (by simp; omega) _
  have hF := fun W b => free_any base d f c m room fs A clock W (h.below b)
  obtain ⟨F, hFd⟩ : ∃ F, F = room - usedF fs := ⟨_, rfl⟩
  rw [← hFd] at hs hF
  have HF := Lib.hid hF
  clear hF hFd
  have hs' : (s.size : Int) ≤ F := by omega
  have HU := Lib.hid hu
  clear hs hu
  go_enter Try.func18, Try.ntmps18
  go_wp2_with fail
  refine (HM.out _).mono ?_
  rintro e w1 ⟨rfl, rfl⟩
  obtain ⟨W0, hW0⟩ : ∃ W0, W0 = ((w.alloc (.cells #[.pointer (some ⟨d, 0, none⟩)] 23)).alloc (.cells #[.string name] 9)).alloc (.cells #[.string s] 9) := ⟨_, rfl⟩
  have b0 : Below w.heap.size w W0 := by rw [hW0]; exact hB _ _ _ _ _ _
  have z0 : W0.heap.size = w.heap.size + 3 := by rw [hW0]; simp
  have D0 := h.below b0
  have k0 : W0.cell? ⟨w.heap.size, 0, none⟩ = some (.pointer (some ⟨d, 0, none⟩)) := by
    rw [hW0, World.cell?_alloc_past _ _ _ (by simp; omega), World.cell?_alloc_past _ _ _ (by simp), cell_of_row _ _ 0 _ _ _ (heap_alloc_new w _)]; rfl
  have k1 : W0.cell? ⟨w.heap.size + 1, 0, none⟩ = some (.string name) := by
    have hb := heap_alloc_new (w.alloc (.cells #[.pointer (some ⟨d, 0, none⟩)] 23)) (.cells #[.string name] 9)
    rw [show (w.alloc (.cells #[.pointer (some ⟨d, 0, none⟩)] 23)).heap.size = w.heap.size + 1 by simp] at hb
    rw [hW0, World.cell?_alloc_past _ _ _ (by simp), cell_of_row _ _ 0 _ _ _ hb]; rfl
  have k2 : W0.cell? ⟨w.heap.size + 1 + 1, 0, none⟩ = some (.string s) := by
    have hb := heap_alloc_new ((w.alloc (.cells #[.pointer (some ⟨d, 0, none⟩)] 23)).alloc (.cells #[.string name] 9)) (.cells #[.string s] 9)
    rw [show ((w.alloc (.cells #[.pointer (some ⟨d, 0, none⟩)] 23)).alloc (.cells #[.string name] 9)).heap.size = w.heap.size + 1 + 1 by simp] at hb
    rw [hW0, cell_of_row _ _ 0 _ _ _ hb]; rfl
  have e0 := D0.c0
  rw [← hW0]
  have HW0 := Lib.hid hW0
  clear hW0
  go_wp2_with fail
  go_quiet ((go_at_call 34; refine Calls.quiet_of (HF.out _ ?_); exact below_draw b0 _))
  have b1 : Below w.heap.size w (W0.drewN nq) := below_draw b0 nq
  have D1 := h.below b1
  have HD := Lib.hid (do_append f c #[.pointer (some ⟨w.heap.size, 0, none⟩), .pointer (some ⟨w.heap.size + 1, 0, none⟩), .pointer (some ⟨w.heap.size + 1 + 1, 0, none⟩)] A (W0.drewN nq)
    (fun W er w' => er = 0 ∧ ∃ v, Now base d f c m room fs (setF name v (dataF name fs ++ s.data.toList) (sureF name fs) clock fs) (tryL A).2 W w') D1.fuse (by
      intro W hA t
      have D2 := D1.tried t hA
      have hlt := Mine.lt h
      have hown : ∀ k, w.heap.size ≤ k → ¬ Own f c k := fun k hk e => by
        rcases e with e | e
        · have := h.flt; have := h.hb; omega
        · have := h.clt; have := h.hb; omega
      have ht : ∀ k v, k < W0.heap.size → w.heap.size ≤ k → W0.cell? ⟨k, 0, none⟩ = some v → W.cell? ⟨k, 0, none⟩ = some v := fun k v hk hk2 hc => (t.cell (p := ⟨k, 0, none⟩) hk (hown k hk2)).trans hc
      refine (append1_any base d f c m room fs (tryL A).2 clock name s w.heap.size (w.heap.size + 1) (w.heap.size + 1 + 1) W D2 HU.out (ht _ _ (by omega) (by omega) k0) (ht _ _ (by omega) (by omega) k1) (ht _ _ (by omega) (by omega) k2) ?_).mono ?_
      · intro k hk
        have hz := t.size
        have hz' : (W0.drewN nq).heap.size = W0.heap.size := rfl
        have hge : w.heap.size ≤ k := by omega
        refine ⟨by omega, fun hm => ?_⟩
        have := hlt k hm
        omega
      · rintro e w' ⟨er, he, h0, v, hv⟩
        exact ⟨er, he, h0, v, hv⟩))
  go_wp2_with fail
  refine HD.out.mono ?_
  rintro e w2 ⟨W, hA, t, hif⟩
  have N1 : Now base d f c m room fs fs (tryL A).2 w W := Now.tried h b1 t hA
  cases hdn : (tryL A).1.2
  · rw [hdn] at hif
    obtain ⟨rfl, rfl⟩ := hif
    go_wp2
    all_goals
      go_ret
      exact ⟨rfl, N1⟩
  · rw [hdn] at hif
    obtain ⟨er, ⟨rfl, v, hv⟩, rfl⟩ := hif
    go_wp2
    all_goals
      go_ret
      exact ⟨rfl, v, N1.trans hv⟩
end Go.Proofs.Ytnjoojffefhgpaa

namespace Go.Proofs.Ytnjoojffefhgpaa
open Go.Conc Go.RowKit

theorem mod_any (x n : Int) (w : World) (hn : 0 < n) (hn2 : n ≤ 1000001) :
    Calls Try.prog 54 #[.int .i64 x, .int .i64 n] w fun e w' => e = .returned (.int .i64 (x % n)) ∧ w = w' := by
  have h1 : x.tmod n < n := Int.tmod_lt_of_pos x hn
  have h2 : -n < x.tmod n := by have := Int.lt_tmod_of_pos x hn; omega
  have h3 : (x.tmod n + n).tmod n = x % n := by
    rw [Int.tmod_eq_emod_of_nonneg (by omega), Int.add_emod_right]
    have := Int.mul_tdiv_add_tmod x n
    rw [show x.tmod n = x + n * (-(x.tdiv n)) by rw [Int.mul_neg]; omega, Int.add_mul_emod_self_left]
  have H3 := Lib.hid h3
  have hn0 : n ≠ 0 := by omega
  have hw : wrap64 (x.tmod n + n) = x.tmod n + n := IntWalk.wrap64_in _ ⟨by omega, by omega⟩
  have HW := Lib.hid hw
  clear h1 h2 h3 hw
  go_enter Try.func54, Try.ntmps54
  go_wp2
  go_ret
  refine ⟨?_, rfl⟩
  have h := H3.out
  rw [← HW.out] at h
  rw [← h]
  rfl

theorem mk_chan (w : World) : (Instr.makeChan 111 (.int .i64 16)).run Try.prog w = .ok (.chan (some w.heap.size)) (w.alloc (.chan 16 #[] false 0 0 false)) := by
  have h : (Try.prog.info? 113).map (fun i => decide (i.bytes ≤ 64)) = some true := by kernel_rfl
  obtain ⟨i, hi, hb⟩ := Option.map_eq_some_iff.1 h
  have hb' : i.bytes ≤ 64 := by simpa using hb
  simpa using Go.Conc.run_makeChan (P := Try.prog) (w := w) Try.underlying111 hi .i64 16 (by omega) (by omega)

theorem newfuse_any (w : World) : Calls Try.prog 17 #[] w fun e w' => e = .returned (.pointer (some ⟨w.heap.size + 1, 0, none⟩)) ∧ Holds (w.heap.size + 1) w.heap.size [] w' ∧ Below w.heap.size w w' ∧ w'.heap.size = w.heap.size + 2 := by
  have hmk := mk_chan
  go_enter Try.func17, Try.ntmps17
  go_wp2
  go_ret
  obtain ⟨W1, hW1⟩ : ∃ W1, W1 = w.alloc (.chan 16 #[] false 0 0 false) := ⟨_, rfl⟩
  have z1 : W1.heap.size = w.heap.size + 1 := by rw [hW1]; simp
  have hc : W1.heap[w.heap.size]? = some (.chan 16 #[] false 0 0 false) := by rw [hW1]; exact heap_alloc_new w _
  have b1 : Below w.heap.size w W1 := by rw [hW1]; exact (Below.refl _ w).alloc (Nat.le_refl _) _
  rw [← hW1]
  obtain ⟨W2, hW2⟩ : ∃ W2, W2 = W1.alloc (.cells #[.chan (some w.heap.size), .bool false, .int .i64 0, .bool false] 115) := ⟨_, rfl⟩
  have z2 : W2.heap.size = w.heap.size + 2 := by rw [hW2]; simp; omega
  have hf : W2.heap[w.heap.size + 1]? = some (.cells #[.chan (some w.heap.size), .bool false, .int .i64 0, .bool false] 115) := by
    rw [hW2]; have := heap_alloc_new W1 (.cells #[.chan (some w.heap.size), .bool false, .int .i64 0, .bool false] 115); rw [z1] at this; exact this
  have hc2 : W2.heap[w.heap.size]? = some (.chan 16 #[] false 0 0 false) := by rw [hW2, Below.heap_alloc _ _ _ (by omega)]; exact hc
  rw [← hW2]
  have hcell : ∀ o v, (#[Value.chan (some w.heap.size), Value.bool false, Value.int IntKind.i64 0, Value.bool false] : Array Value)[o]? = some v → W2.cell? ⟨w.heap.size + 1, o, none⟩ = some v := fun o v hv => by
    rw [cell_of_row _ _ o _ _ _ hf]; exact hv
  have hfr : ∀ o, W2.frozen? ⟨w.heap.size + 1, o, none⟩ = false := fun o => by simp only [World.frozen?, hf]; rfl
  refine ⟨rfl, ⟨[], false, (0, false), ⟨by omega, by omega, by omega, hcell _ _ rfl, hcell _ _ rfl, hcell _ _ rfl, hcell _ _ rfl, hfr _, hfr _, hfr _, ⟨0, 0, hc2⟩, by simp, by simp, by unfold Ft.Fits; decide⟩, rfl⟩, ?_, z2⟩
  rw [hW2]
  exact b1.alloc (by omega) _

theorem new_disk (R : Int) (w w1 : World) (h0 : 0 ≤ R) (h1 : R ≤ 9223372036854775807) (hh : Holds (w.heap.size + 1) w.heap.size [] w1) (b1 : Below w.heap.size w w1) (z1 : w1.heap.size = w.heap.size + 2) :
    DiskAt (w.heap.size + 4) (w.heap.size + 3) (w.heap.size + 1) w.heap.size (w.heap.size + 2) R [] [] 0 ((w1.alloc (.map #[] 0)).alloc (.cells #[.pointer (some ⟨w.heap.size + 1, 0, none⟩), .int .i64 R, .int .i64 0, .map (some (w.heap.size + 2))] 35)) ∧
    Below w.heap.size w ((w1.alloc (.map #[] 0)).alloc (.cells #[.pointer (some ⟨w.heap.size + 1, 0, none⟩), .int .i64 R, .int .i64 0, .map (some (w.heap.size + 2))] 35)) := by
  obtain ⟨W2, hW2⟩ : ∃ W2, W2 = w1.alloc (.map #[] 0) := ⟨_, rfl⟩
  have z2 : W2.heap.size = w.heap.size + 3 := by rw [hW2]; simp; omega
  have hm : W2.heap[w.heap.size + 2]? = some (.map #[] 0) := by rw [hW2]; have := heap_alloc_new w1 (.map #[] 0); rw [z1] at this; exact this
  have b2 : Below w1.heap.size w1 W2 := by rw [hW2]; exact (Below.refl _ _).alloc (Nat.le_refl _) _
  rw [← hW2]
  obtain ⟨W3, hW3⟩ : ∃ W3, W3 = W2.alloc (.cells #[.pointer (some ⟨w.heap.size + 1, 0, none⟩), .int .i64 R, .int .i64 0, .map (some (w.heap.size + 2))] 35) := ⟨_, rfl⟩
  have z3 : W3.heap.size = w.heap.size + 4 := by rw [hW3]; simp; omega
  have hd : W3.heap[w.heap.size + 3]? = some (.cells #[.pointer (some ⟨w.heap.size + 1, 0, none⟩), .int .i64 R, .int .i64 0, .map (some (w.heap.size + 2))] 35) := by
    rw [hW3]; have := heap_alloc_new W2 (.cells #[.pointer (some ⟨w.heap.size + 1, 0, none⟩), .int .i64 R, .int .i64 0, .map (some (w.heap.size + 2))] 35); rw [z2] at this; exact this
  have b3 : Below W2.heap.size W2 W3 := by rw [hW3]; exact (Below.refl _ _).alloc (Nat.le_refl _) _
  rw [← hW3]
  have hcell : ∀ o v, (#[Value.pointer (some ⟨w.heap.size + 1, 0, none⟩), Value.int IntKind.i64 R, Value.int IntKind.i64 0, Value.map (some (w.heap.size + 2))] : Array Value)[o]? = some v → W3.cell? ⟨w.heap.size + 3, o, none⟩ = some v := fun o v hv => by
    rw [cell_of_row _ _ o _ _ _ hd]; exact hv
  have t13 : Turn (fun _ => False) w1 W3 := (Turn.of_below b2).trans (Turn.of_below b3)
  refine ⟨⟨by omega, by omega, by omega, by omega, by omega, by omega, by omega, by omega, by omega, by omega, by omega, hcell _ _ rfl, hcell _ _ rfl, hcell _ _ rfl, hcell _ _ rfl, by simp only [World.frozen?, hd]; rfl, hh.turn t13 (fun h => h) (fun h => h), ?_, ⟨by simp, by simp, by simp, by simp⟩, h0, h1, by decide, ⟨by simp, by simp⟩⟩, ?_⟩
  · show W3.heap[w.heap.size + 2]? = _
    rw [b3.block _ (by omega)]; exact hm
  · exact (b1.trans (b2.mono (by omega))).trans (b3.mono (by omega))

theorem new_any (room : Int) (w : World) (h1 : room ≤ 9223372036854775807) (h0 : -9223372036854775808 ≤ room) : Calls Try.prog 5 #[.int .i64 room] w fun e w' => e = .returned (.pointer (some ⟨w.heap.size + 3, 0, none⟩)) ∧
      DiskAt (w.heap.size + 4) (w.heap.size + 3) (w.heap.size + 1) w.heap.size (w.heap.size + 2) (max room 0) [] [] 0 w' ∧ Below w.heap.size w w' := by
  have hmm := @run_makeMap Try.prog
  by_cases hr : room < 0
  · rw [show max room 0 = 0 by omega]
    go_enter Try.func5, Try.ntmps5
    go_wp2_with fail
    refine (newfuse_any _).mono ?_
    rintro e w1 ⟨rfl, hh, b1, z1⟩
    have N := Lib.hid (new_disk 0 w w1 (by decide) (by decide) hh b1 z1)
    go_wp2
    go_ret
    exact ⟨rfl, N.out⟩
  · rw [show max room 0 = room by omega]
    have hr' : 0 ≤ room := by omega
    go_enter Try.func5, Try.ntmps5
    go_wp2_with fail
    refine (newfuse_any _).mono ?_
    rintro e w1 ⟨rfl, hh, b1, z1⟩
    have N := Lib.hid (new_disk room w w1 hr' h1 hh b1 z1)
    go_wp2
    go_ret
    exact ⟨rfl, N.out⟩
end Go.Proofs.Ytnjoojffefhgpaa
