/- Layer 7's statements: what they ask first; lists of samples held against each other. -/
import Derived.Test.YtieaiecoiononaaDoorOC
namespace Go.Proofs.YtieaiecoiononaaDoor
open Go.RowKit Go.Lib

def aw : List Xo.Sm := [(10, 7), (20, 7), (30, 7)]
theorem aw_good : Xo.Good aw := by refine ⟨by decide, by decide, by simp [aw]⟩
theorem aw_text : Xo.text aw = [3, 117, 0, 0, 0, 0, 5, 0, 0, 0, 0, 0, 0, 0, 3, 197, 0] := by decide +kernel
theorem fits_good {l : List Xo.Sm} (h : Xo.Good l) : Fits l := fun s hs => by have := h.2.1 s hs; omega

theorem of_good (C : Nat) (v : Value) (l : List Xo.Sm) (w : World) (hv : Rd w 2 v l.length (smc l)) (hg : Xo.Good l) (hT : Tabs C w) :
    Calls Tryd.prog 9 #[v] w fun e w' => e = .returned (.tuple #[.string (bs (Xo.text l)), .int .i64 0]) ∧ Below w.heap.size w w' := by
  have h0 := ofErr_good l hg
  have hs : ofS l = Xo.text l := by unfold ofS; rw [h0, if_pos rfl]
  have := of_any C v l w hv (fits_good hg) hT (by have := hg.1; omega)
  rw [h0, hs] at this
  exact this
theorem samples_good (C : Nat) (l : List Xo.Sm) (w : World) (hg : Xo.Good l) (hT : Tabs C w) :
    Calls Tryd.prog 13 #[.string (bs (Xo.text l))] w fun e w' => ∃ a cap, e = .returned (.tuple #[.slice a l.length cap, .int .i64 0]) ∧ Sl w' w.heap.size 2 (.slice a l.length cap) l.length (smc l) ∧ Below w.heap.size w w' := by
  refine (samples_any C (Xo.text l) w (by have := Xo.text_len l hg; omega) hT).mono fun e w' hx => ?_
  obtain ⟨hb, hx⟩ := hx
  rw [Xo.samplesM_text l hg, if_pos rfl] at hx
  obtain ⟨a, cap, he, hs⟩ := hx
  exact ⟨a, cap, he, hs, hb⟩

set_option maxRecDepth 100000 in
theorem xawake_any (C : Nat) (w : World) (hT : Tabs C w) : Calls Tryd.prog 5 #[] w fun e w' => e = .returned (.bool true) ∧ Below w.heap.size w w' := by
  have hC := hT.hB
  have b0 : ∀ o, Below w.heap.size w (w.alloc o) := fun o => (Below.refl _ _).alloc (Nat.le_refl _) o
  have OF := Lib.hid (fun t => of_good C (.slice (some ⟨w.heap.size, 0, none⟩) 3 3) aw (w.alloc (.cells #[.int .i64 10, .int .u64 7, .int .i64 20, .int .u64 7, .int .i64 30, .int .u64 7] t)) (Rd.of_sl (Sl.lit w w.heap.size 2 3 #[.int .i64 10, .int .u64 7, .int .i64 20, .int .u64 7, .int .i64 30, .int .u64 7] t (Nat.le_refl _) (by decide) rfl)) aw_good (hT.below (b0 _) hC))
  have SM := Lib.hid (fun W (b : Below w.heap.size w W) => samples_good C aw W aw_good (hT.below b hC))
  have e3 : aw.length = 3 := rfl
  rw [aw_text] at OF SM
  simp only [e3] at SM
  clear e3
  have HB := Lib.hid b0
  clear b0
  go_enter Tryd.func5, Tryd.ntmps5
  go_wp2_with fail
  refine (OF.out _).mono ?_
  rintro e w1 ⟨rfl, b1⟩
  have b01 := (HB.out _).trans (b1.mono (HB.out _).size)
  go_wp2_with fail
  refine (SM.out w1 b01).mono ?_
  rintro e w2 ⟨a, cap, rfl, sl, b2⟩
  obtain ⟨g, off, cap', hv, _⟩ := sl.somewhere (by decide)
  cases hv
  have q4 := sl.cells 4 (.int .i64 30) rfl
  have q5 := sl.cells 5 (.int .u64 7) rfl
  simp [Addr.add] at q4 q5
  have b02 := Lib.hid (b01.trans (b2.mono b01.size))
  clear sl b2 b01 b1 HB OF SM
  go_wp2_with fail
  go_ret
  exact ⟨rfl, b02.out⟩
end Go.Proofs.YtieaiecoiononaaDoor
