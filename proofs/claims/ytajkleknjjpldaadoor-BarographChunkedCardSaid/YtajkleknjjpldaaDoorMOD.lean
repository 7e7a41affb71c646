/- Layer 7's statements: what they ask first; lists of samples held against each other. -/
import Derived.Test.YtajkleknjjpldaaDoorMOC
namespace Go.Proofs.YtajkleknjjpldaaDoor
open Go.RowKit Go.Lib

def aw : List Xo.Sm := [(10, 7), (20, 7), (30, 7)]
theorem aw_good : Xo.Good aw := by refine ⟨by decide, by decide, by simp [aw]⟩
theorem aw_text : Xo.text aw = [3, 117, 0, 0, 0, 0, 5, 0, 0, 0, 0, 0, 0, 0, 3, 197, 0] := by decide +kernel
theorem fits_good {l : List Xo.Sm} (h : Xo.Good l) : Fits l := fun s hs => by have := h.2.1 s hs; omega

theorem of_good (C : Nat) (v : Value) (l : List Xo.Sm) (w : World) (hv : Rd w 2 v l.length (smc l)) (hg : Xo.Good l) (hT : Tabs C w) :
    Calls Tryd.prog 5 #[v] w fun e w' => e = .returned (.tuple #[.string (bs (Xo.text l)), .int .i64 0]) ∧ Below w.heap.size w w' := by
  have h0 := ofErr_good l hg
  have hs : ofS l = Xo.text l := by unfold ofS; rw [h0, if_pos rfl]
  have := of_any C v l w hv (fits_good hg) hT (by have := hg.1; omega)
  rw [h0, hs] at this
  exact this
theorem samples_good (C : Nat) (l : List Xo.Sm) (w : World) (hg : Xo.Good l) (hT : Tabs C w) :
    Calls Tryd.prog 30 #[.string (bs (Xo.text l))] w fun e w' => ∃ a cap, e = .returned (.tuple #[.slice a l.length cap, .int .i64 0]) ∧ Sl w' w.heap.size 2 (.slice a l.length cap) l.length (smc l) ∧ Below w.heap.size w w' := by
  refine (samples_any C (Xo.text l) w (by have := Xo.text_len l hg; omega) hT).mono fun e w' hx => ?_
  obtain ⟨hb, hx⟩ := hx
  rw [Xo.samplesM_text l hg, if_pos rfl] at hx
  obtain ⟨a, cap, he, hs⟩ := hx
  exact ⟨a, cap, he, hs, hb⟩

end Go.Proofs.YtajkleknjjpldaaDoor
