/- Layer 4's fuses: a channel with room for sixteen, in one goroutine. -/
import Derived.Test.YtiegokjdnlhlcaaMTurn
import Derived.Handy
import Derived.Conc.LoneCalls
import Derived.Conc.LoneSelect
import Derived.Laws.Rows
namespace Go.Proofs.Ytiegokjdnlhlcaa
open Go.Conc Go.RowKit

theorem Turn.setChan {S : Nat → Prop} {a b : World} (h : Turn S a b) (c cap : Nat) (buf : Array Value) (cl : Bool) (s r : Nat) (tm : Bool) (hc : S c) : Turn S a (b.setChan c cap buf cl s r tm) :=
  h.trans ⟨rfl, rfl, rfl, by simp [World.setChan], fun i _ hr => by
    have hne : c ≠ i := fun e => hr (e ▸ hc)
    simp only [World.setChan]; rw [Array.getElem?_setIfInBounds_ne hne]⟩

/-- A fault: so many calls work yet; is it done? -/
abbrev Ft := Int × Bool
def ftv (x : Ft) : Value := .agg #[.int .i64 x.1, .bool x.2]
def Ft.Fits (x : Ft) : Prop := -9223372036854775808 ≤ x.1 ∧ x.1 ≤ 9223372036854775807

/-- A channel's faults. -/
def ChanAt (c : Nat) (L : List Ft) (w : World) : Prop := ∃ s r, w.heap[c]? = some (.chan 16 (L.map ftv).toArray false s r false)

/-- A fuse lies in block f, its channel in block c. -/
structure FuseAt (f c : Nat) (L : List Ft) (armed : Bool) (now : Ft) (w : World) : Prop where
  lt : f < w.heap.size
  clt : c < w.heap.size
  ne : f ≠ c
  c0 : w.cell? ⟨f, 0, none⟩ = some (.chan (some c))
  c1 : w.cell? ⟨f, 1, none⟩ = some (.bool armed)
  c2 : w.cell? ⟨f, 2, none⟩ = some (.int .i64 now.1)
  c3 : w.cell? ⟨f, 3, none⟩ = some (.bool now.2)
  f1 : w.frozen? ⟨f, 1, none⟩ = false
  f2 : w.frozen? ⟨f, 2, none⟩ = false
  f3 : w.frozen? ⟨f, 3, none⟩ = false
  chan : ChanAt c L w
  few : L.length ≤ 16
  fits : ∀ x ∈ L, Ft.Fits x
  nfits : Ft.Fits now

set_option maxRecDepth 100000 in
theorem arm_room (f c : Nat) (L : List Ft) (armed : Bool) (now : Ft) (a : Int) (d : Bool) (w : World) (h : FuseAt f c L armed now w) (hr : L.length < 16) :
    Calls Try.prog 6 #[.pointer (some ⟨f, 0, none⟩), .int .i64 a, .bool d] w fun e w' => e = .returned (.int .i64 0) ∧ ChanAt c (L ++ [(a, d)]) w' ∧ Turn (fun k => k = c) w w' := by
  obtain ⟨s, r, hc⟩ := h.chan
  have c0 := h.c0
  refine calls_of_loneTo fun cs => ?_
  have e : Frame.enter Try.prog 6 #[.pointer (some ⟨f, 0, none⟩), .int .i64 a, .bool d] .normal = (base 6).at ⟨#[.pointer (some ⟨f, 0, none⟩), .int .i64 a, .bool d, undef, undef, undef, undef, undef, undef, undef, undef, undef, undef, undef, undef, undef, undef], []⟩ [.code (Try.f6.body.getD .skip)] := by
    simp [Frame.enter, Frame.at, Try.func6, base, Try.f6]
  rw [e]
  refine LoneTo.goes (n := 60) ?_
  simp only [Try.f6, Option.getD_some]
  iterate 19 (first | s_c stepG_seq | s_reg | s_op | s_c stepG_region_end)
  s_stop
  refine LoneTo.step (step_lone_select_send_room (c := c) (v := .agg #[.int .i64 a, .bool d]) (z' := .agg #[.int .i64 0, .bool false]) (cap := 16) (buf := (L.map ftv).toArray) (s := s) (r := r) (tm := false)
    (stepG_comm (cases := #[scase c (.agg #[.int .i64 a, .bool d]) (.agg #[.int .i64 0, .bool false])]) (blocking := false) (shape := .select) (w' := w) rfl rfl (by decide) (by simp [go_sem, execOp, scase, Act.eval])) hc (by simp; omega)) ?_
  rw [Frame.finish_at]
  walk_nrm
  refine LoneTo.goes (n := 40) ?_
  s_op
  s_op
  s_c stepG_region_end
  s_c stepG_block
  s_cond true
  s_c stepG_seq
  s_reg
  s_op
  s_c stepG_region_end
  s_c stepG_ret'
  s_stop
  refine LoneTo.done ⟨.returned (.int .i64 0), _, rfl, ⟨rfl, ⟨s + 1, r, ?_⟩, (Turn.refl _ w).setChan c 16 _ false (s + 1) r false rfl⟩, rfl, rfl, rfl, rfl, _, Try.func6, by simp [results, Try.f6, Frame.at]⟩
  rw [heap_setChan _ _ _ _ _ _ _ _ h.clt, List.map_append]
  rfl

set_option maxRecDepth 100000 in
theorem arm_full (f c : Nat) (L : List Ft) (armed : Bool) (now : Ft) (a : Int) (d : Bool) (w : World) (h : FuseAt f c L armed now w) (hr : 16 ≤ L.length) :
    Calls Try.prog 6 #[.pointer (some ⟨f, 0, none⟩), .int .i64 a, .bool d] w fun e w' => e = .returned (.int .i64 7) ∧ w = w' := by
  obtain ⟨s, r, hc⟩ := h.chan
  have c0 := h.c0
  refine calls_of_loneTo fun cs => ?_
  have e : Frame.enter Try.prog 6 #[.pointer (some ⟨f, 0, none⟩), .int .i64 a, .bool d] .normal = (base 6).at ⟨#[.pointer (some ⟨f, 0, none⟩), .int .i64 a, .bool d, undef, undef, undef, undef, undef, undef, undef, undef, undef, undef, undef, undef, undef, undef], []⟩ [.code (Try.f6.body.getD .skip)] := by
    simp [Frame.enter, Frame.at, Try.func6, base, Try.f6]
  rw [e]
  refine LoneTo.goes (n := 60) ?_
  simp only [Try.f6, Option.getD_some]
  iterate 19 (first | s_c stepG_seq | s_reg | s_op | s_c stepG_region_end)
  s_stop
  refine LoneTo.step (step_lone_select_send_full (c := c) (v := .agg #[.int .i64 a, .bool d]) (z' := .agg #[.int .i64 0, .bool false]) (cap := 16) (buf := (L.map ftv).toArray) (s := s) (r := r) (tm := false)
    (stepG_comm (cases := #[scase c (.agg #[.int .i64 a, .bool d]) (.agg #[.int .i64 0, .bool false])]) (blocking := false) (shape := .select) (w' := w) rfl rfl (by decide) (by simp [go_sem, execOp, scase, Act.eval])) hc (by simp; omega)) ?_
  rw [Frame.finish_at]
  walk_nrm
  refine LoneTo.goes (n := 40) ?_
  s_op
  s_op
  s_c stepG_region_end
  s_c stepG_block
  s_cond false
  s_c stepG_seq
  s_reg
  s_op
  s_c stepG_region_end
  s_c stepG_ret'
  s_stop
  exact LoneTo.done ⟨.returned (.int .i64 7), _, rfl, ⟨rfl, rfl⟩, rfl, rfl, rfl, rfl, _, Try.func6, by simp [results, Try.f6, Frame.at]⟩

set_option maxRecDepth 100000 in
theorem take_some (f c : Nat) (x : Ft) (L : List Ft) (armed : Bool) (now : Ft) (w : World) (h : FuseAt f c (x :: L) armed now w) :
    Calls Try.prog 30 #[.pointer (some ⟨f, 0, none⟩)] w fun e w' => e = .returned (.tuple #[ftv x, .bool true]) ∧ ChanAt c L w' ∧ Turn (fun k => k = c) w w' := by
  obtain ⟨s, r, hc⟩ := h.chan
  have c0 := h.c0
  have hclt := h.clt
  have hflt := h.lt
  refine calls_of_loneTo fun cs => ?_
  have e : Frame.enter Try.prog 30 #[.pointer (some ⟨f, 0, none⟩)] .normal = (base 30).at ⟨#[.pointer (some ⟨f, 0, none⟩), undef, undef, undef, undef, undef, undef, undef, undef, undef, undef, undef, undef, undef, undef], []⟩ [.code (Try.f30.body.getD .skip)] := by
    simp [Frame.enter, Frame.at, Try.func30, base, Try.f30]
  rw [e]
  refine LoneTo.goes (n := 90) ?_
  simp only [Try.f30, Option.getD_some]
  iterate 14 (first | s_c stepG_seq | s_reg | s_op | s_c stepG_region_end)
  s_stop
  obtain ⟨W0, hW0⟩ : ∃ W0, W0 = w.alloc (.cells #[.int .i64 0, .bool false] 41) := ⟨_, rfl⟩
  rw [← hW0]
  have z0 : W0.heap.size = w.heap.size + 1 := by rw [hW0]; simp
  have hblk : W0.heap[w.heap.size]? = some (.cells #[.int .i64 0, .bool false] 41) := by rw [hW0]; exact heap_alloc_new w _
  have hc0 : W0.heap[c]? = some (.chan 16 ((x :: L).map ftv).toArray false s r false) := by rw [hW0, Below.heap_alloc _ _ _ hclt]; exact hc
  have t0 : Turn (fun k => k = c) w W0 := by rw [hW0]; exact (Turn.refl _ w).alloc _
  have b0 : Below w.heap.size w W0 := by rw [hW0]; exact (Below.refl _ w).alloc (Nat.le_refl _) _
  refine LoneTo.step (step_lone_select_recv_buf (c := c) (z := .agg #[.int .i64 0, .bool false]) (cap := 16) (buf := ((x :: L).map ftv).toArray) (closed := false) (s := s) (r := r) (tm := false)
    (stepG_comm (cases := #[rcase c (.agg #[.int .i64 0, .bool false])]) (blocking := false) (shape := .select) (w' := W0) rfl rfl (by decide) (by simp [go_sem, execOp, rcase, Act.eval])) hc0 (by simp)) ?_
  rw [Frame.finish_at]
  obtain ⟨W1, hW1⟩ : ∃ W1, W1 = W0.setChan c 16 ((((x :: L).map ftv).toArray).extract 1 (((x :: L).map ftv).toArray).size) false s (r + 1) false := ⟨_, rfl⟩
  rw [← hW1]
  have hne : c ≠ w.heap.size := by omega
  have z1 : W1.heap.size = w.heap.size + 1 := by rw [hW1, size_setChan, z0]
  have hb1 : W1.heap[w.heap.size]? = some (.cells #[.int .i64 0, .bool false] 41) := by
    rw [hW1]; simp only [World.setChan]; rw [Array.getElem?_setIfInBounds_ne hne]; exact hblk
  have t1 : Turn (fun k => k = c) w W1 := by rw [hW1]; exact t0.setChan c 16 _ false s (r + 1) false rfl
  have hch : ChanAt c L W1 := ⟨s, r + 1, by rw [hW1, heap_setChan _ _ _ _ _ _ _ _ (by omega)]; simp [List.take_of_length_le]⟩
  have d0 : W1.cell? ⟨w.heap.size, 0, none⟩ = some (.int .i64 0) := by rw [cell_of_row _ _ 0 _ _ _ hb1]; rfl
  have d1 : W1.cell? ⟨w.heap.size, 1, none⟩ = some (.bool false) := by rw [cell_of_row _ _ 1 _ _ _ hb1]; rfl
  have f0 : W1.frozen? ⟨w.heap.size, 0, none⟩ = false := by simp only [World.frozen?, hb1]; rfl
  have f1 : W1.frozen? ⟨w.heap.size, 1, none⟩ = false := by simp only [World.frozen?, hb1]; rfl
  obtain ⟨xa, xb⟩ := x
  have hx : ((((xa, xb) :: L).map ftv).toArray.getD 0 undef) = .agg #[.int .i64 xa, .bool xb] := rfl
  rw [hx]
  have HW := Lib.hid hW1
  clear hW1 hc hc0 hblk hx
  walk_nrm
  refine LoneTo.goes (n := 40) ?_
  s_op
  s_op
  s_c stepG_region_end
  s_c stepG_block
  s_cond true
  s_c stepG_seq
  s_reg
  s_op
  s_op
  s_op
  s_c stepG_region_end
  s_c stepG_seq
  s_reg
  s_op
  s_op
  s_op
  s_c stepG_region_end
  s_c stepG_ret'
  s_stop
  have hlt : w.heap.size < W1.heap.size := by omega
  have q0 : (((W1.setCell ⟨w.heap.size, 0, none⟩ (.int .i64 xa)).setCell ⟨w.heap.size, 1, none⟩ (.bool xb)).alloc (.cells #[.int .i64 xa, .bool xb] 41)).cell? ⟨w.heap.size, 0, none⟩ = some (.int .i64 xa) := by
    rw [World.cell?_alloc_past _ _ _ (by simpa [World.setCell] using hlt), cell_setCell_other _ _ _ _ _ (.inr (by simp)), cell_setCell_same _ _ _ _ (by rw [d0]; rfl)]
  have q1 : (((W1.setCell ⟨w.heap.size, 0, none⟩ (.int .i64 xa)).setCell ⟨w.heap.size, 1, none⟩ (.bool xb)).alloc (.cells #[.int .i64 xa, .bool xb] 41)).cell? ⟨w.heap.size, 1, none⟩ = some (.bool xb) := by
    rw [World.cell?_alloc_past _ _ _ (by simpa [World.setCell] using hlt), cell_setCell_same _ _ _ _ (by rw [cell_setCell_other _ _ _ _ _ (.inr (by simp)), d1]; rfl)]
  refine LoneTo.done ⟨.returned (.tuple #[ftv (xa, xb), .bool true]), _, rfl, ⟨rfl, ?_, ?_⟩, rfl, rfl, rfl, rfl, _, Try.func30, ?_⟩
  rotate_left
  rotate_left
  · simp [results, Try.f30, Frame.at, go_sem, q0, q1, ftv]
  · obtain ⟨s', r', hc'⟩ := hch
    refine ⟨s', r', ?_⟩
    rw [Below.heap_alloc _ _ _ (by simp [World.setCell]; omega), Below.heap_setCell _ _ _ _ hne, Below.heap_setCell _ _ _ _ hne]
    exact hc'
  · exact ((t1.setNew _ _ (Nat.le_refl _)).setNew _ _ (Nat.le_refl _)).alloc _
set_option maxRecDepth 100000 in
theorem take_none (f c : Nat) (armed : Bool) (now : Ft) (w : World) (h : FuseAt f c [] armed now w) :
    Calls Try.prog 30 #[.pointer (some ⟨f, 0, none⟩)] w fun e w' => e = .returned (.tuple #[ftv (0, false), .bool false]) ∧ Below w.heap.size w w' := by
  obtain ⟨s, r, hc⟩ := h.chan
  have c0 := h.c0
  have hclt := h.clt
  have hflt := h.lt
  refine calls_of_loneTo fun cs => ?_
  have e : Frame.enter Try.prog 30 #[.pointer (some ⟨f, 0, none⟩)] .normal = (base 30).at ⟨#[.pointer (some ⟨f, 0, none⟩), undef, undef, undef, undef, undef, undef, undef, undef, undef, undef, undef, undef, undef, undef], []⟩ [.code (Try.f30.body.getD .skip)] := by
    simp [Frame.enter, Frame.at, Try.func30, base, Try.f30]
  rw [e]
  refine LoneTo.goes (n := 90) ?_
  simp only [Try.f30, Option.getD_some]
  iterate 14 (first | s_c stepG_seq | s_reg | s_op | s_c stepG_region_end)
  s_stop
  obtain ⟨W0, hW0⟩ : ∃ W0, W0 = w.alloc (.cells #[.int .i64 0, .bool false] 41) := ⟨_, rfl⟩
  rw [← hW0]
  have z0 : W0.heap.size = w.heap.size + 1 := by rw [hW0]; simp
  have hblk : W0.heap[w.heap.size]? = some (.cells #[.int .i64 0, .bool false] 41) := by rw [hW0]; exact heap_alloc_new w _
  have hc0 : W0.heap[c]? = some (.chan 16 (([] : List Ft).map ftv).toArray false s r false) := by rw [hW0, Below.heap_alloc _ _ _ hclt]; exact hc
  have t0 : Turn (fun k => k = c) w W0 := by rw [hW0]; exact (Turn.refl _ w).alloc _
  have b0 : Below w.heap.size w W0 := by rw [hW0]; exact (Below.refl _ w).alloc (Nat.le_refl _) _
  refine LoneTo.step (step_lone_select_default (c := c) (z := .agg #[.int .i64 0, .bool false]) (cap := 16) (s := s) (r := r) (tm := false)
    (stepG_comm (cases := #[rcase c (.agg #[.int .i64 0, .bool false])]) (blocking := false) (shape := .select) (w' := W0) rfl rfl (by decide) (by simp [go_sem, execOp, rcase, Act.eval])) hc0) ?_
  rw [Frame.finish_at]
  walk_nrm
  refine LoneTo.goes (n := 40) ?_
  s_op
  s_op
  s_c stepG_region_end
  s_c stepG_block
  s_cond false
  s_c stepG_seq
  s_reg
  s_op
  s_op
  s_op
  s_c stepG_region_end
  s_c stepG_ret'
  s_stop
  refine LoneTo.done ⟨.returned (.tuple #[ftv (0, false), .bool false]), _, rfl, ⟨rfl, ?_⟩, rfl, rfl, rfl, rfl, _, Try.func30, ?_⟩
  · exact b0.trans (by rw [hW0]; exact Below.refl _ _)
  · simp [results, Try.f30, Frame.at, go_sem, ftv]
end Go.Proofs.Ytiegokjdnlhlcaa
