/- Layer 6: the document's own pairs: Told, Compare; the statement LabelCompares walked. -/
import Derived.Test.YtboiboojkomplaaDoorMLF
import Derived.Laws.StructEq
namespace Go.Proofs.YtboiboojkomplaaDoor
open Go.RowKit Go.Lib

theorem zc_rpair : (Tryd.prog.info? 56).map (fun i => (i.zero, i.size, i.bytes)) = some (some (.agg #[.string ⟨#[]⟩, .string ⟨#[]⟩]), 2, 32) := by kernel_rfl

set_option maxHeartbeats 2000000 in
set_option maxRecDepth 100000 in
theorem told_any (v : Value) (ds : List Pr) (w : World) (h : Rd w 2 v ds.length (prc ds)) (hm : ds.length ≤ 1000000) :
    Calls Tryd.prog 11 #[v] w (NewP w ds) := by
  obtain ⟨i0, hi, hz0, hz1, hz2⟩ := info_parts zc_rpair
  have Hz := Lib.hid hz0; have Hs := Lib.hid hz1; have Hb := Lib.hid hz2; have Hi := Lib.hid hi
  clear hz0 hz1 hz2 hi
  obtain ⟨_, a, cap, g, off, rfl, hg, hc⟩ := h
  obtain ⟨n, hn⟩ : ∃ n, n = ds.length := ⟨_, rfl⟩
  rw [← hn] at hg hc hm
  have HN := Lib.hid hn
  have HC := Lib.hid hc
  have HG := Lib.hid hg
  rw [← hn]
  clear hn hc hg
  go_enter Tryd.func11, Tryd.ntmps11
  go_wp2_with fail
  go_loopw [3, 9] (fun o' i' wr => ∃ (i : Nat), i' = .int .i64 i ∧ i ≤ n ∧ Sl wr w.heap.size 2 o' i (prc (ds.take i)) ∧ Below w.heap.size w wr) (fun _ i' _ => n - (intOf i').toNat)
  case atStart => exact ⟨0, rfl, by omega, Sl.lit w w.heap.size 2 0 #[] _ (Nat.le_refl _) (by decide) rfl, (Below.refl _ _).alloc (Nat.le_refl _) _⟩
  case round =>
    obtain ⟨i, rfl, hi, hown, hb⟩ := hrel
    have hbz := hb.size
    by_cases hlt : i < n
    · obtain ⟨rfl, hgl⟩ := HG.out (by omega)
      obtain ⟨x, hx⟩ : ∃ x, ds[i]? = some x := ⟨ds[i]'(by have := HN.out; omega), List.getElem?_eq_getElem (by have := HN.out; omega)⟩
      obtain ⟨v0, v1⟩ := prc_at ds i x hx
      have q0 := ((hb.cell (p := ⟨g, off + i * 2, none⟩) hgl).trans (HC.out (i * 2) (by omega))).trans v0
      have q1 := ((hb.cell (p := ⟨g, off + (i * 2 + 1), none⟩) hgl).trans (HC.out (i * 2 + 1) (by omega))).trans v1
      rw [← Nat.add_assoc] at q1
      have hgw : g ≠ wr.heap.size := by omega
      have hil : (i : Int) < n := by omega
      have ht := Lib.hid (show ds.take (i + 1) = ds.take i ++ [x] by rw [List.take_add_one, hx]; rfl)
      have n1 : i + 1 ≤ maxLen := by unfold maxLen; omega
      have n2 : (i + 1) * 32 ≤ 140737488355328 := by omega
      obtain ⟨oa, oc, rfl⟩ := hown.slice
      obtain ⟨Y, hY⟩ : ∃ Y, Y = (wr.alloc (.cells #[.string (bs x.n), .string (bs x.v)] 51)).alloc (.cells #[.string (bs x.n), .string (bs x.v)] 56) := ⟨_, rfl⟩
      have hownY : Sl Y w.heap.size 2 (.slice oa i oc) i (prc (ds.take i)) := by rw [hY]; exact (hown.alloc _).alloc _
      have hlit : ∀ j u, [Value.string (bs x.n), .string (bs x.v)][j]? = some u → Y.cell? ((⟨wr.heap.size + 1, 0, none⟩ : Addr).add j) = some u := by
        have := (Sl.lit (wr.alloc (.cells #[.string (bs x.n), .string (bs x.v)] 51)) 0 2 1 #[.string (bs x.n), .string (bs x.v)] 56 (Nat.zero_le _) (by decide) rfl).cells
        rw [World.size_alloc] at this
        rw [hY]; exact this
      have hbY : w.heap.size ≤ Y.heap.size := by rw [hY]; simp; omega
      have hbelY : Below w.heap.size w Y := by rw [hY]; exact (hb.alloc hbz _).alloc (by simp; omega) _
      have HY := Lib.hid hY
      clear v0 v1 hx hY
      go_wp2_with (at_builtin; rw [← HY.out]; refine wpList_append_sl _ rfl _ _ 33 rfl w.heap.size 56 i0 (.agg #[.string ⟨#[]⟩, .string ⟨#[]⟩]) 2 32 Tryd.underlying33 Hi.out Hz.out Hs.out Hb.out rfl (by decide) _ i _ rfl hownY ⟨wr.heap.size + 1, 0, none⟩ 1 1 [.string (bs x.n), .string (bs x.v)] rfl rfl hlit (prc_one [x]) n1 n2 hbY ?_; intro v' w3 hx3)
      refine ⟨⟨i + 1, by simp, by omega, ?_, hbelY.trans (hx3.below (Nat.le_refl _) hbY)⟩, by simp [intOf]; omega⟩
      rw [ht.out, prc_append]
      exact hx3.now
    · have hin : i = n := by omega
      subst hin
      have he : ds.take i = ds := List.take_of_length_le (by have := HN.out; omega)
      rw [he] at hown
      clear he
      obtain ⟨oa, oc, rfl⟩ := hown.slice
      have hil : ¬ (i : Int) < i := by omega
      have HO := Lib.hid hown
      clear hown
      go_wp2
      go_ret
      exact ⟨_, rfl, by rw [← HN.out]; exact HO.out, hb⟩

theorem neq_rp (x y : Pr) (w : World) : (binOp BinOp.neq 56 (.agg #[.string (bs x.n), .string (bs x.v)]) (.agg #[.string (bs y.n), .string (bs y.v)])).run Tryd.prog w = .ok (.bool (!decide (x = y))) w := by
  have u9 := Tryd.underlying9
  have a9 := Tryd.isAgg9
  have z9 := Tryd.sizeOf9
  have hT := bs_toList
  rw [run_neq_struct, show (10000 : Nat) = 9999 + 1 from rfl, run_equalIn_agg w 9999 56 _ _ (by kernel_rfl) (by kernel_rfl)]
  simp only [Program.fieldsOf, Tryd.underlying56]
  go_simp
  cases x; cases y
  rename_i xn xv yn yv
  by_cases h1 : xn = yn <;> by_cases h2 : xv = yv <;> simp [h1, h2]
end Go.Proofs.YtboiboojkomplaaDoor
