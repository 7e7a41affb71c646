/- Layer 12: the document's Any, walked. -/
import Derived.Test.YtjmpmaonebbgaaaDoorT4
namespace Go.Proofs.YtjmpmaonebbgaaaDoor
open Go.RowKit Go.Lib

theorem Nc.ns {w : World} {v : Value} {l : List Int} (h : Nc w v l) : Ns w v l := by
  obtain ⟨hl, a, cap, g, off, hv, hc, h1, h2⟩ := h
  refine ⟨⟨by rw [ic_length, Nat.mul_one], a, cap, g, off, hv, h1, fun j hj => ?_⟩, hl⟩
  have hj : j < l.length := by omega
  rw [h2 j l[j] (List.getElem?_eq_getElem hj), ic_at l j l[j] (List.getElem?_eq_getElem hj)]

theorem foldP_snoc (q : List Int) (n : Int) : (q ++ [n]).foldl putZ [] = putZ (q.foldl putZ []) n := by simp [List.foldl_append]
theorem take_flat_len (ls : List (List Int)) (i : Nat) : (ls.take i).flatten.length ≤ ls.flatten.length := by
  have h : ls.flatten = (ls.take i).flatten ++ (ls.drop i).flatten := by rw [← List.flatten_append, List.take_append_drop]
  rw [h, List.length_append]; omega
theorem take_flat_succ (ls : List (List Int)) (i : Nat) (l : List Int) (h : ls[i]? = some l) : (ls.take (i + 1)).flatten = (ls.take i).flatten ++ l := by
  rw [List.take_add_one, h]; simp

/-- So many numbers put, one behind the other. -/
def foldZ (q : List Int) : List Int := q.foldl putZ []
set_option maxHeartbeats 4000000 in
set_option maxRecDepth 100000 in
theorem rany_any (v : Value) (ls : List (List Int)) (w : World) (h : Ncs w v ls) (hz : ls.flatten.length ≤ 100000) :
    Calls Tryd.prog 12 #[v] w (NewN w (anyZ ls)) := by
  obtain ⟨hl, a, cap, g, off, rfl, hlc, hg, hc⟩ := h
  obtain ⟨N, hN⟩ : ∃ N, N = ls.length := ⟨_, rfl⟩
  have HN := Lib.hid hN
  have HG := Lib.hid hg
  have HC := Lib.hid hc
  rw [← hN] at hl hlc ⊢
  clear hg hc hN
  go_enter Tryd.func12, Tryd.ntmps12
  go_wp2_with fail
  go_loopw [3, 11] (fun p' i' wr => ∃ (i m : Nat), i' = .int .i64 i ∧ i ≤ N ∧ Hid ((foldZ (ls.take i).flatten).length = m) ∧ Sl wr w.heap.size 1 p' m (ic (foldZ (ls.take i).flatten)) ∧ Below w.heap.size w wr) (fun _ i' _ => N - (RowKit.intOf i').toNat)
  case atStart => exact ⟨0, 0, rfl, by omega, rfl, Sl.lit w w.heap.size 1 0 #[] _ (Nat.le_refl _) (by decide) rfl, (Below.refl _ w).alloc (Nat.le_refl _) _⟩
  case round =>
    obtain ⟨W0, rfl⟩ : ∃ W0, W0 = wr := ⟨_, rfl⟩
    obtain ⟨i, m, rfl, hi, hml, hs, hb⟩ := hrel
    obtain ⟨pa, pc, rfl⟩ := hs.slice
    have HML := Lib.hid hml.out; have HS := Lib.hid hs; have HB := Lib.hid hb
    have hbz := hb.size
    clear hml hs
    by_cases hlt : i < N
    · obtain ⟨rfl, hgl⟩ := HG.out (by have := HN.out; omega)
      obtain ⟨l, hli⟩ : ∃ l, ls[i]? = some l := ⟨ls[i]'(by have := HN.out; omega), List.getElem?_eq_getElem (by have := HN.out; omega)⟩
      obtain ⟨x, hx, hxn⟩ := HC.out i l hli
      have c1 := (hb.cell (p := ⟨g, off + i, none⟩) hgl).trans hx
      have HFS := Lib.hid (take_flat_succ ls i l hli)
      have HFL := Lib.hid (show ((ls.take i).flatten ++ l).length ≤ 100000 by rw [← HFS.out]; exact Nat.le_trans (take_flat_len ls (i + 1)) hz)
      obtain ⟨hl5, xa, xc, gx, ox, rfl, hxc, hxg, hxl⟩ := hxn
      obtain ⟨M, hM⟩ : ∃ M, M = l.length := ⟨_, rfl⟩
      rw [← hM] at hl5 hxc hxg c1 hx
      have HM := Lib.hid hM
      have HXG := Lib.hid hxg
      have HXL := Lib.hid hxl
      have hil : (i : Int) < N := by omega
      clear hx hxg hxl hM hli hb hxc
      go_wp2_with fail
      go_loopw [3, 17] (fun p' i' wr => ∃ (j m : Nat), i' = .int .i64 j ∧ j ≤ M ∧ Hid ((foldZ ((ls.take i).flatten ++ l.take j)).length = m) ∧ Sl wr w.heap.size 1 p' m (ic (foldZ ((ls.take i).flatten ++ l.take j))) ∧ Below w.heap.size w wr) (fun _ i' _ => M - (RowKit.intOf i').toNat)
      case atStart => exact ⟨0, m, rfl, by omega, by show _ = _; rw [List.take_zero, List.append_nil]; exact HML.out, by rw [List.take_zero, List.append_nil]; exact HS.out, HB.out⟩
      case round =>
        obtain ⟨W1, rfl⟩ : ∃ W1, W1 = wr := ⟨_, rfl⟩
        obtain ⟨j, m1, rfl, hj, hml, hs, hb⟩ := hrel
        obtain ⟨qa, qc, rfl⟩ := hs.slice
        have HML1 := Lib.hid hml.out; have HS1 := Lib.hid hs; have HB1 := Lib.hid hb
        have hbz1 := hb.size
        clear hml hs
        by_cases hjt : j < M
        · obtain ⟨rfl, hgx⟩ := HXG.out (by omega)
          obtain ⟨n, hn⟩ : ∃ n, l[j]? = some n := ⟨l[j]'(by have := HM.out; omega), List.getElem?_eq_getElem (by have := HM.out; omega)⟩
          have c2 := (hb.cell (p := ⟨gx, ox + j, none⟩) hgx).trans (HXL.out j n hn)
          have HT := Lib.hid (show foldZ ((ls.take i).flatten ++ l.take (j + 1)) = putZ (foldZ ((ls.take i).flatten ++ l.take j)) n by
            rw [List.take_add_one, hn, ← List.append_assoc]; exact foldP_snoc _ n)
          have hns : Ns W1 (.slice qa m1 qc) (foldZ ((ls.take i).flatten ++ l.take j)) := by
            have h1 := HML1.out
            refine Ns.of_sl (base := w.heap.size) (by rw [h1]; exact HS1.out) ?_
            have h2 := foldP_len ((ls.take i).flatten ++ l.take j) []
            have h3 := HFL.out
            have h4 : (l.take j).length ≤ l.length := by rw [List.length_take]; omega
            rw [List.length_append] at h2 h3
            simp only [List.length_nil] at h2
            show (List.foldl putZ [] _).length ≤ _
            omega
          have CP := Lib.hid (rput_any _ _ n W1 hns)
          have hil2 : (j : Int) < M := by omega
          clear hns hn hb
          as_aux_lemma =>
          go_wp2_with fail
          refine CP.out.mono ?_
          rintro e w2 ⟨v2, rfl, s2, b2⟩
          obtain ⟨ra, rc, rfl⟩ := s2.slice
          have S2 := Lib.hid (s2.mono hbz1); have B2 := Lib.hid (HB1.out.trans (b2.mono hbz1))
          clear s2 b2
          go_wp2_with fail
          exact ⟨⟨j + 1, _, by simp, by omega, by rw [HT.out]; rfl, by rw [HT.out]; exact S2.out, B2.out⟩, by simp [RowKit.intOf]; omega⟩
        · have hil2 : ¬ (j : Int) < M := by omega
          have HF := Lib.hid (show (ls.take i).flatten ++ l.take j = (ls.take (i + 1)).flatten by rw [HFS.out, (List.take_of_length_le (by have := HM.out; omega) : l.take j = l)])
          clear hb
          go_wp2_with fail
          exact ⟨⟨i + 1, m1, by simp, by omega, by rw [← HF.out]; exact HML1.out, by rw [← HF.out]; exact HS1.out, HB1.out⟩, by simp [RowKit.intOf]; omega⟩
    · have hil : ¬ (i : Int) < N := by omega
      have hall : ls.take i = ls := List.take_of_length_le (by have := HN.out; omega)
      have HF := Lib.hid (show Sl W0 w.heap.size 1 (.slice pa m pc) (anyZ ls).length (ic (anyZ ls)) by
        have h1 := HML.out; have h2 := HS.out
        rw [hall] at h1 h2
        show Sl W0 w.heap.size 1 (.slice pa m pc) (foldZ ls.flatten).length (ic (foldZ ls.flatten))
        rw [h1]; exact h2)
      clear hall
      go_wp2
      go_ret
      exact ⟨_, rfl, HF.out, hb⟩
end Go.Proofs.YtjmpmaonebbgaaaDoor
