/- Layer 12: the document's Both, walked. -/
import Derived.Test.YtjmpmaonebbgaaaDoorT5
namespace Go.Proofs.YtjmpmaonebbgaaaDoor
open Go.RowKit Go.Lib

def allZ (ls : List (List Int)) (n : Int) : Bool := ls.all fun l => decide (n ∈ l)
theorem allZ_succ (ls : List (List Int)) (j : Nat) (l : List Int) (n : Int) (h : ls[j]? = some l) : allZ (ls.take (j + 1)) n = (allZ (ls.take j) n && decide (n ∈ l)) := by
  rw [List.take_add_one, h]; simp [allZ, List.all_append]
def selZ (ls : List (List Int)) (q : List Int) : List Int := q.filter fun n => allZ ls n
theorem selZ_snoc (ls : List (List Int)) (q : List Int) (n : Int) : selZ ls (q ++ [n]) = selZ ls q ++ (if allZ ls n = true then [n] else []) := by
  unfold selZ
  rw [List.filter_append]
  congr 1
  cases hb : allZ ls n <;> simp [hb]

set_option maxHeartbeats 4000000 in
set_option maxRecDepth 100000 in
theorem rboth_any (v : Value) (ls : List (List Int)) (w : World) (h : Ncs w v ls) (hz : ls.flatten.length ≤ 100000) :
    Calls Tryd.prog 10 #[v] w (NewN w (bothZ ls)) := by
  obtain ⟨i0, hi, hz0, hz1, hz2⟩ := info_parts bi_int
  have Hz := Lib.hid hz0; have Hs := Lib.hid hz1; have Hb := Lib.hid hz2; have Hi := Lib.hid hi
  clear hz0 hz1 hz2 hi
  have CA := Lib.hid (fun W (b : Below w.heap.size w W) => rany_any v ls W (h.on b) hz)
  have HAL := Lib.hid (show (anyZ ls).length ≤ 100000 by
    have := foldP_len ls.flatten []
    simp only [List.length_nil] at this
    show (List.foldl putZ [] _).length ≤ _
    omega)
  obtain ⟨hl, a, cap, g, off, rfl, hlc, hg, hc⟩ := h
  obtain ⟨N, hN⟩ : ∃ N, N = ls.length := ⟨_, rfl⟩
  have HN := Lib.hid hN
  have HG := Lib.hid hg
  have HC := Lib.hid hc
  rw [← hN] at hl hlc CA ⊢
  have CA1 := Lib.hid (CA.out (w.alloc (Obj.cells #[] 3)) ((Below.refl _ w).alloc (Nat.le_refl _) _))
  clear hg hc hN hz CA
  go_enter Tryd.func10, Tryd.ntmps10
  go_wp2_with fail
  refine CA1.out.mono ?_
  rintro e w1 ⟨v1, rfl, s1, b1⟩
  obtain ⟨oa, oc, rfl⟩ := s1.slice
  obtain ⟨K, hK⟩ : ∃ K, K = (anyZ ls).length := ⟨_, rfl⟩
  obtain ⟨q, hq⟩ : ∃ q, q = anyZ ls := ⟨_, rfl⟩
  have HQ := Lib.hid (show bothZ ls = selZ ls q by rw [hq]; rfl)
  rw [← hq] at hK s1 HAL
  rw [← hK] at s1 HAL
  rw [← hq, ← hK]
  have HK := Lib.hid hK
  have hK5 : K ≤ 100000 := HAL.out
  have hwz : (w.alloc (Obj.cells #[] 3)).heap.size = w.heap.size + 1 := by simp
  obtain ⟨gq, oq, hoa, hgq, hcq⟩ : ∃ gq oq, (0 < K → oa = some ⟨gq, oq, none⟩ ∧ gq < w1.heap.size) ∧ w.heap.size < gq ∧ ∀ j n, q[j]? = some n → w1.cell? ⟨gq, oq + j, none⟩ = some (.int .i64 n) := by
    rcases s1.2 with ⟨h, h0⟩ | ⟨g2, o2, c2, h, h1, h2, _, _, _, h4⟩
    · exact ⟨w.heap.size + 1, 0, fun h => by omega, by omega, fun j n hn => by
        have : j < q.length := (List.getElem?_eq_some_iff.1 hn).1
        omega⟩
    · refine ⟨g2, o2, fun _ => ⟨by injection h, h2⟩, by omega, fun j n hn => ?_⟩
      have : j < q.length := (List.getElem?_eq_some_iff.1 hn).1
      rw [h4 j (by omega)]
      exact ic_at q j n hn
  have hw1 : w.heap.size ≤ w1.heap.size := by have := b1.size; omega
  have HOA := Lib.hid hoa
  have HCQ := Lib.hid hcq
  have HGQ := Lib.hid hgq
  have HW1 := Lib.hid hw1
  have S0 := Lib.hid (show Sl w1 w.heap.size 1 (.slice (some ⟨w.heap.size, 0, none⟩) 0 0) 0 (ic []) from (Sl.lit w w.heap.size 1 0 #[] _ (Nat.le_refl _) (by decide) rfl).on b1)
  have B1 := Lib.hid (((Below.refl w.heap.size w).alloc (Nat.le_refl _) _).trans (b1.mono (by omega)))
  clear hK hq s1 HAL b1 hoa hcq hgq hw1 hwz
  go_wp2_with fail
  go_loopw [3, 13] (fun p' i' wr => ∃ (i m : Nat), i' = .int .i64 i ∧ i ≤ K ∧ m ≤ i ∧ Hid ((selZ ls (q.take i)).length = m) ∧ Sl wr w.heap.size 1 p' m (ic (selZ ls (q.take i))) ∧ Below w.heap.size w wr ∧ Hid (w1.heap.size ≤ wr.heap.size) ∧ Hid (∀ k, p'.ownBlock = some k → k ≠ gq) ∧ Hid (∀ j n, q[j]? = some n → wr.cell? ⟨gq, oq + j, none⟩ = some (.int .i64 n))) (fun _ i' _ => K - (RowKit.intOf i').toNat)
  case atStart => exact ⟨0, 0, rfl, by omega, by omega, rfl, S0.out, B1.out, Nat.le_refl _, (fun k e => by have e2 : w.heap.size = k := Option.some.inj e; have := HGQ.out; omega), HCQ.out⟩
  case round =>
    obtain ⟨W0, rfl⟩ : ∃ W0, W0 = wr := ⟨_, rfl⟩
    obtain ⟨i, m, rfl, hi, hmi, hml, hs, hb, hw0, hnb, hcw⟩ := hrel
    obtain ⟨pa, pc, rfl⟩ := hs.slice
    have HML := Lib.hid hml.out; have HS := Lib.hid hs; have HB := Lib.hid hb
    have HW0 := Lib.hid hw0.out; have HNB := Lib.hid hnb.out; have HCW := Lib.hid hcw.out
    have hbz := hb.size
    clear hml hs hw0 hnb hcw
    by_cases hlt : i < K
    · obtain ⟨rfl, hgl⟩ := HOA.out (by omega)
      obtain ⟨n, hn⟩ : ∃ n, q[i]? = some n := ⟨q[i]'(by have := HK.out; omega), List.getElem?_eq_getElem (by have := HK.out; omega)⟩
      have c0 := HCW.out i n hn
      have HTK := Lib.hid (show selZ ls (q.take (i + 1)) = selZ ls (q.take i) ++ (if allZ ls n = true then [n] else []) by rw [List.take_add_one, hn]; exact selZ_snoc ls _ n)
      have hil : (i : Int) < K := by omega
      clear hn hb
      go_wp2_with fail
      go_loopw [6, 19] (fun t' j' wr => ∃ (j : Nat), j' = .int .i64 j ∧ j ≤ N ∧ t' = .bool (allZ (ls.take j) n) ∧ W0 = wr) (fun _ j' _ => N - (RowKit.intOf j').toNat)
      case atStart => exact ⟨0, rfl, by omega, rfl, rfl⟩
      case round =>
        obtain ⟨j, rfl, hj, rfl, rfl⟩ := hrel
        by_cases hjt : j < N
        · obtain ⟨rfl, hgg⟩ := HG.out (by have := HN.out; omega)
          obtain ⟨l, hlj⟩ : ∃ l, ls[j]? = some l := ⟨ls[j]'(by have := HN.out; omega), List.getElem?_eq_getElem (by have := HN.out; omega)⟩
          obtain ⟨x, hx, hxn⟩ := HC.out j l hlj
          have c1 := (HB.out.cell (p := ⟨g, off + j, none⟩) hgg).trans hx
          have HT := Lib.hid (allZ_succ ls j l n hlj)
          have CI := Lib.hid (rin_any x l n W0 (hxn.on HB.out).ns)
          have hil2 : (j : Int) < N := by omega
          clear hlj hx hxn
          cases hall : allZ (ls.take j) n with
          | true =>
            have HT2 := Lib.hid (show allZ (ls.take (j + 1)) n = decide (n ∈ l) by rw [HT.out, hall]; rfl)
            clear hall
            as_aux_lemma =>
            go_wp2_with fail
            refine CI.out.mono ?_
            rintro e w2 ⟨rfl, rfl⟩
            go_wp2_with fail
            exact ⟨⟨j + 1, by simp, by omega, by rw [HT2.out], by trivial⟩, by simp [RowKit.intOf]; omega⟩
          | false =>
            have HT2 := Lib.hid (show allZ (ls.take (j + 1)) n = false by rw [HT.out, hall]; rfl)
            clear hall
            as_aux_lemma =>
            go_wp2_with fail
            exact ⟨⟨j + 1, by simp, by omega, by rw [HT2.out], by trivial⟩, by simp [RowKit.intOf]; omega⟩
        · have hil2 : ¬ (j : Int) < N := by omega
          have hjl : ls.take j = ls := List.take_of_length_le (by have := HN.out; omega)
          rw [hjl]
          clear hjl
          cases hall : allZ ls n with
          | true =>
            have HT2 := Lib.hid (show selZ ls (q.take (i + 1)) = selZ ls (q.take i) ++ [n] by rw [HTK.out, hall]; rfl)
            clear hall
            go_wp2_with (at_builtin; go_loud (refine wpList_append_sl2 _ rfl _ _ 23 rfl w.heap.size 3 i0 (.int .i64 0) 1 8 Tryd.underlying23 Hi.out Hz.out Hs.out Hb.out rfl (by decide) _ m _ rfl (HS.out.alloc _) _ _ 1 _ rfl (Sl.lit W0 w.heap.size 1 1 #[_] _ hbz (by decide) rfl) (ic_one [n]) (by unfold maxLen; omega) (by omega) (by simp; omega) ?_; intro v5 w5 x5; have bb5 := Lib.hid ((HB.out.alloc hbz _).trans (x5.below (Nat.le_refl _) (by simp; omega))); have X5 := Lib.hid x5; clear x5))
            have hx5 := X5.out
            have hsz5 := hx5.grown.size
            have hal : (W0.alloc (Obj.cells #[.int .i64 n] 3)).heap.size = W0.heap.size + 1 := by simp
            have hgw : gq < W0.heap.size := Nat.lt_of_lt_of_le hgl HW0.out
            exact ⟨⟨i + 1, m + 1, by simp, by omega, by omega, by rw [HT2.out, List.length_append, HML.out]; rfl, by rw [HT2.out, ic_append]; exact hx5.now, bb5.out, Nat.le_trans HW0.out (by omega), (fun k e => by
                rcases hx5.alias with ⟨a0, c0, e1, e2, _⟩ | hf
                · refine HNB.out k ?_
                  have e1' : Value.slice pa m pc = .slice a0 m c0 := e1
                  rw [e1', ownBlock_slice a0 m (m + 1) c0 c0, ← e2]; exact e
                · have := hf k e; omega),
              (fun j z hz => hx5.grown.cell ((((Below.refl W0.heap.size W0).alloc (Nat.le_refl _) _).cell (p := ⟨gq, oq + j, none⟩) hgw).trans (HCW.out j z hz)) (fun e => HNB.out gq e.symm rfl))⟩, by simp [RowKit.intOf]; omega⟩
          | false =>
            have HT2 := Lib.hid (show selZ ls (q.take (i + 1)) = selZ ls (q.take i) by rw [HTK.out, hall]; simp)
            clear hall
            go_wp2_with fail
            exact ⟨⟨i + 1, m, by simp, by omega, by omega, by rw [HT2.out]; exact HML.out, by rw [HT2.out]; exact HS.out, HB.out, HW0.out, HNB.out, HCW.out⟩, by simp [RowKit.intOf]; omega⟩
    · have hil : ¬ (i : Int) < K := by omega
      have hall : q.take i = q := List.take_of_length_le (by have := HK.out; omega)
      have HF := Lib.hid (show Sl W0 w.heap.size 1 (.slice pa m pc) (bothZ ls).length (ic (bothZ ls)) by
        have h1 := HML.out; have h2 := HS.out
        rw [hall] at h1 h2
        rw [HQ.out, h1]; exact h2)
      clear hall
      go_wp2
      go_ret
      exact ⟨_, rfl, HF.out, hb⟩
end Go.Proofs.YtjmpmaonebbgaaaDoor
