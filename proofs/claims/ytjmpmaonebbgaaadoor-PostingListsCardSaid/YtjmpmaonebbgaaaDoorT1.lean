/- Layer 12: the document's lists of numbers, walked: In, Put, Less. -/
import Derived.Test.YtjmpmaonebbgaaaDoorT0
import Derived.Test.YtjmpmaonebbgaaaDoorSl3
import Derived.Test.YtjmpmaonebbgaaaDoorRd
namespace Go.Proofs.YtjmpmaonebbgaaaDoor
open Go.RowKit Go.Lib

/-- The cells of numbers. -/
def ic (l : List Int) : List Value := l.map fun n => Value.int .i64 n
theorem ic_length (l : List Int) : (ic l).length = l.length := by simp [ic]
theorem ic_append (l m : List Int) : ic (l ++ m) = ic l ++ ic m := by simp [ic]
theorem ic_one (l : List Int) : ∀ v ∈ ic l, v.oneCell' = true := by
  intro v hv
  simp only [ic, List.mem_map] at hv
  obtain ⟨n, _, rfl⟩ := hv
  rfl
theorem ic_at (l : List Int) (i : Nat) (n : Int) (h : l[i]? = some n) : (ic l)[i]? = some (.int .i64 n) := by simp [ic, h]
theorem bi_int : (Tryd.prog.info? 3).map (fun i => (i.zero, i.size, i.bytes)) = some (some (.int .i64 0), 1, 8) := by kernel_rfl
/-- A list of numbers that is only read. -/
def Ns (w : World) (v : Value) (l : List Int) : Prop := Rd w 1 v l.length (ic l) ∧ l.length ≤ 100000
theorem Ns.on {w w' : World} {v : Value} {l : List Int} (h : Ns w v l) (b : Below w.heap.size w w') : Ns w' v l := ⟨h.1.on b, h.2⟩
theorem Ns.of_sl {w : World} {base : Nat} {v : Value} {l : List Int} (h : Sl w base 1 v l.length (ic l)) (hl : l.length ≤ 100000) : Ns w v l := ⟨Rd.of_sl h, hl⟩
/-- The answer is a list of these numbers, in new memory. -/
def NewN (w : World) (l : List Int) (e : Ending) (w' : World) : Prop := ∃ v, e = .returned v ∧ Sl w' w.heap.size 1 v l.length (ic l) ∧ Below w.heap.size w w'

set_option maxHeartbeats 1000000 in
set_option maxRecDepth 100000 in
theorem rin_any (v : Value) (l : List Int) (n : Int) (w : World) (h : Ns w v l) :
    Calls Tryd.prog 24 #[v, .int .i64 n] w fun e w' => e = .returned (.bool (decide (n ∈ l))) ∧ w = w' := by
  obtain ⟨⟨_, a, cap, g, off, rfl, hg, hc⟩, hl⟩ := h
  obtain ⟨N, hN⟩ : ∃ N, N = l.length := ⟨_, rfl⟩
  rw [← hN] at hg hc hl ⊢
  have HN := Lib.hid hN
  have HC := Lib.hid hc
  have HG := Lib.hid hg
  clear hN hc hg
  go_enter Tryd.func24, Tryd.ntmps24
  go_wp2_with fail
  go_loopw [9] (fun i' wr => ∃ (i : Nat), i' = .int .i64 i ∧ i ≤ N ∧ Hid (n ∉ l.take i) ∧ w = wr) (fun i' _ => N - (RowKit.intOf i').toNat)
  case atStart => exact ⟨0, rfl, by omega, by simp [Hid], rfl⟩
  case round =>
    obtain ⟨i, rfl, hi, hni, rfl⟩ := hrel
    have HNI := Lib.hid hni.out
    clear hni
    by_cases hlt : i < N
    · obtain ⟨rfl, hgl⟩ := HG.out (by omega)
      obtain ⟨x, hx⟩ : ∃ x, l[i]? = some x := ⟨l[i]'(by have := HN.out; omega), List.getElem?_eq_getElem (by have := HN.out; omega)⟩
      have c0 := (HC.out i (by omega)).trans (ic_at l i x hx)
      have HTK := Lib.hid (show l.take (i + 1) = l.take i ++ [x] by rw [List.take_add_one, hx]; rfl)
      have HM := Lib.hid (List.mem_of_getElem? hx)
      have hil : (i : Int) < N := by omega
      clear hx
      by_cases he : x = n
      · have e1 : (x == n) = true := by simpa using he
        have HQ := Lib.hid (show decide (n ∈ l) = true by rw [← he]; exact decide_eq_true HM.out)
        clear he
        go_wp2
        go_ret
        exact ⟨by rw [HQ.out]; rfl, rfl⟩
      · have e1 : (x == n) = false := by simpa using he
        have HQ := Lib.hid (show n ∉ l.take (i + 1) by
          rw [HTK.out]
          intro hm
          rcases List.mem_append.1 hm with hm | hm
          · exact HNI.out hm
          · exact he (List.mem_singleton.1 hm).symm)
        clear he
        go_wp2
        exact ⟨⟨i + 1, by simp, by omega, HQ, by trivial⟩, by simp [RowKit.intOf]; omega⟩
    · have hil : ¬ (i : Int) < N := by omega
      have HQ := Lib.hid (show decide (n ∈ l) = false by
        have := HNI.out
        rw [List.take_of_length_le (by have := HN.out; omega)] at this
        exact decide_eq_false this)
      go_wp2
      go_ret
      exact ⟨by rw [HQ.out]; rfl, rfl⟩

theorem lessZ_snoc (l o : List Int) (x : Int) : pickZ (l ++ [x]) o false = pickZ l o false ++ (if x ∈ o then [] else [x]) := by
  unfold pickZ
  rw [List.filter_append]
  congr 1
  by_cases h : x ∈ o <;> simp [h]

set_option maxHeartbeats 2000000 in
set_option maxRecDepth 100000 in
theorem rless_any (v u : Value) (l o : List Int) (w : World) (h : Ns w v l) (k : Ns w u o) :
    Calls Tryd.prog 14 #[v, u] w (NewN w (pickZ l o false)) := by
  obtain ⟨i0, hi, hz0, hz1, hz2⟩ := info_parts bi_int
  have Hz := Lib.hid hz0; have Hs := Lib.hid hz1; have Hb := Lib.hid hz2; have Hi := Lib.hid hi
  clear hz0 hz1 hz2 hi
  have RI := Lib.hid (fun x W (b : Below w.heap.size w W) => rin_any u o x W (k.on b))
  obtain ⟨⟨_, a, cap, g, off, rfl, hg, hc⟩, hl⟩ := h
  obtain ⟨N, hN⟩ : ∃ N, N = l.length := ⟨_, rfl⟩
  rw [← hN] at hg hc hl ⊢
  have HN := Lib.hid hN
  have HC := Lib.hid hc
  have HG := Lib.hid hg
  clear hN hc hg k
  go_enter Tryd.func14, Tryd.ntmps14
  go_wp2_with fail
  go_loopw [5, 11] (fun o' i' wr => ∃ (i m og oo oc : Nat), i' = .int .i64 i ∧ i ≤ N ∧ m ≤ i ∧ o' = .slice (some ⟨og, oo, none⟩) m oc ∧ Hid ((pickZ (l.take i) o false).length = m) ∧ Sl wr w.heap.size 1 (.slice (some ⟨og, oo, none⟩) m oc) m (ic (pickZ (l.take i) o false)) ∧ Below w.heap.size w wr) (fun _ i' _ => N - (RowKit.intOf i').toNat)
  case atStart => exact ⟨0, 0, _, _, _, rfl, by omega, by omega, rfl, rfl, Sl.lit w w.heap.size 1 0 #[] _ (Nat.le_refl _) (by decide) rfl, (Below.refl _ _).alloc (Nat.le_refl _) _⟩
  case round =>
    obtain ⟨W0, rfl⟩ : ∃ W0, W0 = wr := ⟨_, rfl⟩
    obtain ⟨i, m, og, oo, oc, rfl, hi, hmi, rfl, hml, hs, hb⟩ := hrel
    have HML := Lib.hid hml.out; have HS := Lib.hid hs; have HB := Lib.hid hb
    have hbz := hb.size
    by_cases hlt : i < N
    · obtain ⟨rfl, hgl⟩ := HG.out (by omega)
      obtain ⟨x, hx⟩ : ∃ x, l[i]? = some x := ⟨l[i]'(by have := HN.out; omega), List.getElem?_eq_getElem (by have := HN.out; omega)⟩
      have c0 := (hb.cell (p := ⟨g, off + i, none⟩) hgl).trans ((HC.out i (by omega)).trans (ic_at l i x hx))
      have HTK := Lib.hid (show pickZ (l.take (i + 1)) o false = pickZ (l.take i) o false ++ (if x ∈ o then [] else [x]) by rw [List.take_add_one, hx]; exact lessZ_snoc _ o x)
      have hil : (i : Int) < N := by omega
      clear hx hml hs hb
      by_cases he : x ∈ o
      · have RX := Lib.hid (show Calls Tryd.prog 24 #[u, .int .i64 x] W0 (fun e w' => e = .returned (.bool true) ∧ W0 = w') by have := RI.out x W0 HB.out; rw [decide_eq_true he] at this; exact this)
        have HQ := Lib.hid (show pickZ (l.take (i + 1)) o false = pickZ (l.take i) o false by rw [HTK.out, if_pos he, List.append_nil])
        clear he
        go_wp2_with fail
        refine RX.out.mono ?_
        rintro e _ ⟨rfl, rfl⟩
        go_wp2_with fail
        exact ⟨⟨i + 1, m, og, oo, oc, by simp, by omega, by omega, rfl, by rw [HQ.out]; exact HML.out, by rw [HQ.out]; exact HS.out, HB.out⟩, by simp [RowKit.intOf]; omega⟩
      · have RX := Lib.hid (show Calls Tryd.prog 24 #[u, .int .i64 x] W0 (fun e w' => e = .returned (.bool false) ∧ W0 = w') by have := RI.out x W0 HB.out; rw [decide_eq_false he] at this; exact this)
        have HQ := Lib.hid (show pickZ (l.take (i + 1)) o false = pickZ (l.take i) o false ++ [x] by rw [HTK.out, if_neg he])
        clear he
        go_wp2_with fail
        refine RX.out.mono ?_
        rintro e _ ⟨rfl, rfl⟩
        go_wp2_with (at_builtin; go_loud (refine wpList_append_sl2 _ rfl _ _ 23 rfl w.heap.size 3 i0 (.int .i64 0) 1 8 Tryd.underlying23 Hi.out Hz.out Hs.out Hb.out rfl (by decide) _ m _ rfl (HS.out.alloc _) _ _ 1 _ rfl (Sl.lit W0 w.heap.size 1 1 #[_] _ hbz (by decide) rfl) (ic_one [x]) (by unfold maxLen; omega) (by omega) (by simp; omega) ?_; intro v5 w5 x5; obtain ⟨g5, o5, c5, rfl, -⟩ := x5.now.somewhere (by omega); have bb5 := Lib.hid ((HB.out.alloc hbz _).trans (x5.below (Nat.le_refl _) (by simp; omega))); have X5 := Lib.hid x5; clear x5))
        exact ⟨⟨i + 1, m + 1, g5, o5, c5, by simp, by omega, by omega, rfl, by rw [HQ.out, List.length_append, HML.out]; rfl, by rw [HQ.out, ic_append]; exact X5.out.now, bb5.out⟩, by simp [RowKit.intOf]; omega⟩
    · have hil : ¬ (i : Int) < N := by omega
      have hall : l.take i = l := List.take_of_length_le (by have := HN.out; omega)
      have HF := Lib.hid (show Sl W0 w.heap.size 1 (.slice (some ⟨og, oo, none⟩) m oc) (pickZ l o false).length (ic (pickZ l o false)) by
        have h1 := HML.out; have h2 := HS.out
        rw [hall] at h1 h2
        rw [h1]; exact h2)
      clear hall hml hs
      go_wp2
      go_ret
      exact ⟨_, rfl, HF.out, hb⟩
end Go.Proofs.YtjmpmaonebbgaaaDoor
