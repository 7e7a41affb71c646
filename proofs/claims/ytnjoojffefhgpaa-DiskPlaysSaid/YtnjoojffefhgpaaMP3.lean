/- The document's begins. The document's List: those that begin so. -/
import Derived.Test.YtnjoojffefhgpaaMP2
import Derived.Test.YtnjoojffefhgpaaMD9
namespace Go.Proofs.Ytnjoojffefhgpaa
open Go.Conc Go.RowKit
set_option linter.unusedVariables false
theorem rbegins_any (s p : ByteArray) (w : World) :
    Calls Try.prog 72 #[.string s, .string p] w fun e w' => e = .returned (.bool (pre p.data.toList s.data.toList)) ∧ w = w' := by
  have he := Lib.hid (ext_is s p)
  by_cases h : p.size ≤ s.size
  · go_enter Try.func72, Try.ntmps72
    go_wp2
    go_ret
    exact ⟨by rw [← he.out]; rfl, rfl⟩
  · have hd : decide ((p.size : Int) ≤ (s.size : Int)) = false := by simp; omega
    have hf : pre p.data.toList s.data.toList = false := by
      unfold pre
      rw [decide_eq_false_iff_not]
      intro hp
      have := hp.length_le
      rw [Array.length_toList, Array.length_toList] at this
      exact h this
    have hf' := Lib.hid hf
    clear hf he
    go_enter Try.func72, Try.ntmps72
    go_wp2
    go_ret
    exact ⟨by rw [hf'.out]; rfl, rfl⟩
end Go.Proofs.Ytnjoojffefhgpaa

namespace Go.Proofs.Ytnjoojffefhgpaa
open Go.Conc Go.RowKit
set_option linter.unusedVariables false
/-- Those that begin so. -/
def preR (k : ByteArray) (xs : List Rj) : List Rj := xs.filter fun x => pre k.data.toList x.name.data.toList
theorem preR_step (k : ByteArray) (xs : List Rj) (j : Nat) (x : Rj) (h : xs[j]? = some x) : preR k (xs.take (j + 1)) = preR k (xs.take j) ++ if pre k.data.toList x.name.data.toList = true then [x] else [] := by
  rw [List.take_add_one, h, preR, List.filter_append]
  by_cases hk : pre k.data.toList x.name.data.toList = true <;> simp [preR, hk]
theorem preR_le (k : ByteArray) (xs : List Rj) : (preR k xs).length ≤ xs.length := List.length_filter_le _ _
set_option maxHeartbeats 1000000 in
set_option maxRecDepth 100000 in
theorem rlist_any (base : Nat) (v u : Value) (xs : List Rj) (k : ByteArray) (w : World) (hs : Sl w base 3 v xs.length (rjc xs)) (hlen : xs.length ≤ 1000) (hu : ∃ a n c, u = .slice a n c) :
    Calls Try.prog 43 #[rbv v u, .string k] w fun e w' => ∃ v', e = .returned v' ∧ Sl w' w.heap.size 3 v' (preR k xs).length (rjc (preR k xs)) ∧ Below w.heap.size w w' := by
  obtain ⟨ua, un, uc, rfl⟩ := hu
  obtain ⟨a, cap, gl, ol, rfl, hlp, hcl⟩ := sl_open3 hs
  obtain ⟨n, hn⟩ : ∃ n, n = xs.length := ⟨_, rfl⟩
  rw [← hn] at hlp hcl hlen ⊢
  have HN := Lib.hid hn
  unfold rbv
  obtain ⟨i0, hi, hz0, hz1, hz2⟩ := info_parts zc_object
  have Hz := Lib.hid hz0; have Hs := Lib.hid hz1; have Hb := Lib.hid hz2; have Hi := Lib.hid hi
  clear hz0 hz1 hz2 hi hn hs
  go_enter Try.func43, Try.ntmps43
  go_wp2_with fail
  obtain ⟨V2, hV2⟩ : ∃ V, V = w.alloc (.cells #[.slice a n cap, .slice ua un uc] 52) := ⟨_, rfl⟩
  have z2 : V2.heap.size = w.heap.size + 1 := by rw [hV2]; simp
  rw [← hV2]
  rw [show w.heap.size + 1 = V2.heap.size by omega]
  have bV : Below w.heap.size w V2 := by rw [hV2]; exact (Below.refl _ _).alloc (Nat.le_refl _) _
  have HZ2 := Lib.hid z2
  have HB := Lib.hid (fun (s p : ByteArray) W => rbegins_any s p W)
  clear z2 hV2
  go_loopw [5, 12] (fun vo vj wr => ∃ j : Nat, vj = .int .i64 j ∧ j ≤ n ∧ Sl wr V2.heap.size 3 vo (preR k (xs.take j)).length (rjc (preR k (xs.take j))) ∧ Below V2.heap.size V2 wr) (fun _ vj _ => n - (RowKit.intOf vj).toNat)
  case atStart => exact ⟨0, rfl, by omega, Sl.lit V2 _ 3 0 #[] _ (Nat.le_refl _) (by decide) rfl, (Below.refl _ _).alloc (Nat.le_refl _) _⟩
  case round =>
    obtain ⟨j, rfl, hj, hso, b7⟩ := hrel
    by_cases hjn : j < n
    · obtain ⟨rfl, hlg, hgl⟩ := hlp (by omega)
      obtain ⟨x, hx⟩ : ∃ x, xs[j]? = some x := ⟨xs[j]'(by have := HN.out; omega), List.getElem?_eq_getElem (by have := HN.out; omega)⟩
      obtain ⟨v0, v1, v2⟩ := rjc_at xs j x hx
      have bw : Below w.heap.size w wr := bV.trans (b7.mono (by have := HZ2.out; omega))
      have q0 := ((bw.cell (p := ⟨gl, ol + j * 3, none⟩) hgl).trans (hcl (j * 3) (by omega))).trans v0
      have q1 := ((bw.cell (p := ⟨gl, ol + (j * 3 + 1), none⟩) hgl).trans (hcl (j * 3 + 1) (by omega))).trans v1
      have q2 := ((bw.cell (p := ⟨gl, ol + (j * 3 + 2), none⟩) hgl).trans (hcl (j * 3 + 2) (by omega))).trans v2
      rw [← Nat.add_assoc] at q1 q2
      have hjn' : (j : Int) < n := by omega
      have hst := preR_step k xs j x hx
      clear hcl hlp v0 v1 v2
      obtain ⟨pb, hpb⟩ : ∃ pb, pb = pre k.data.toList x.name.data.toList := ⟨_, rfl⟩
      rw [← hpb] at hst
      have HP := Lib.hid hpb
      clear hpb
      cases pb
      · rw [if_neg (by simp), List.append_nil] at hst
        go_wp2_with fail
        refine (HB.out _ _ _).mono ?_
        rintro e W3 ⟨rfl, rfl⟩
        rw [← HP.out]
        go_wp2_with fail
        exact ⟨⟨j + 1, by go_num, by omega, by rw [hst]; exact hso.alloc _, b7.alloc b7.size _⟩, by simp [RowKit.intOf]; omega⟩
      · rw [if_pos rfl] at hst
        have hle := preR_le k (xs.take j)
        have hlj : (xs.take j).length ≤ 1000 := by rw [List.length_take]; have := HN.out; omega
        have hsz := b7.size
        have n1 : (preR k (xs.take j)).length + 1 ≤ maxLen := by unfold maxLen; omega
        have n2 : ((preR k (xs.take j)).length + 1) * 40 ≤ 140737488355328 := by omega
        have hone : ∀ y ∈ [Value.string x.name, .string x.data, .int .i64 x.tm], y.oneCell' = true := rjc_one x
        obtain ⟨va, vc, rfl⟩ := hso.slice
        obtain ⟨Y, hY⟩ : ∃ Y, Y = ((wr.alloc (.cells #[.string x.name, .string x.data, .int .i64 x.tm] 64)).alloc (.cells #[.string x.name, .string x.data, .int .i64 x.tm] 64)) := ⟨_, rfl⟩
        have hownY : Sl Y V2.heap.size 3 (.slice va (preR k (xs.take j)).length vc) (preR k (xs.take j)).length (rjc (preR k (xs.take j))) := by rw [hY]; exact (hso.alloc _).alloc _
        have hlit : Sl Y V2.heap.size 3 (.slice (some ⟨wr.heap.size + 1, 0, none⟩) 1 1) 1 [.string x.name, .string x.data, .int .i64 x.tm] := by
          have := Sl.lit (wr.alloc (.cells #[.string x.name, .string x.data, .int .i64 x.tm] 64)) V2.heap.size 3 1 #[.string x.name, .string x.data, .int .i64 x.tm] 64 (by simp; omega) (by decide) rfl
          rw [show (wr.alloc (.cells #[.string x.name, .string x.data, .int .i64 x.tm] 64)).heap.size = wr.heap.size + 1 by simp] at this
          rw [hY]
          exact this
        have n3 : V2.heap.size ≤ Y.heap.size := by rw [hY]; show _ ≤ ((wr.alloc _).alloc _).heap.size; simp; omega
        have bY : Below V2.heap.size V2 Y := by rw [hY]; exact ((b7.alloc hsz _).alloc (by simp; omega) _)
        have HY := Lib.hid hY
        rw [hY] at hownY hlit n3
        clear hY
        go_wp2_with fail
        refine (HB.out _ _ _).mono ?_
        rintro e W3 ⟨rfl, rfl⟩
        rw [← HP.out]
        go_wp2_with (at_builtin; refine wpList_append_sl2 _ rfl _ _ 50 rfl V2.heap.size 64 i0 (.agg #[.string ByteArray.empty, .string ByteArray.empty, .int .i64 0]) 3 40 Try.underlying50 Hi.out Hz.out Hs.out Hb.out rfl (by decide) _ (preR k (xs.take j)).length _ rfl hownY V2.heap.size _ 1 [.string x.name, .string x.data, .int .i64 x.tm] rfl hlit hone n1 n2 n3 ?_; intro v' w5 hx5; rw [← HY.out] at hx5)
        have n4 : V2.heap.size ≤ Y.heap.size := bY.size
        refine ⟨⟨j + 1, by go_num, by omega, ?_, bY.trans (hx5.below (Nat.le_refl _) n4)⟩, by simp [RowKit.intOf]; omega⟩
        rw [hst, List.length_append, rjc_append]
        exact hx5.now
    · have hjn' : ¬ (j : Int) < n := by omega
      clear hcl hlp
      obtain rfl : j = n := by omega
      rw [List.take_of_length_le (by have := HN.out; omega)] at hso
      have z2 := HZ2.out
      have hb6 : Below w.heap.size w wr := bV.trans (b7.mono (by omega))
      have hs6 := hso.mono (base' := w.heap.size) (by omega)
      clear z2
      go_wp2_with fail
      go_ret
      exact ⟨_, rfl, hs6, hb6⟩
end Go.Proofs.Ytnjoojffefhgpaa
