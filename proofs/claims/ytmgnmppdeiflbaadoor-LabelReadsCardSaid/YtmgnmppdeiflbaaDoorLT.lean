/- Layer 6: the document's Get, Text; is a set these pairs; has each name one pair. -/
import Derived.Test.YtmgnmppdeiflbaaDoorLS
import Derived.Test.YtmgnmppdeiflbaaDoorL9
namespace Go.Proofs.YtmgnmppdeiflbaaDoor
open Go.RowKit Go.Lib

set_option maxHeartbeats 1000000 in
set_option maxRecDepth 100000 in
theorem rget_any (v : Value) (ds : List Pr) (q : List UInt8) (w : World) (h : Rd w 2 v ds.length (prc ds)) (hn0 : ds.length ≤ 1000000) :
    Calls Tryd.prog 16 #[v, .string (bs q)] w fun e w' => e = .returned (.string (bs (getP q ds))) ∧ Below w.heap.size w w' := by
  have hT := bs_toList
  obtain ⟨_, a, cap, g, off, rfl, hg, hc⟩ := h
  obtain ⟨n, hn⟩ : ∃ n, n = ds.length := ⟨_, rfl⟩
  rw [← hn] at hg hc hn0 ⊢
  have HN := Lib.hid hn
  have HC := Lib.hid hc
  have HG := Lib.hid hg
  clear hn hc hg
  go_enter Tryd.func16, Tryd.ntmps16
  go_wp2_with fail
  go_loopw [9] (fun i' wr => ∃ (i : Nat), i' = .int .i64 i ∧ i ≤ n ∧ Hid (getP q ds = getP q (ds.drop i)) ∧ Below w.heap.size w wr) (fun i' _ => n - (intOf i').toNat)
  case atStart => exact ⟨0, rfl, by omega, rfl, Below.refl _ _⟩
  case round =>
    obtain ⟨i, rfl, hi, hk, hb⟩ := hrel
    by_cases hlt : i < n
    · obtain ⟨rfl, hgl⟩ := HG.out (by omega)
      obtain ⟨x, hx⟩ : ∃ x, ds[i]? = some x := ⟨ds[i]'(by have := HN.out; omega), List.getElem?_eq_getElem (by have := HN.out; omega)⟩
      obtain ⟨v0, v1⟩ := prc_at ds i x hx
      have q0 := ((hb.cell (p := ⟨g, off + i * 2, none⟩) hgl).trans (HC.out (i * 2) (by omega))).trans v0
      have q1 := ((hb.cell (p := ⟨g, off + (i * 2 + 1), none⟩) hgl).trans (HC.out (i * 2 + 1) (by omega))).trans v1
      rw [← Nat.add_assoc] at q1
      have hd : ds.drop i = x :: ds.drop (i + 1) := by
        rw [List.drop_eq_getElem_cons (by have := HN.out; omega)]
        congr 1
        rw [List.getElem?_eq_getElem (by have := HN.out; omega)] at hx
        exact Option.some.inj hx
      have hkk := hk.out
      rw [hd, getP] at hkk
      have hgw : g ≠ wr.heap.size := by have := hb.size; omega
      have hil : (i : Int) < n := by omega
      by_cases he : x.n = q
      · rw [if_pos he] at hkk
        have HQ := Lib.hid hkk
        have hbq : (x.n == q) = true := by simpa using he
        clear hkk hk hd v0 v1 hx he
        go_wp2
        go_ret
        exact ⟨by rw [HQ.out]; rfl, hb.alloc hb.size _⟩
      · rw [if_neg he] at hkk
        have HQ := Lib.hid hkk
        have hbq : (x.n == q) = false := by simpa using he
        clear hkk hk hd v0 v1 hx he
        go_wp2
        exact ⟨⟨i + 1, by simp, by omega, HQ.out, hb.alloc hb.size _⟩, by simp [intOf]; omega⟩
    · have hil : ¬ (i : Int) < n := by omega
      have hd : ds.drop i = [] := List.drop_eq_nil_of_le (by have := HN.out; omega)
      have hkk := hk.out
      rw [hd, getP] at hkk
      have HQ := Lib.hid hkk
      clear hkk hk hd
      go_wp2
      go_ret
      exact ⟨by rw [HQ.out]; rfl, hb⟩

set_option maxHeartbeats 2000000 in
set_option maxRecDepth 100000 in
theorem rtext06_any (v : Value) (ds : List Pr) (w : World) (h : Rd w 2 v ds.length (prc ds)) (hm : (txt ds).length ≤ 1000000) (hn0 : ds.length ≤ 1000000) :
    Calls Tryd.prog 20 #[v] w fun e w' => e = .returned (.string (bs (txt ds))) ∧ Below w.heap.size w w' := by
  obtain ⟨_, a, cap, g, off, rfl, hg, hc⟩ := h
  obtain ⟨n, hn⟩ : ∃ n, n = ds.length := ⟨_, rfl⟩
  rw [← hn] at hg hc hn0 ⊢
  have HN := Lib.hid hn
  have HC := Lib.hid hc
  have HG := Lib.hid hg
  have HM := Lib.hid hm
  clear hn hc hg hm
  go_enter Tryd.func20, Tryd.ntmps20
  go_wp2_with fail
  go_loopw [3, 8] (fun s' i' wr => ∃ (i : Nat) (S : ByteArray), i' = .int .i64 i ∧ i ≤ n ∧ s' = .string S ∧ Hid (S = bs (txt (ds.take i))) ∧ Below w.heap.size w wr) (fun _ i' _ => n - (intOf i').toNat)
  case atStart => exact ⟨0, _, rfl, by omega, rfl, rfl, Below.refl _ _⟩
  case round =>
    obtain ⟨i, S, rfl, hi, rfl, hS, hb⟩ := hrel
    by_cases hlt : i < n
    · obtain ⟨rfl, hgl⟩ := HG.out (by omega)
      obtain ⟨x, hx⟩ : ∃ x, ds[i]? = some x := ⟨ds[i]'(by have := HN.out; omega), List.getElem?_eq_getElem (by have := HN.out; omega)⟩
      obtain ⟨v0, v1⟩ := prc_at ds i x hx
      have hbz := hb.size
      have q0 := ((hb.cell (p := ⟨g, off + i * 2, none⟩) hgl).trans (HC.out (i * 2) (by omega))).trans v0
      have q1 := ((hb.cell (p := ⟨g, off + (i * 2 + 1), none⟩) hgl).trans (HC.out (i * 2 + 1) (by omega))).trans v1
      rw [← Nat.add_assoc] at q1
      have hst := txt_step ds i x hx
      have hlen := txt_len ds (i + 1)
      rw [hst] at hlen
      simp only [List.length_append, List.length_singleton] at hlen
      have hm := HM.out
      obtain ⟨N, hN⟩ : ∃ N, N = bs x.n := ⟨_, rfl⟩
      obtain ⟨V, hV⟩ : ∃ V, V = bs x.v := ⟨_, rfl⟩
      have sN : N.size = x.n.length := by rw [hN, bs_size]
      have sV : V.size = x.v.length := by rw [hV, bs_size]
      have sS : S.size = (txt (ds.take i)).length := by rw [hS.out, bs_size]
      rw [← hN] at q0
      rw [← hV] at q1
      have hgw : g ≠ wr.heap.size := by omega
      have hil : (i : Int) < n := by omega
      have z1 : (ByteArray.mk #[61]).size = 1 := rfl
      have z2 : (ByteArray.mk #[44]).size = 1 := rfl
      have j1 : ¬ maxLen < N.size + 1 := by unfold maxLen; split at hlen <;> omega
      have j2 : ¬ maxLen < (N ++ ByteArray.mk #[61]).size + V.size := by rw [ByteArray.size_append, z1]; unfold maxLen; split at hlen <;> omega
      have hSl : S.size ≤ 1000000 := by rw [sS]; exact Nat.le_trans (txt_len ds i) hm
      have hNl : N.size ≤ 1000000 := by split at hlen <;> omega
      have hVl : V.size ≤ 1000000 := by split at hlen <;> omega
      have k1 : ¬ 9223372036854775807 < S.size + (N.size + 1 + V.size) := by omega
      have k2 : ¬ 9223372036854775807 < S.size + 1 + (N.size + 1 + V.size) := by omega
      rcases Nat.eq_zero_or_pos i with h0 | h0
      · subst h0
        have HR := Lib.hid (show S ++ (N ++ ByteArray.mk #[61] ++ V) = bs (txt (ds.take (0 + 1))) by
          rw [hS.out, hst, hN, hV, if_pos rfl]
          show bs _ ++ (bs x.n ++ bs [61] ++ bs x.v) = _
          rw [bs_append, bs_append, bs_append]; rfl)
        have B1 := Lib.hid (hb.alloc hbz (.cells #[.string N, .string V] 54))
        simp only [Nat.zero_mul, Nat.add_zero] at q0 q1
        clear hst hlen hm hN hV sN sV sS hS v0 v1 hx
        go_wp2_with fail
        exact ⟨⟨1, _, rfl, by omega, rfl, HR.out, B1.out⟩, by simp [intOf]; omega⟩
      · have hi0 : (decide ((0 : Int) < i)) = true := by simp; omega
        have HR := Lib.hid (show S ++ ByteArray.mk #[44] ++ (N ++ ByteArray.mk #[61] ++ V) = bs (txt (ds.take (i + 1))) by
          rw [hS.out, hst, hN, hV, if_neg (by omega)]
          show bs _ ++ bs [44] ++ (bs x.n ++ bs [61] ++ bs x.v) = _
          rw [bs_append, bs_append, bs_append, bs_append])
        have B1 := Lib.hid (hb.alloc hbz (.cells #[.string N, .string V] 54))
        clear hst hlen hm hN hV sN sV sS hS v0 v1 hx
        go_wp2_with fail
        exact ⟨⟨i + 1, _, by simp, by omega, rfl, HR.out, B1.out⟩, by simp [intOf]; omega⟩
    · have hil : ¬ (i : Int) < n := by omega
      have hd : ds.take i = ds := List.take_of_length_le (by have := HN.out; omega)
      have HQ := Lib.hid (show S = bs (txt ds) by rw [hS.out, hd])
      clear hS hd
      go_wp2
      go_ret
      exact ⟨by rw [← HQ.out]; rfl, hb⟩
end Go.Proofs.YtmgnmppdeiflbaaDoor
