/- Layer 12: picked, Less, walked. -/
import Derived.Test.YtefhnjepocbodaaGreatDoorMSl3
namespace Go.Proofs.YtefhnjepocbodaaGreatDoor
open Go.RowKit Go.Lib

/-- A list of numbers within its capacity, only read. -/
def Nc (w : World) (v : Value) (l : List Int) : Prop := l.length ≤ 100000 ∧ ∃ a cap g off, v = .slice a l.length cap ∧ l.length ≤ cap ∧ (0 < l.length → a = some ⟨g, off, none⟩ ∧ g < w.heap.size) ∧ ∀ j x, l[j]? = some x → w.cell? ⟨g, off + j, none⟩ = some (.int .i64 x)
theorem Nc.on {w w' : World} {v : Value} {l : List Int} (h : Nc w v l) (b : Below w.heap.size w w') : Nc w' v l := by
  obtain ⟨hl, a, cap, g, off, hv, hc, h1, h2⟩ := h
  refine ⟨hl, a, cap, g, off, hv, hc, fun hn => ⟨(h1 hn).1, Nat.lt_of_lt_of_le (h1 hn).2 b.size⟩, fun j x hx => ?_⟩
  have hn : 0 < l.length := by have := (List.getElem?_eq_some_iff.1 hx).1; omega
  exact (b.cell (p := ⟨g, off + j, none⟩) (h1 hn).2).trans (h2 j x hx)
theorem Nc.of_sl {w : World} {base : Nat} {v : Value} {l : List Int} (h : Sl w base 1 v l.length (ic l)) (hl : l.length ≤ 100000) : Nc w v l := by
  refine ⟨hl, ?_⟩
  rcases h.2 with ⟨rfl, h0⟩ | ⟨g, off, cap, rfl, h1, h2, h3, _, _, h4⟩
  · exact ⟨none, 0, 0, 0, by rw [h0], by omega, fun h => absurd h (by omega), fun j x hx => by rw [List.eq_nil_of_length_eq_zero h0] at hx; simp at hx⟩
  · refine ⟨_, cap, g, off, rfl, h3, fun _ => ⟨rfl, h2⟩, fun j x hx => ?_⟩
    have hj := (List.getElem?_eq_some_iff.1 hx).1
    rw [h4 j (by omega)]
    exact ic_at l j x hx
/-- Its first one off. -/
theorem nc_tail {w : World} {v : Value} {x : Int} {l : List Int} (h : Nc w v (x :: l)) : ∃ v', (∀ W, (Instr.slice 39 v (some (.int .i64 1)) none none).run Tryz.prog W = .ok v' W) ∧ Nc w v' l := by
  obtain ⟨hl, a, cap, g, off, rfl, hc, h1, h2⟩ := h
  obtain ⟨rfl, hg⟩ := h1 (by simp)
  have hu := run_underlying Tryz.underlying39
  have hz := Tryz.sizeOf3
  rw [List.length_cons] at hc hl
  have q1 : (1 : Int) ≤ ((l.length + 1 : Nat) : Int) := by omega
  have q2 : ((l.length + 1 : Nat) : Int) ≤ (cap : Int) := by omega
  by_cases hcap : cap = 1
  · have hl0 : l = [] := List.eq_nil_of_length_eq_zero (by omega)
    subst hcap hl0
    refine ⟨.slice (some ⟨g, off, none⟩) 0 0, fun W => ?_, by simp, _, 0, g, off, rfl, by simp, fun h => absurd h (by simp), fun j x hx => by simp at hx⟩
    simp [Instr.slice, Instr.sliceBounds, go_sem, hu, hz, Addr.add]
  · refine ⟨.slice (some ⟨g, off + 1, none⟩) l.length (cap - 1), fun W => ?_, by omega, _, cap - 1, g, off + 1, rfl, by omega, fun _ => ⟨rfl, hg⟩, fun j y hy => ?_⟩
    · simp [Instr.slice, Instr.sliceBounds, go_sem, hu, hz, hcap, Addr.add]
      omega
    · rw [Nat.add_assoc, Nat.add_comm 1 j]
      exact h2 (j + 1) y (by simpa using hy)

theorem pickZ_snoc (l o : List Int) (b : Bool) (x : Int) : pickZ (l ++ [x]) o b = pickZ l o b ++ (if (decide (x ∈ o) == b) = true then [x] else []) := by
  unfold pickZ
  rw [List.filter_append]
  congr 1
  cases hb : (decide (x ∈ o) == b) <;> simp [hb]
theorem nc_form {w : World} {v : Value} {l : List Int} (h : Nc w v l) : ∃ a cap, v = .slice a l.length cap := by
  obtain ⟨_, a, cap, _, _, hv, _⟩ := h
  exact ⟨a, cap, hv⟩

set_option maxHeartbeats 4000000 in
set_option maxRecDepth 100000 in
theorem picked_any (v u : Value) (l o : List Int) (b : Bool) (w : World) (h : Nc w v l) (k : Nc w u o) (hul : Up l) (huo : Up o) :
    Calls Tryz.prog 48 #[v, u, .bool b] w (NewN w (pickZ l o b)) := by
  obtain ⟨i0, hi, hz0, hz1, hz2⟩ := info_parts bi_int
  have Hz := Lib.hid hz0; have Hs := Lib.hid hz1; have Hb := Lib.hid hz2; have Hi := Lib.hid hi
  clear hz0 hz1 hz2 hi
  obtain ⟨hl, a, cap, g, off, rfl, hlc, hg, hc⟩ := h
  obtain ⟨N, hN⟩ : ∃ N, N = l.length := ⟨_, rfl⟩
  rw [← hN] at hg hl hlc ⊢
  have HN := Lib.hid hN
  have HC := Lib.hid hc
  have HG := Lib.hid hg
  have HK := Lib.hid k
  have HUL := Lib.hid hul
  have HUO := Lib.hid huo
  obtain ⟨ua, uc, hue⟩ := nc_form k
  subst hue
  clear hN hc hg k hul huo hlc
  go_enter Tryz.func48, Tryz.ntmps48
  go_wp2_with fail
  go_loopw [1, 7, 13] (fun u' p' i' wr => ∃ (i m k : Nat) (u1 : Value), i' = .int .i64 i ∧ i ≤ N ∧ m ≤ i ∧ u' = u1 ∧ Hid (Nc w u1 (o.drop k)) ∧ Hid (∀ j y z, j < k → o[j]? = some y → z ∈ l.drop i → y < z) ∧ Hid ((pickZ (l.take i) o b).length = m) ∧ Sl wr w.heap.size 1 p' m (ic (pickZ (l.take i) o b)) ∧ Below w.heap.size w wr) (fun _ _ i' _ => N - (RowKit.intOf i').toNat)
  case atStart => exact ⟨0, 0, 0, _, rfl, by omega, by omega, rfl, HK.out, (fun j y z h => absurd h (by omega)), rfl, Sl.nil _ _ _, Below.refl _ _⟩
  case round =>
    obtain ⟨W0, rfl⟩ : ∃ W0, W0 = wr := ⟨_, rfl⟩
    obtain ⟨i, m, k1, u1, rfl, hi, hmi, rfl, hu1, hlt1, hml, hs, hb⟩ := hrel
    obtain ⟨oa, oc, rfl⟩ := hs.slice
    have HML := Lib.hid hml.out; have HS := Lib.hid hs; have HB := Lib.hid hb; have HU1 := Lib.hid hu1.out; have HLT1 := Lib.hid hlt1.out
    have hbz := hb.size
    obtain ⟨xa, xc, hxe⟩ := nc_form hu1.out
    subst hxe
    clear hu1 hlt1
    by_cases hlt : i < N
    · obtain ⟨rfl, hgl⟩ := HG.out (by omega)
      obtain ⟨x, hx⟩ : ∃ x, l[i]? = some x := ⟨l[i]'(by have := HN.out; omega), List.getElem?_eq_getElem (by have := HN.out; omega)⟩
      have c0 := (hb.cell (p := ⟨g, off + i, none⟩) hgl).trans (HC.out i x hx)
      have HTK := Lib.hid (show pickZ (l.take (i + 1)) o b = pickZ (l.take i) o b ++ (if (decide (x ∈ o) == b) = true then [x] else []) by rw [List.take_add_one, hx]; exact pickZ_snoc _ o b x)
      have hdr : l.drop i = x :: l.drop (i + 1) := by
        rw [List.drop_eq_getElem_cons (by have := HN.out; omega)]
        congr 1
        rw [List.getElem?_eq_getElem (by have := HN.out; omega)] at hx
        exact Option.some.inj hx
      have HDR := Lib.hid hdr
      have HXG := Lib.hid (show ∀ z ∈ l.drop (i + 1), x < z from by
        have := HUL.out.sublist (List.drop_sublist i l)
        rw [hdr] at this
        exact (List.pairwise_cons.1 this).1)
      have hil : (i : Int) < N := by omega
      clear hx hml hs hb hdr
      go_wp2_with fail
      go_loopw [1] (fun u' w2 => ∃ (k : Nat) (u2 : Value), u' = u2 ∧ Hid (Nc w u2 (o.drop k)) ∧ Hid (∀ j y, j < k → o[j]? = some y → y < x) ∧ W0 = w2) (fun u' _ => match u' with | .slice _ n _ => n | _ => 0)
      case atStart => exact ⟨k1, _, rfl, (by show Nc _ _ _; have := HU1.out; rw [List.length_drop] at this; exact this), (fun j y hj hy => HLT1.out j y x hj hy (by rw [HDR.out]; simp)), rfl⟩
      case round =>
        obtain ⟨k, u2, rfl, hu2, hlt2, rfl⟩ := hrel
        have HDL := Lib.hid (drop_less (o := o) x k hlt2.out)
        have HLT2 := Lib.hid (show ∀ j y z, j < k → o[j]? = some y → z ∈ l.drop (i + 1) → y < z from fun j y z hj hy hz => by have := hlt2.out j y hj hy; have := HXG.out z hz; omega)
        have HLTX := Lib.hid hlt2.out
        have HU := Lib.hid hu2.out
        have hup := HUO.out.sublist (List.drop_sublist k o)
        clear hlt2 hu2
        cases hd : o.drop k with
        | nil =>
          have HXO := Lib.hid (show ¬ x ∈ o by rw [HDL.out, hd]; simp)
          obtain ⟨ya, yc, hye⟩ := nc_form HU.out
          rw [hd] at hye
          subst hye
          clear hd hup HDL
          have HBE := Lib.hid (show decide (x ∈ o) = false from decide_eq_false HXO.out)
          cases b with
          | false =>
            have HQ := Lib.hid (show pickZ (l.take (i + 1)) o false = pickZ (l.take i) o false ++ [x] by rw [HTK.out, HBE.out]; rfl)
            go_wp2_with (at_builtin; go_loud (refine wpList_append_sl2 _ rfl _ _ 39 rfl w.heap.size 3 i0 (.int .i64 0) 1 8 Tryz.underlying39 Hi.out Hz.out Hs.out Hb.out rfl (by decide) _ m _ rfl (HS.out.alloc _) _ _ 1 _ rfl (Sl.lit W0 w.heap.size 1 1 #[_] _ hbz (by decide) rfl) (ic_one [x]) (by unfold maxLen; omega) (by omega) (by simp; omega) ?_; intro v5 w5 x5; have bb5 := Lib.hid ((HB.out.alloc hbz _).trans (x5.below (Nat.le_refl _) (by simp; omega))); have X5 := Lib.hid x5; clear x5))
            exact ⟨⟨i + 1, m + 1, k, _, by simp, by omega, by omega, rfl, HU.out, HLT2.out, by rw [HQ.out, List.length_append, HML.out]; rfl, by rw [HQ.out, ic_append]; exact X5.out.now, bb5.out⟩, by simp [RowKit.intOf]; omega⟩
          | true =>
            have HQ := Lib.hid (show pickZ (l.take (i + 1)) o true = pickZ (l.take i) o true by rw [HTK.out, HBE.out]; simp)
            go_wp2_with fail
            exact ⟨⟨i + 1, m, k, _, by simp, by omega, by omega, rfl, HU.out, HLT2.out, by rw [HQ.out]; exact HML.out, by rw [HQ.out]; exact HS.out, HB.out⟩, by simp [RowKit.intOf]; omega⟩
        | cons y r =>
          have hnu := HU.out
          rw [hd] at hnu
          obtain ⟨v', hr, hnt⟩ := nc_tail hnu
          obtain ⟨hl2, ya, yc, gy, oy, hye, hyc, hyg, hycl⟩ := hnu
          subst hye
          obtain ⟨rfl, hgy⟩ := hyg (by simp)
          have cy := (HB.out.cell (p := ⟨gy, oy + 0, none⟩) hgy).trans (hycl 0 y rfl)
          rw [Nat.add_zero] at cy
          obtain ⟨n2, hn2⟩ : ∃ n2, n2 = (y :: r).length := ⟨_, rfl⟩
          rw [← hn2] at hr HU ⊢
          have hn2p : 0 < n2 := by rw [hn2]; simp
          have hn2q : (0 : Int) < n2 := by omega
          have hd0 : decide (0 < n2) = true := by simpa using hn2p
          have HUPC := Lib.hid (List.pairwise_cons.1 (hd ▸ hup)).1
          have HD := Lib.hid hd
          have HN2 := Lib.hid hn2
          clear hd hup hl2 hyc hyg hycl hn2
          by_cases hyx : y < x
          · have e1 : decide (y < x) = true := by simpa using hyx
            obtain ⟨va, vc, hve⟩ := nc_form hnt
            subst hve
            have HNT := Lib.hid (show Nc w (.slice va r.length vc) (o.drop (k + 1)) by
              have : o.drop (k + 1) = r := by rw [← List.drop_drop, HD.out]; rfl
              rw [this]; exact hnt)
            have HLN := Lib.hid (show ∀ j z, j < k + 1 → o[j]? = some z → z < x from fun j z hj hz => by
              rcases Nat.lt_or_ge j k with h | h
              · exact HLTX.out j z h hz
              · obtain rfl : j = k := by omega
                have : (o.drop j)[0]? = some z := by rw [List.getElem?_drop]; exact hz
                rw [HD.out] at this
                simp at this
                rw [← this]; exact hyx)
            clear hnt hyx
            go_wp2_with fail
            exact ⟨⟨k + 1, _, rfl, HNT.out, HLN.out, by trivial⟩, by have := HN2.out; simp at this; simp; omega⟩
          · have e1 : decide (y < x) = false := by simpa using hyx
            clear hr hnt
            by_cases hxy : y = x
            · have e2 : (y == x) = true := by simpa using hxy
              have HXO := Lib.hid (show x ∈ o by rw [HDL.out, HD.out, hxy]; simp)
              clear hxy hyx
              have HBE := Lib.hid (show decide (x ∈ o) = true from decide_eq_true HXO.out)
              cases b with
              | true =>
                have HQ := Lib.hid (show pickZ (l.take (i + 1)) o true = pickZ (l.take i) o true ++ [x] by rw [HTK.out, HBE.out]; rfl)
                go_wp2_with (at_builtin; go_loud (refine wpList_append_sl2 _ rfl _ _ 39 rfl w.heap.size 3 i0 (.int .i64 0) 1 8 Tryz.underlying39 Hi.out Hz.out Hs.out Hb.out rfl (by decide) _ m _ rfl (HS.out.alloc _) _ _ 1 _ rfl (Sl.lit W0 w.heap.size 1 1 #[_] _ hbz (by decide) rfl) (ic_one [x]) (by unfold maxLen; omega) (by omega) (by simp; omega) ?_; intro v5 w5 x5; have bb5 := Lib.hid ((HB.out.alloc hbz _).trans (x5.below (Nat.le_refl _) (by simp; omega))); have X5 := Lib.hid x5; clear x5))
                exact ⟨⟨i + 1, m + 1, k, _, by simp, by omega, by omega, rfl, HU.out, HLT2.out, by rw [HQ.out, List.length_append, HML.out]; rfl, by rw [HQ.out, ic_append]; exact X5.out.now, bb5.out⟩, by simp [RowKit.intOf]; omega⟩
              | false =>
                have HQ := Lib.hid (show pickZ (l.take (i + 1)) o false = pickZ (l.take i) o false by rw [HTK.out, HBE.out]; simp)
                go_wp2_with fail
                exact ⟨⟨i + 1, m, k, _, by simp, by omega, by omega, rfl, HU.out, HLT2.out, by rw [HQ.out]; exact HML.out, by rw [HQ.out]; exact HS.out, HB.out⟩, by simp [RowKit.intOf]; omega⟩
            · have e2 : (y == x) = false := by simpa using hxy
              have HXO := Lib.hid (show ¬ x ∈ o by
                rw [HDL.out, HD.out]
                intro hm
                rcases List.mem_cons.1 hm with e | hm
                · exact hxy e.symm
                · have := HUPC.out x hm; omega)
              clear hxy hyx
              have HBE := Lib.hid (show decide (x ∈ o) = false from decide_eq_false HXO.out)
              cases b with
              | false =>
                have HQ := Lib.hid (show pickZ (l.take (i + 1)) o false = pickZ (l.take i) o false ++ [x] by rw [HTK.out, HBE.out]; rfl)
                go_wp2_with (at_builtin; go_loud (refine wpList_append_sl2 _ rfl _ _ 39 rfl w.heap.size 3 i0 (.int .i64 0) 1 8 Tryz.underlying39 Hi.out Hz.out Hs.out Hb.out rfl (by decide) _ m _ rfl (HS.out.alloc _) _ _ 1 _ rfl (Sl.lit W0 w.heap.size 1 1 #[_] _ hbz (by decide) rfl) (ic_one [x]) (by unfold maxLen; omega) (by omega) (by simp; omega) ?_; intro v5 w5 x5; have bb5 := Lib.hid ((HB.out.alloc hbz _).trans (x5.below (Nat.le_refl _) (by simp; omega))); have X5 := Lib.hid x5; clear x5))
                exact ⟨⟨i + 1, m + 1, k, _, by simp, by omega, by omega, rfl, HU.out, HLT2.out, by rw [HQ.out, List.length_append, HML.out]; rfl, by rw [HQ.out, ic_append]; exact X5.out.now, bb5.out⟩, by simp [RowKit.intOf]; omega⟩
              | true =>
                have HQ := Lib.hid (show pickZ (l.take (i + 1)) o true = pickZ (l.take i) o true by rw [HTK.out, HBE.out]; simp)
                go_wp2_with fail
                exact ⟨⟨i + 1, m, k, _, by simp, by omega, by omega, rfl, HU.out, HLT2.out, by rw [HQ.out]; exact HML.out, by rw [HQ.out]; exact HS.out, HB.out⟩, by simp [RowKit.intOf]; omega⟩
    · have hil : ¬ (i : Int) < N := by omega
      have hall : l.take i = l := List.take_of_length_le (by have := HN.out; omega)
      have HF := Lib.hid (show Sl W0 w.heap.size 1 (.slice oa m oc) (pickZ l o b).length (ic (pickZ l o b)) by
        have h1 := HML.out; have h2 := HS.out
        rw [hall] at h1 h2
        rw [h1]; exact h2)
      clear hall hml hs
      go_wp2
      go_ret
      exact ⟨_, rfl, HF.out, hb⟩

theorem less_any (v u : Value) (l o : List Int) (w : World) (h : Nc w v l) (k : Nc w u o) (hul : Up l) (huo : Up o) :
    Calls Tryz.prog 46 #[v, u] w (NewN w (pickZ l o false)) := by
  have C := Lib.hid (picked_any v u l o false w h k hul huo)
  obtain ⟨va, vc, rfl⟩ := nc_form h
  obtain ⟨ua, uc, rfl⟩ := nc_form k
  clear h k
  go_enter Tryz.func46, Tryz.ntmps46
  go_wp2_with fail
  refine C.out.mono ?_
  rintro e w1 ⟨v1, rfl, s1, b1⟩
  go_wp2_with fail
  go_ret
  exact ⟨_, rfl, s1, b1⟩
end Go.Proofs.YtefhnjepocbodaaGreatDoor
