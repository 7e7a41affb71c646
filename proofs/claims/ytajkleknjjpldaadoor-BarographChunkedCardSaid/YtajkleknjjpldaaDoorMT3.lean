/- Layer 12: picked, Less, walked. Layer 12: lists cloned; Both, walked. -/
import Derived.Test.YtajkleknjjpldaaDoorMT1
namespace Go.Proofs.YtajkleknjjpldaaDoor
open Go.RowKit Go.Lib

/-- A list of numbers within its capacity, only read. -/
def Nc (w : World) (v : Value) (l : List Int) : Prop := l.length ≤ 100000 ∧ ∃ a cap g off, v = .slice a l.length cap ∧ l.length ≤ cap ∧ (0 < l.length → a = some ⟨g, off, none⟩ ∧ g < w.heap.size) ∧ ∀ j x, l[j]? = some x → w.cell? ⟨g, off + j, none⟩ = some (.int .i64 x)
theorem Nc.on {w w' : World} {v : Value} {l : List Int} (h : Nc w v l) (b : Below w.heap.size w w') : Nc w' v l := by
  obtain ⟨hl, a, cap, g, off, hv, hc, h1, h2⟩ := h
  refine ⟨hl, a, cap, g, off, hv, hc, fun hn => ⟨(h1 hn).1, Nat.lt_of_lt_of_le (h1 hn).2 b.size⟩, fun j x hx => ?_⟩
  have hn : 0 < l.length := by have := (List.getElem?_eq_some_iff.1 hx).1; omega
  exact (b.cell (p := ⟨g, off + j, none⟩) (h1 hn).2).trans (h2 j x hx)
theorem Nc.of_sl {w : World} {base : Nat} {v : Value} {l : List Int} (h : Sl w base 1 v l.length (ic l)) (hl : l.length ≤ 100000) : Nc w v l := by
  refine ⟨hl, ?_⟩
  rcases h.2 with ⟨rfl, h0⟩ | ⟨g, off, cap, rfl, h1, h2, h3, _, _, h4⟩
  · exact ⟨none, 0, 0, 0, by rw [h0], by omega, fun h => absurd h (by omega), fun j x hx => by rw [List.eq_nil_of_length_eq_zero h0] at hx; simp at hx⟩
  · refine ⟨_, cap, g, off, rfl, h3, fun _ => ⟨rfl, h2⟩, fun j x hx => ?_⟩
    have hj := (List.getElem?_eq_some_iff.1 hx).1
    rw [h4 j (by omega)]
    exact ic_at l j x hx
/-- Its first one off. -/
theorem nc_tail {w : World} {v : Value} {x : Int} {l : List Int} (h : Nc w v (x :: l)) : ∃ v', (∀ W, (Instr.slice 44 v (some (.int .i64 1)) none none).run Tryd.prog W = .ok v' W) ∧ Nc w v' l := by
  obtain ⟨hl, a, cap, g, off, rfl, hc, h1, h2⟩ := h
  obtain ⟨rfl, hg⟩ := h1 (by simp)
  have hu := run_underlying Tryd.underlying44
  have hz := Tryd.sizeOf3
  rw [List.length_cons] at hc hl
  have q1 : (1 : Int) ≤ ((l.length + 1 : Nat) : Int) := by omega
  have q2 : ((l.length + 1 : Nat) : Int) ≤ (cap : Int) := by omega
  by_cases hcap : cap = 1
  · have hl0 : l = [] := List.eq_nil_of_length_eq_zero (by omega)
    subst hcap hl0
    refine ⟨.slice (some ⟨g, off, none⟩) 0 0, fun W => ?_, by simp, _, 0, g, off, rfl, by simp, fun h => absurd h (by simp), fun j x hx => by simp at hx⟩
    simp [Instr.slice, Instr.sliceBounds, go_sem, hu, hz, Addr.add]
  · refine ⟨.slice (some ⟨g, off + 1, none⟩) l.length (cap - 1), fun W => ?_, by omega, _, cap - 1, g, off + 1, rfl, by omega, fun _ => ⟨rfl, hg⟩, fun j y hy => ?_⟩
    · simp [Instr.slice, Instr.sliceBounds, go_sem, hu, hz, hcap, Addr.add]
      omega
    · rw [Nat.add_assoc, Nat.add_comm 1 j]
      exact h2 (j + 1) y (by simpa using hy)

theorem pickZ_snoc (l o : List Int) (b : Bool) (x : Int) : pickZ (l ++ [x]) o b = pickZ l o b ++ (if (decide (x ∈ o) == b) = true then [x] else []) := by
  unfold pickZ
  rw [List.filter_append]
  congr 1
  cases hb : (decide (x ∈ o) == b) <;> simp [hb]
theorem nc_form {w : World} {v : Value} {l : List Int} (h : Nc w v l) : ∃ a cap, v = .slice a l.length cap := by
  obtain ⟨_, a, cap, _, _, hv, _⟩ := h
  exact ⟨a, cap, hv⟩

set_option maxHeartbeats 4000000 in
set_option maxRecDepth 100000 in
theorem picked_any (v u : Value) (l o : List Int) (b : Bool) (w : World) (h : Nc w v l) (k : Nc w u o) (hul : Up l) (huo : Up o) :
    Calls Tryd.prog 22 #[v, u, .bool b] w (NewN w (pickZ l o b)) := by
  obtain ⟨i0, hi, hz0, hz1, hz2⟩ := info_parts bi_int
  have Hz := Lib.hid hz0; have Hs := Lib.hid hz1; have Hb := Lib.hid hz2; have Hi := Lib.hid hi
  clear hz0 hz1 hz2 hi
  obtain ⟨hl, a, cap, g, off, rfl, hlc, hg, hc⟩ := h
  obtain ⟨N, hN⟩ : ∃ N, N = l.length := ⟨_, rfl⟩
  rw [← hN] at hg hl hlc ⊢
  have HN := Lib.hid hN
  have HC := Lib.hid hc
  have HG := Lib.hid hg
  have HK := Lib.hid k
  have HUL := Lib.hid hul
  have HUO := Lib.hid huo
  obtain ⟨ua, uc, hue⟩ := nc_form k
  subst hue
  clear hN hc hg k hul huo hlc
  go_enter Tryd.func22, Tryd.ntmps22
  go_wp2_with fail
  go_loopw [1, 7, 13] (fun u' p' i' wr => ∃ (i m k : Nat) (u1 : Value), i' = .int .i64 i ∧ i ≤ N ∧ m ≤ i ∧ u' = u1 ∧ Hid (Nc w u1 (o.drop k)) ∧ Hid (∀ j y z, j < k → o[j]? = some y → z ∈ l.drop i → y < z) ∧ Hid ((pickZ (l.take i) o b).length = m) ∧ Sl wr w.heap.size 1 p' m (ic (pickZ (l.take i) o b)) ∧ Below w.heap.size w wr) (fun _ _ i' _ => N - (RowKit.intOf i').toNat)
  case atStart => exact ⟨0, 0, 0, _, rfl, by omega, by omega, rfl, HK.out, (fun j y z h => absurd h (by omega)), rfl, Sl.nil _ _ _, Below.refl _ _⟩
  case round =>
    obtain ⟨W0, rfl⟩ : ∃ W0, W0 = wr := ⟨_, rfl⟩
    obtain ⟨i, m, k1, u1, rfl, hi, hmi, rfl, hu1, hlt1, hml, hs, hb⟩ := hrel
    obtain ⟨oa, oc, rfl⟩ := hs.slice
    have HML := Lib.hid hml.out; have HS := Lib.hid hs; have HB := Lib.hid hb; have HU1 := Lib.hid hu1.out; have HLT1 := Lib.hid hlt1.out
    have hbz := hb.size
    obtain ⟨xa, xc, hxe⟩ := nc_form hu1.out
    subst hxe
    clear hu1 hlt1
    by_cases hlt : i < N
    · obtain ⟨rfl, hgl⟩ := HG.out (by omega)
      obtain ⟨x, hx⟩ : ∃ x, l[i]? = some x := ⟨l[i]'(by have := HN.out; omega), List.getElem?_eq_getElem (by have := HN.out; omega)⟩
      have c0 := (hb.cell (p := ⟨g, off + i, none⟩) hgl).trans (HC.out i x hx)
      have HTK := Lib.hid (show pickZ (l.take (i + 1)) o b = pickZ (l.take i) o b ++ (if (decide (x ∈ o) == b) = true then [x] else []) by rw [List.take_add_one, hx]; exact pickZ_snoc _ o b x)
      have hdr : l.drop i = x :: l.drop (i + 1) := by
        rw [List.drop_eq_getElem_cons (by have := HN.out; omega)]
        congr 1
        rw [List.getElem?_eq_getElem (by have := HN.out; omega)] at hx
        exact Option.some.inj hx
      have HDR := Lib.hid hdr
      have HXG := Lib.hid (show ∀ z ∈ l.drop (i + 1), x < z from by
        have := HUL.out.sublist (List.drop_sublist i l)
        rw [hdr] at this
        exact (List.pairwise_cons.1 this).1)
      have hil : (i : Int) < N := by omega
      clear hx hml hs hb hdr
      go_wp2_with fail
      go_loopw [1] (fun u' w2 => ∃ (k : Nat) (u2 : Value), u' = u2 ∧ Hid (Nc w u2 (o.drop k)) ∧ Hid (∀ j y, j < k → o[j]? = some y → y < x) ∧ W0 = w2) (fun u' _ => match u' with | .slice _ n _ => n | _ => 0)
      case atStart => exact ⟨k1, _, rfl, (by show Nc _ _ _; have := HU1.out; rw [List.length_drop] at this; exact this), (fun j y hj hy => HLT1.out j y x hj hy (by rw [HDR.out]; simp)), rfl⟩
      case round =>
        obtain ⟨k, u2, rfl, hu2, hlt2, rfl⟩ := hrel
        have HDL := Lib.hid (drop_less (o := o) x k hlt2.out)
        have HLT2 := Lib.hid (show ∀ j y z, j < k → o[j]? = some y → z ∈ l.drop (i + 1) → y < z from fun j y z hj hy hz => by have := hlt2.out j y hj hy; have := HXG.out z hz; omega)
        have HLTX := Lib.hid hlt2.out
        have HU := Lib.hid hu2.out
        have hup := HUO.out.sublist (List.drop_sublist k o)
        clear hlt2 hu2
        cases hd : o.drop k with
        | nil =>
          have HXO := Lib.hid (show ¬ x ∈ o by rw [HDL.out, hd]; simp)
          obtain ⟨ya, yc, hye⟩ := nc_form HU.out
          rw [hd] at hye
          subst hye
          clear hd hup HDL
          have HBE := Lib.hid (show decide (x ∈ o) = false from decide_eq_false HXO.out)
          cases b with
          | false =>
            have HQ := Lib.hid (show pickZ (l.take (i + 1)) o false = pickZ (l.take i) o false ++ [x] by rw [HTK.out, HBE.out]; rfl)
            go_wp2_with (at_builtin; go_loud (refine wpList_append_sl2 _ rfl _ _ 44 rfl w.heap.size 3 i0 (.int .i64 0) 1 8 Tryd.underlying44 Hi.out Hz.out Hs.out Hb.out rfl (by decide) _ m _ rfl (HS.out.alloc _) _ _ 1 _ rfl (Sl.lit W0 w.heap.size 1 1 #[_] _ hbz (by decide) rfl) (ic_one [x]) (by unfold maxLen; omega) (by omega) (by simp; omega) ?_; intro v5 w5 x5; have bb5 := Lib.hid ((HB.out.alloc hbz _).trans (x5.below (Nat.le_refl _) (by simp; omega))); have X5 := Lib.hid x5; clear x5))
            exact ⟨⟨i + 1, m + 1, k, _, by simp, by omega, by omega, rfl, HU.out, HLT2.out, by rw [HQ.out, List.length_append, HML.out]; rfl, by rw [HQ.out, ic_append]; exact X5.out.now, bb5.out⟩, by simp [RowKit.intOf]; omega⟩
          | true =>
            have HQ := Lib.hid (show pickZ (l.take (i + 1)) o true = pickZ (l.take i) o true by rw [HTK.out, HBE.out]; simp)
            go_wp2_with fail
            exact ⟨⟨i + 1, m, k, _, by simp, by omega, by omega, rfl, HU.out, HLT2.out, by rw [HQ.out]; exact HML.out, by rw [HQ.out]; exact HS.out, HB.out⟩, by simp [RowKit.intOf]; omega⟩
        | cons y r =>
          have hnu := HU.out
          rw [hd] at hnu
          obtain ⟨v', hr, hnt⟩ := nc_tail hnu
          obtain ⟨hl2, ya, yc, gy, oy, hye, hyc, hyg, hycl⟩ := hnu
          subst hye
          obtain ⟨rfl, hgy⟩ := hyg (by simp)
          have cy := (HB.out.cell (p := ⟨gy, oy + 0, none⟩) hgy).trans (hycl 0 y rfl)
          rw [Nat.add_zero] at cy
          obtain ⟨n2, hn2⟩ : ∃ n2, n2 = (y :: r).length := ⟨_, rfl⟩
          rw [← hn2] at hr HU ⊢
          have hn2p : 0 < n2 := by rw [hn2]; simp
          have hn2q : (0 : Int) < n2 := by omega
          have hd0 : decide (0 < n2) = true := by simpa using hn2p
          have HUPC := Lib.hid (List.pairwise_cons.1 (hd ▸ hup)).1
          have HD := Lib.hid hd
          have HN2 := Lib.hid hn2
          clear hd hup hl2 hyc hyg hycl hn2
          by_cases hyx : y < x
          · have e1 : decide (y < x) = true := by simpa using hyx
            obtain ⟨va, vc, hve⟩ := nc_form hnt
            subst hve
            have HNT := Lib.hid (show Nc w (.slice va r.length vc) (o.drop (k + 1)) by
              have : o.drop (k + 1) = r := by rw [← List.drop_drop, HD.out]; rfl
              rw [this]; exact hnt)
            have HLN := Lib.hid (show ∀ j z, j < k + 1 → o[j]? = some z → z < x from fun j z hj hz => by
              rcases Nat.lt_or_ge j k with h | h
              · exact HLTX.out j z h hz
              · obtain rfl : j = k := by omega
                have : (o.drop j)[0]? = some z := by rw [List.getElem?_drop]; exact hz
                rw [HD.out] at this
                simp at this
                rw [← this]; exact hyx)
            clear hnt hyx
            go_wp2_with fail
            exact ⟨⟨k + 1, _, rfl, HNT.out, HLN.out, by trivial⟩, by have := HN2.out; simp at this; simp; omega⟩
          · have e1 : decide (y < x) = false := by simpa using hyx
            clear hr hnt
            by_cases hxy : y = x
            · have e2 : (y == x) = true := by simpa using hxy
              have HXO := Lib.hid (show x ∈ o by rw [HDL.out, HD.out, hxy]; simp)
              clear hxy hyx
              have HBE := Lib.hid (show decide (x ∈ o) = true from decide_eq_true HXO.out)
              cases b with
              | true =>
                have HQ := Lib.hid (show pickZ (l.take (i + 1)) o true = pickZ (l.take i) o true ++ [x] by rw [HTK.out, HBE.out]; rfl)
                go_wp2_with (at_builtin; go_loud (refine wpList_append_sl2 _ rfl _ _ 44 rfl w.heap.size 3 i0 (.int .i64 0) 1 8 Tryd.underlying44 Hi.out Hz.out Hs.out Hb.out rfl (by decide) _ m _ rfl (HS.out.alloc _) _ _ 1 _ rfl (Sl.lit W0 w.heap.size 1 1 #[_] _ hbz (by decide) rfl) (ic_one [x]) (by unfold maxLen; omega) (by omega) (by simp; omega) ?_; intro v5 w5 x5; have bb5 := Lib.hid ((HB.out.alloc hbz _).trans (x5.below (Nat.le_refl _) (by simp; omega))); have X5 := Lib.hid x5; clear x5))
                exact ⟨⟨i + 1, m + 1, k, _, by simp, by omega, by omega, rfl, HU.out, HLT2.out, by rw [HQ.out, List.length_append, HML.out]; rfl, by rw [HQ.out, ic_append]; exact X5.out.now, bb5.out⟩, by simp [RowKit.intOf]; omega⟩
              | false =>
                have HQ := Lib.hid (show pickZ (l.take (i + 1)) o false = pickZ (l.take i) o false by rw [HTK.out, HBE.out]; simp)
                go_wp2_with fail
                exact ⟨⟨i + 1, m, k, _, by simp, by omega, by omega, rfl, HU.out, HLT2.out, by rw [HQ.out]; exact HML.out, by rw [HQ.out]; exact HS.out, HB.out⟩, by simp [RowKit.intOf]; omega⟩
            · have e2 : (y == x) = false := by simpa using hxy
              have HXO := Lib.hid (show ¬ x ∈ o by
                rw [HDL.out, HD.out]
                intro hm
                rcases List.mem_cons.1 hm with e | hm
                · exact hxy e.symm
                · have := HUPC.out x hm; omega)
              clear hxy hyx
              have HBE := Lib.hid (show decide (x ∈ o) = false from decide_eq_false HXO.out)
              cases b with
              | false =>
                have HQ := Lib.hid (show pickZ (l.take (i + 1)) o false = pickZ (l.take i) o false ++ [x] by rw [HTK.out, HBE.out]; rfl)
                go_wp2_with (at_builtin; go_loud (refine wpList_append_sl2 _ rfl _ _ 44 rfl w.heap.size 3 i0 (.int .i64 0) 1 8 Tryd.underlying44 Hi.out Hz.out Hs.out Hb.out rfl (by decide) _ m _ rfl (HS.out.alloc _) _ _ 1 _ rfl (Sl.lit W0 w.heap.size 1 1 #[_] _ hbz (by decide) rfl) (ic_one [x]) (by unfold maxLen; omega) (by omega) (by simp; omega) ?_; intro v5 w5 x5; have bb5 := Lib.hid ((HB.out.alloc hbz _).trans (x5.below (Nat.le_refl _) (by simp; omega))); have X5 := Lib.hid x5; clear x5))
                exact ⟨⟨i + 1, m + 1, k, _, by simp, by omega, by omega, rfl, HU.out, HLT2.out, by rw [HQ.out, List.length_append, HML.out]; rfl, by rw [HQ.out, ic_append]; exact X5.out.now, bb5.out⟩, by simp [RowKit.intOf]; omega⟩
              | true =>
                have HQ := Lib.hid (show pickZ (l.take (i + 1)) o true = pickZ (l.take i) o true by rw [HTK.out, HBE.out]; simp)
                go_wp2_with fail
                exact ⟨⟨i + 1, m, k, _, by simp, by omega, by omega, rfl, HU.out, HLT2.out, by rw [HQ.out]; exact HML.out, by rw [HQ.out]; exact HS.out, HB.out⟩, by simp [RowKit.intOf]; omega⟩
    · have hil : ¬ (i : Int) < N := by omega
      have hall : l.take i = l := List.take_of_length_le (by have := HN.out; omega)
      have HF := Lib.hid (show Sl W0 w.heap.size 1 (.slice oa m oc) (pickZ l o b).length (ic (pickZ l o b)) by
        have h1 := HML.out; have h2 := HS.out
        rw [hall] at h1 h2
        rw [h1]; exact h2)
      clear hall hml hs
      go_wp2
      go_ret
      exact ⟨_, rfl, HF.out, hb⟩

end Go.Proofs.YtajkleknjjpldaaDoor

namespace Go.Proofs.YtajkleknjjpldaaDoor
open Go.RowKit Go.Lib

theorem run_isnil12 (a : Option Addr) (n c : Nat) (w : World) : (binOp BinOp.eql 44 (.slice a n c) (.slice none 0 0)).run Tryd.prog w = .ok (.bool a.isNone) w := by
  have hu := run_underlying Tryd.underlying44
  have he : (Op.equal 44 (.slice a n c) (.slice none 0 0)).run Tryd.prog w = .ok a.isNone w := by
    show (Op.equalIn (9999 + 1) _ _ _).run _ _ = _
    unfold Op.equalIn
    simp only [Sem.run_bind, hu, Result.andThen]
    cases a <;> rfl
  simp [binOp, go_sem, he]

theorem addr_add (g off j : Nat) : (⟨g, off, none⟩ : Addr).add j = ⟨g, off + j, none⟩ := by
  unfold Addr.add
  split
  · rename_i h; subst h; rfl
  · rfl

set_option maxHeartbeats 1000000 in
set_option maxRecDepth 100000 in
theorem nclone_any (v : Value) (l : List Int) (w : World) (h : Nc w v l) :
    Calls Tryd.prog 21 #[v] w (NewN w l) := by
  obtain ⟨i0, hi, hz0, hz1, hz2⟩ := info_parts bi_int
  have Hz := Lib.hid hz0; have Hs := Lib.hid hz1; have Hb := Lib.hid hz2; have Hi := Lib.hid hi
  clear hz0 hz1 hz2 hi
  obtain ⟨hl, a, cap, g, off, rfl, hc, h1, h2⟩ := h
  cases a with
  | none =>
    have hn := Lib.hid (show l = [] by
      rcases Nat.eq_zero_or_pos l.length with h | h
      · exact List.eq_nil_of_length_eq_zero h
      · exact absurd (h1 h).1 (by simp))
    clear h1 h2 hc hl
    obtain ⟨n, hnn⟩ : ∃ n, n = l.length := ⟨_, rfl⟩
    rw [← hnn]
    clear hnn
    have hq := fun W => run_isnil12 none n cap W
    go_enter Tryd.func21, Tryd.ntmps21
    go_wp2
    go_ret
    exact ⟨_, rfl, by rw [hn.out]; exact Sl.nil _ _ _, Below.refl _ _⟩
  | some p =>
    obtain ⟨n, hn⟩ : ∃ n, n = l.length := ⟨_, rfl⟩
    have HN := Lib.hid hn
    have n1 : 0 + n ≤ maxLen := by unfold maxLen; omega
    have n2 : (0 + n) * 8 ≤ 140737488355328 := by omega
    have HP := Lib.hid (show ∀ j u, (ic l)[j]? = some u → w.cell? (p.add j) = some u from fun j u hu => by
      have hj : j < l.length := by have := (List.getElem?_eq_some_iff.1 hu).1; rwa [ic_length] at this
      obtain ⟨e, hg⟩ := h1 (by omega)
      cases e
      have := h2 j l[j] (List.getElem?_eq_getElem hj)
      rw [ic_at l j l[j] (List.getElem?_eq_getElem hj)] at hu
      rw [← Option.some.inj hu, addr_add]; exact this)
    have HL := Lib.hid (show (ic l).length = n * 1 by rw [ic_length]; omega)
    have HPB := Lib.hid (show ∀ j u, (ic l)[j]? = some u → (p.add j).block < w.heap.size from fun j u hu => by
      have hj : j < l.length := by have := (List.getElem?_eq_some_iff.1 hu).1; rwa [ic_length] at this
      obtain ⟨e, hg⟩ := h1 (by omega)
      cases e
      rw [addr_add]; exact hg)
    rw [← hn] at hl hc ⊢
    clear hn h1 h2
    have hq := fun W => run_isnil12 (some p) n cap W
    go_enter Tryd.func21, Tryd.ntmps21
    go_wp2_with (at_builtin; refine wpList_append_sl _ rfl _ _ 44 rfl w.heap.size 3 i0 (.int .i64 0) 1 8 Tryd.underlying44 Hi.out Hz.out Hs.out Hb.out rfl (by decide) _ 0 _ rfl (Sl.lit w w.heap.size 1 0 #[] _ (Nat.le_refl _) (by decide) rfl) p n cap (ic l) rfl HL.out (fun j u hu => (Below.cell ((Below.refl w.heap.size w).alloc (Nat.le_refl _) _) (HPB.out j u hu)).trans (HP.out j u hu)) (ic_one _) n1 n2 (by simp) ?_; intro v' w1 hx)
    go_ret
    have hx1 := hx.now
    rw [Nat.zero_add] at hx1
    refine ⟨_, rfl, by rw [← HN.out]; exact hx1, ?_⟩
    exact ((Below.refl _ w).alloc (Nat.le_refl _) _).grown hx.grown (by simp) (fun k e => by have e2 : w.heap.size = k := Option.some.inj e; omega)

/-- Lists within their capacities, only read, in a slice. -/
def Ncs (w : World) (v : Value) (ls : List (List Int)) : Prop := ls.length ≤ 100000 ∧ ∃ a cap g off, v = .slice a ls.length cap ∧ ls.length ≤ cap ∧ (0 < ls.length → a = some ⟨g, off, none⟩ ∧ g < w.heap.size) ∧ ∀ j l, ls[j]? = some l → ∃ x, w.cell? ⟨g, off + j, none⟩ = some x ∧ Nc w x l
theorem Ncs.on {w w' : World} {v : Value} {ls : List (List Int)} (h : Ncs w v ls) (b : Below w.heap.size w w') : Ncs w' v ls := by
  obtain ⟨hl, a, cap, g, off, hv, hc, h1, h2⟩ := h
  refine ⟨hl, a, cap, g, off, hv, hc, fun hn => ⟨(h1 hn).1, Nat.lt_of_lt_of_le (h1 hn).2 b.size⟩, fun j l hx => ?_⟩
  have hn : 0 < ls.length := by have := (List.getElem?_eq_some_iff.1 hx).1; omega
  obtain ⟨x, hx1, hx2⟩ := h2 j l hx
  exact ⟨x, (b.cell (p := ⟨g, off + j, none⟩) (h1 hn).2).trans hx1, hx2.on b⟩
/-- What the first so many leave. -/
def accZ (l : List Int) (ls : List (List Int)) : List Int := ls.foldl (fun acc o => pickZ acc o true) l
theorem accZ_snoc (l : List Int) (ls : List (List Int)) (o : List Int) : accZ l (ls ++ [o]) = pickZ (accZ l ls) o true := by simp [accZ, List.foldl_append]
theorem accZ_len : ∀ (ls : List (List Int)) (l : List Int), (accZ l ls).length ≤ l.length
  | [], l => Nat.le_refl _
  | o :: ls, l => by
    have h1 := accZ_len ls (pickZ l o true)
    have h2 : (pickZ l o true).length ≤ l.length := List.length_filter_le _ _
    show (accZ (pickZ l o true) ls).length ≤ _
    omega

theorem slice_one (g off N cap k : Nat) (hN : N = k + 1) (hN3 : (N : Int) ≤ cap) : ∃ v' a' c', (∀ W, (Instr.slice 62 (.slice (some ⟨g, off, none⟩) N cap) (some (.int .i64 1)) none none).run Tryd.prog W = .ok v' W) ∧ v' = .slice a' k c' ∧ (0 < k → a' = some ⟨g, off + 1, none⟩) := by
  have hu := run_underlying Tryd.underlying62
  have hsz := Tryd.sizeOf44
  by_cases hcap : cap = 1
  · have hl0 : k = 0 := by omega
    have hN0 : N = 1 := by omega
    subst hcap hN0 hl0
    refine ⟨.slice (some ⟨g, off, none⟩) 0 0, some ⟨g, off, none⟩, 0, fun W => ?_, rfl, fun h => absurd h (by omega)⟩
    simp [Instr.slice, Instr.sliceBounds, go_sem, hu, hsz, Addr.add]
  · subst hN
    have hN2 : (1 : Int) ≤ ((k + 1 : Nat) : Int) := by omega
    refine ⟨.slice (some ⟨g, off + 1, none⟩) k (cap - 1), _, cap - 1, fun W => ?_, rfl, fun h => rfl⟩
    simp [Instr.slice, Instr.sliceBounds, go_sem, hu, hsz, hcap, Addr.add]
    omega

set_option maxHeartbeats 4000000 in
set_option maxRecDepth 100000 in
theorem both_any (v : Value) (ls : List (List Int)) (w : World) (h : Ncs w v ls) (hu : ∀ l ∈ ls, Up l) :
    Calls Tryd.prog 11 #[v] w (NewN w (bothP ls)) := by
  obtain ⟨hl, a, cap, g, off, rfl, hlc, hg, hc⟩ := h
  have hsz := Tryd.sizeOf44
  cases ls with
  | nil =>
    clear hg hc hu
    have hlc0 : (0 : Int) ≤ cap := by omega
    go_enter Tryd.func11, Tryd.ntmps11
    go_wp2_with fail
    go_ret
    exact ⟨_, rfl, Sl.lit w w.heap.size 1 0 #[] _ (Nat.le_refl _) (by decide) rfl, (Below.refl _ w).alloc (Nat.le_refl _) _⟩
  | cons l0 ls =>
    obtain ⟨rfl, hgl⟩ := hg (by simp)
    obtain ⟨x0, c0, hx0⟩ := hc 0 l0 rfl
    rw [Nat.add_zero] at c0
    obtain ⟨N, hN⟩ : ∃ N, N = (l0 :: ls).length := ⟨_, rfl⟩
    have HN := Lib.hid (show N = ls.length + 1 by rw [hN]; rfl)
    rw [← hN] at hl hlc ⊢
    have hN1 : 1 ≤ N := by have := HN.out; omega
    have hN2 : (1 : Int) ≤ N := by omega
    have hN3 : (N : Int) ≤ cap := by omega
    have e0 : ((N : Int) == 0) = false := by simp; omega
    have e1 : decide (0 < N) = true := by simp; omega
    have HC := Lib.hid (show ∀ j l, ls[j]? = some l → ∃ x, w.cell? ⟨g, off + 1 + j, none⟩ = some x ∧ Nc w x l from fun j l hj => by
      obtain ⟨x, h1, h2⟩ := hc (j + 1) l (by simpa using hj)
      exact ⟨x, by rw [Nat.add_assoc, Nat.add_comm 1 j]; exact h1, h2⟩)
    have HU0 := Lib.hid (hu l0 (by simp))
    have HUS := Lib.hid (show ∀ l ∈ ls, Up l from fun l hl => hu l (by simp [hl]))
    have HL0 := Lib.hid hx0.1
    have C0 := Lib.hid (nclone_any x0 l0 w hx0)
    have hr := slice_one g off N cap ls.length HN.out hN3
    obtain ⟨v', a', c', hr, rfl, ha'⟩ := hr
    have HA := Lib.hid ha'
    obtain ⟨M, hM⟩ : ∃ M, M = ls.length := ⟨_, rfl⟩
    rw [← hM] at hr HA
    have HM := Lib.hid hM
    have hM5 : M ≤ 100000 := by have := HN.out; omega
    clear hc hu hx0 hN hg hM ha'
    go_enter Tryd.func11, Tryd.ntmps11
    go_wp2_with fail
    refine C0.out.mono ?_
    rintro e w1 ⟨v1, rfl, s1, b1⟩
    obtain ⟨oa, oc, rfl⟩ := s1.slice
    have S1 := Lib.hid s1; have B1 := Lib.hid b1
    clear s1 b1
    go_wp2_with fail
    go_loopw [3, 17] (fun p' i' wr => ∃ (i m : Nat), i' = .int .i64 i ∧ i ≤ M ∧ Hid ((accZ l0 (ls.take i)).length = m) ∧ Sl wr w.heap.size 1 p' m (ic (accZ l0 (ls.take i))) ∧ Below w.heap.size w wr) (fun _ i' _ => M - (RowKit.intOf i').toNat)
    case atStart => exact ⟨0, _, rfl, by omega, rfl, S1.out, B1.out⟩
    case round =>
      obtain ⟨W0, rfl⟩ : ∃ W0, W0 = wr := ⟨_, rfl⟩
      obtain ⟨i, m, rfl, hi, hml, hs, hb⟩ := hrel
      have hacc := bothP_go (ls.take i) l0 HU0.out
      have hacl := accZ_len (ls.take i) l0
      have hl0 := HL0.out
      have hmm := hml.out
      have hnc : Nc W0 _ (accZ l0 (ls.take i)) := Nc.of_sl (by rw [hmm]; exact hs) (by omega)
      obtain ⟨pa, pc, rfl⟩ := hs.slice
      have HML := Lib.hid hml.out; have HS := Lib.hid hs; have HB := Lib.hid hb
      have HUP := Lib.hid (show Up (accZ l0 (ls.take i)) from hacc.1)
      have hbz := hb.size
      by_cases hlt : i < M
      · obtain rfl := HA.out (by omega)
        obtain ⟨o, ho⟩ : ∃ o, ls[i]? = some o := ⟨ls[i]'(by have := HM.out; omega), List.getElem?_eq_getElem (by have := HM.out; omega)⟩
        obtain ⟨x, hx, hxn⟩ := HC.out i o ho
        have c1 := (hb.cell (p := ⟨g, off + 1 + i, none⟩) hgl).trans hx
        have HTK := Lib.hid (show accZ l0 (ls.take (i + 1)) = pickZ (accZ l0 (ls.take i)) o true by rw [List.take_add_one, ho]; exact accZ_snoc _ _ o)
        have CP := Lib.hid (picked_any (.slice pa m pc) x (accZ l0 (ls.take i)) o true W0 hnc (hxn.on hb) HUP.out (HUS.out o (List.mem_of_getElem? ho)))
        have hil : (i : Int) < M := by omega
        clear hx hxn hacc hacl hmm hnc hml hs hb ho
        as_aux_lemma =>
        go_wp2_with fail
        refine CP.out.mono ?_
        rintro e w2 ⟨v2, rfl, s2, b2⟩
        obtain ⟨qa, qc, rfl⟩ := s2.slice
        have S2 := Lib.hid (s2.mono hbz); have B2 := Lib.hid (HB.out.trans (b2.mono hbz))
        clear s2 b2
        go_wp2_with fail
        exact ⟨⟨i + 1, _, by simp, by omega, by rw [HTK.out]; rfl, by rw [HTK.out]; exact S2.out, B2.out⟩, by simp [RowKit.intOf]; omega⟩
      · have hil : ¬ (i : Int) < M := by omega
        have hall : ls.take i = ls := List.take_of_length_le (by have := HM.out; omega)
        have HF := Lib.hid (show Sl W0 w.heap.size 1 (.slice pa m pc) (bothP (l0 :: ls)).length (ic (bothP (l0 :: ls))) by
          have h1 := HML.out; have h2 := HS.out
          rw [hall] at h1 h2
          show Sl W0 w.heap.size 1 (.slice pa m pc) (accZ l0 ls).length (ic (accZ l0 ls))
          rw [h1]; exact h2)
        clear hall hml hs hacc hacl hmm hnc
        go_wp2
        go_ret
        exact ⟨_, rfl, HF.out, hb⟩
end Go.Proofs.YtajkleknjjpldaaDoor
