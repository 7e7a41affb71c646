/- Layer 13: lists being put into a slice; the series of which a name says a value that is asked for. -/
import Derived.Test.YtefhnjepocbodaaGreatDoorMTM7
import Derived.Test.YtefhnjepocbodaaGreatDoorMTC
import Derived.Test.YtefhnjepocbodaaGreatDoorMTMF
import Derived.Deep.RegionHeld3
import Derived.Deep.Cut
namespace Go.Proofs.YtefhnjepocbodaaGreatDoor
open Go.RowKit Go.Lib
set_option linter.unusedVariables false

theorem sl_text13 {w : World} {base g off n cap : Nat} {l : List (List UInt8)} (h : Sl w base 1 (.slice (some ⟨g, off, none⟩) n cap) n (stc l)) (j : Nat) (s : List UInt8) (hj : l[j]? = some s) : w.cell? ⟨g, off + j, none⟩ = some (.string (bs s)) := by
  have := h.cells j _ (stc_at l j s hj)
  rwa [Addr.add_lit] at this
theorem bi_list13 : (Tryz.prog.info? 39).map (fun i => (i.zero, i.size, i.bytes)) = some (some (.slice none 0 0), 1, 24) := by kernel_rfl
/-- Lists being put into a slice. -/
def HvX (w wr : World) (p : Value) (ls : List (List Int)) (xs : List Value) : Prop :=
  xs.length = ls.length ∧ Sl wr w.heap.size 1 p ls.length xs ∧ (∀ (j : Nat) l, ls[j]? = some l → ∃ x, xs[j]? = some x ∧ Sl wr w.heap.size 1 x l.length (ic l) ∧ ∀ k, x.ownBlock = some k → p.ownBlock ≠ some k) ∧ Below w.heap.size w wr
def HvR (w wr : World) (p : Value) (ls : List (List Int)) : Prop := ∃ xs, HvX w wr p ls xs
theorem HvX.push {w W0 w2 w4 : World} {p x p' : Value} {ls : List (List Int)} {l : List Int} {xs : List Value} {T : TypeId} (h : HvX w W0 p ls xs)
    (b2 : Below W0.heap.size W0 w2) (hx : Sl w2 W0.heap.size 1 x l.length (ic l))
    (e : Ext w.heap.size 1 (w2.alloc (.cells #[x] T)) p ls.length xs w4 p' (ls.length + 1) (xs ++ [x])) : HvR w w4 p' (ls ++ [l]) := by
  obtain ⟨hxl, hs, hj, hb⟩ := h
  have hz := hb.size
  have hz2 := b2.size
  refine ⟨xs ++ [x], by simp [hxl], by simpa using e.now, fun j l' hl' => ?_, ?_⟩
  · by_cases hj' : j < ls.length
    · rw [List.getElem?_append_left hj'] at hl'
      obtain ⟨y, h1, h2, h3⟩ := hj j l' hl'
      have A := ext_keep (W := w2) (by simp) (fun k hk => Below.heap_alloc _ _ _ hk) e (h2.on b2) h3
      exact ⟨y, by rw [List.getElem?_append_left (by omega)]; exact h1, A.1, A.2⟩
    · have hlt := (List.getElem?_eq_some_iff.1 hl').1
      simp at hlt
      have hje : j = ls.length := by omega
      subst hje
      rw [List.getElem?_append_right (Nat.le_refl _), Nat.sub_self] at hl'
      obtain rfl : l = l' := by simpa using hl'
      have A := ext_keep (W := w2) (by simp) (fun k hk => Below.heap_alloc _ _ _ hk) e (hx.mono hz) (fun k e1 e2 => by have h1 := (hx.lt k e1).1; have h2 := (hs.lt k e2).2; omega)
      exact ⟨x, by rw [← hxl, List.getElem?_append_right (Nat.le_refl _), Nat.sub_self]; rfl, A.1, A.2⟩
  · exact ((hb.trans (b2.mono hz)).alloc (by omega) _).trans (e.below (Nat.le_refl _) (by simp; omega))
theorem HvR.ncs {w wr : World} {p : Value} {ls : List (List Int)} (h : HvR w wr p ls) (hl : ls.length ≤ 100000) (hl2 : ∀ l ∈ ls, l.length ≤ 100000) : Ncs wr p ls := by
  obtain ⟨xs, hxl, hs, hj, _⟩ := h
  refine ⟨hl, ?_⟩
  rcases hs.2 with ⟨rfl, h0⟩ | ⟨g, off, cap, rfl, hb, hg, hnc, hcm, hfree, hcell⟩
  · exact ⟨none, 0, 0, 0, by rw [h0], by omega, fun h => absurd h (by omega), fun j l hj => absurd (List.getElem?_eq_some_iff.1 hj).1 (by omega)⟩
  · refine ⟨_, cap, g, off, rfl, by omega, fun _ => ⟨rfl, hg⟩, fun j l hjl => ?_⟩
    have hlt := (List.getElem?_eq_some_iff.1 hjl).1
    obtain ⟨x, hx, hn, _⟩ := hj j l hjl
    exact ⟨x, by rw [hcell j (by omega)]; exact hx, Nc.of_sl hn (hl2 l (List.mem_of_getElem? hjl))⟩
theorem HvR.slice {w wr : World} {p : Value} {ls : List (List Int)} (h : HvR w wr p ls) : ∃ a c, p = .slice a ls.length c := by
  obtain ⟨xs, _, hs, _⟩ := h
  exact hs.slice
theorem HvR.below {w wr : World} {p : Value} {ls : List (List Int)} (h : HvR w wr p ls) : Below w.heap.size w wr := by
  obtain ⟨xs, _, _, _, hb⟩ := h
  exact hb
theorem HvR.nil {w wr : World} (hb : Below w.heap.size w wr) : HvR w wr (.slice none 0 0) [] := ⟨[], rfl, Sl.nil _ _ _, fun j l hj => by simp at hj, hb⟩
theorem HvR.on {w wr w' : World} {p : Value} {ls : List (List Int)} (h : HvR w wr p ls) (b : Below wr.heap.size wr w') : HvR w w' p ls := by
  obtain ⟨xs, h1, h2, h3, h4⟩ := h
  refine ⟨xs, h1, h2.on b, fun j l hj => ?_, h4.trans (b.mono h4.size)⟩
  obtain ⟨x, k1, k2, k3⟩ := h3 j l hj
  exact ⟨x, k1, k2.on b, k3⟩
theorem flat_le (B : Nat) : ∀ (ls : List (List Int)), (∀ l ∈ ls, l.length ≤ B) → ls.flatten.length ≤ ls.length * B
  | [], _ => by simp
  | l :: ls, h => by
    have h1 := flat_le B ls fun x hx => h x (by simp [hx])
    have h2 := h l (by simp)
    simp only [List.flatten_cons, List.length_append, List.length_cons, Nat.add_mul, Nat.one_mul]
    omega
/-- The lists of the first values that are asked for. -/
def gtsN (T : List Sr) (x : List UInt8) (f : List UInt8 → Bool) (V : List (List UInt8)) : List (List Int) := (V.filter f).map fun y => foldD (fG x y) T
theorem gtsN_take {T : List Sr} {x : List UInt8} {f : List UInt8 → Bool} {V : List (List UInt8)} {i : Nat} {y : List UInt8} (h : V[i]? = some y) : gtsN T x f (V.take (i + 1)) = gtsN T x f (V.take i) ++ (if f y = true then [foldD (fG x y) T] else []) := by
  rw [List.take_add_one, h]
  unfold gtsN
  rw [List.filter_append, List.map_append]
  congr 1
  by_cases hf : f y = true <;> simp [hf]
theorem gtsN_len (T : List Sr) (x : List UInt8) (f : List UInt8 → Bool) (V : List (List UInt8)) : (gtsN T x f V).length ≤ V.length := by
  unfold gtsN
  rw [List.length_map]
  exact List.length_filter_le _ _
theorem gtsN_each (T : List Sr) (x : List UInt8) (f : List UInt8 → Bool) (V : List (List UInt8)) : ∀ l ∈ gtsN T x f V, l.length ≤ T.length := by
  intro l hl
  obtain ⟨y, _, rfl⟩ := List.mem_map.1 hl
  exact fG_few T x y

set_option maxHeartbeats 2000000 in
set_option maxRecDepth 100000 in
theorem havingF_any {base b mh ml : Nat} {T : List Sr} (x : List UInt8) (mv : Value) (f : List UInt8 → Bool) (w : World) (h : Told base b mh ml T w)
    (hf : ∀ y W, Below w.heap.size w W → Calls Tryz.prog 22 #[mv, .string (bs y)] W fun e w' => e = .returned (.bool (f y)) ∧ Below W.heap.size W w') :
    Calls Tryz.prog 45 #[.pointer (some ⟨b, 0, none⟩), .string (bs x), .func (.func 22) #[mv] #[]] w (NewN w (havN T x f)) := by
  obtain ⟨i0, hi, hz0, hz1, hz2⟩ := info_parts bi_list13
  have Hz := Lib.hid hz0; have Hs := Lib.hid hz1; have Hb := Lib.hid hz2; have Hi := Lib.hid hi
  clear hz0 hz1 hz2 hi
  have VA := told_values h x
  obtain ⟨V, hV⟩ : ∃ V, V = foldD (fV x) T := ⟨_, rfl⟩
  have hVl : V.length ≤ 120 := by rw [hV]; exact fold_small _ (fV_len x) h
  have HT := Lib.hid h.few
  rw [← hV] at VA
  have VH := Lib.hid VA
  have HV := Lib.hid hV
  have H := Lib.hid h
  have FF := Lib.hid hf
  obtain ⟨n, hn⟩ : ∃ n, n = V.length := ⟨_, rfl⟩
  have HN := Lib.hid hn
  rw [← hn] at hVl
  clear h hf VA hV hn
  go_enter Tryz.func45, Tryz.ntmps45
  go_wp2_with fail
  refine VH.out.mono ?_
  rintro e w1 ⟨v1, rfl, s1, b1⟩
  rw [← HN.out] at s1
  obtain ⟨va, vc, rfl⟩ := s1.slice
  have S1 := Lib.hid s1; have B1 := Lib.hid b1
  clear s1 b1 VH
  go_wp2_with fail
  go_loopw [7, 14] (fun p' i' wr => ∃ (i m : Nat), i' = .int .i64 i ∧ i ≤ n ∧ m ≤ i ∧ Hid (m = (gtsN T x f (V.take i)).length) ∧ (∃ a c, p' = .slice a m c) ∧ Hid (HvR w1 wr p' (gtsN T x f (V.take i)))) (fun _ i' _ => n - (intOf i').toNat)
  case atStart => exact ⟨0, 0, rfl, by omega, by omega, Lib.hid rfl, ⟨_, _, rfl⟩, Lib.hid (HvR.nil (Below.refl _ _))⟩
  case round =>
    obtain ⟨W0, rfl⟩ : ∃ W0, W0 = wr := ⟨_, rfl⟩
    obtain ⟨i, m, rfl, hi, hmi, hm, ⟨pa, pc, rfl⟩, hst⟩ := hrel
    have hh := hst.out
    have hb1 := hh.below
    have HB1 := Lib.hid hb1
    have HB := Lib.hid (B1.out.trans (hb1.mono B1.out.size))
    have hbz := HB.out.size
    have hbz1 := hb1.size
    by_cases hlt : i < n
    · obtain ⟨y, hy⟩ : ∃ y, V[i]? = some y := ⟨V[i]'(by have := HN.out; omega), List.getElem?_eq_getElem (by have := HN.out; omega)⟩
      obtain ⟨g, off, hg⟩ : ∃ g off, va = some ⟨g, off, none⟩ := by
        obtain ⟨g, o, k, e, _⟩ := S1.out.somewhere (by omega)
        exact ⟨g, o, by cases e; rfl⟩
      subst hg
      have hgl : g < w1.heap.size := (S1.out.lt g rfl).2
      have c1 := (hb1.cell (p := ⟨g, off + i, none⟩) hgl).trans (sl_text13 S1.out i y hy)
      have hil : (i : Int) < n := by omega
      have GT := Lib.hid (gtsN_take (T := T) (x := x) (f := f) hy)
      have CF := Lib.hid (FF.out y W0 HB.out)
      have HST := Lib.hid hst.out
      have HM := Lib.hid hm.out
      obtain ⟨r, hr⟩ : ∃ r, f y = r := ⟨_, rfl⟩
      rw [hr] at CF GT
      clear hst hm hh hy hr hb1
      cases r with
      | false =>
        have GT2 := Lib.hid (show gtsN T x f (V.take (i + 1)) = gtsN T x f (V.take i) by rw [GT.out]; simp)
        clear GT
        go_wp2_with fail
        refine CF.out.mono ?_
        rintro e w2 ⟨rfl, b2⟩
        have HF := Lib.hid (show HvR w1 w2 (.slice pa m pc) (gtsN T x f (V.take (i + 1))) by rw [GT2.out]; exact HST.out.on b2)
        clear b2 CF
        go_wp2_with fail
        exact ⟨⟨i + 1, m, by go_num, by omega, by omega, Lib.hid (by rw [GT2.out]; exact HM.out), ⟨_, _, rfl⟩, HF⟩, by simp [intOf]; omega⟩
      | true =>
        have GT2 := Lib.hid (show gtsN T x f (V.take (i + 1)) = gtsN T x f (V.take i) ++ [foldD (fG x y) T] by rw [GT.out]; simp)
        clear GT
        go_wp2_with fail
        refine CF.out.mono ?_
        rintro e w2 ⟨rfl, b2⟩
        have B2 := Lib.hid b2
        have CG := Lib.hid (told_get (H.out.on (HB.out.trans (b2.mono HB.out.size))) x y)
        obtain ⟨G, hG⟩ : ∃ G, G = foldD (fG x y) T := ⟨_, rfl⟩
        rw [← hG] at CG GT2
        have hz2 := b2.size
        clear b2 CF hG
        go_wp2_with fail
        refine CG.out.mono ?_
        rintro e w3 ⟨v3, rfl, s3, b3⟩
        obtain ⟨a3, c3, rfl⟩ := s3.slice
        have hz3 := b3.size
        have S3 := Lib.hid (s3.mono (base' := W0.heap.size) hz2)
        have B3 := Lib.hid (B2.out.trans (b3.mono hz2))
        obtain ⟨xs, hX⟩ := HST.out
        have HX := Lib.hid hX
        have own1 : Sl (w3.alloc (.cells #[.slice a3 G.length c3] 39)) w1.heap.size 1 (.slice pa m pc) m xs := by
          have h1 := hX.2.1
          rw [← HM.out] at h1
          exact (h1.on B3.out).alloc _
        have hlit := Lib.hid (Sl.lit w3 W0.heap.size 1 1 #[.slice a3 G.length c3] 39 (by omega) (by decide) rfl).cells
        have hone : ∀ u ∈ [Value.slice a3 G.length c3], u.oneCell' = true := by
          intro u hu
          rw [List.mem_singleton] at hu
          subst hu
          rfl
        have n3 : m + 1 ≤ maxLen := by unfold maxLen; omega
        have n4 : (m + 1) * 24 ≤ 140737488355328 := by omega
        have hb1 : w1.heap.size ≤ (w3.alloc (.cells #[.slice a3 G.length c3] 39)).heap.size := by simp; omega
        clear s3 b3 CG hX
        go_wp2_with (at_builtin; refine wpList_append_sl _ rfl _ _ 69 rfl w1.heap.size 39 i0 (.slice none 0 0) 1 24 Tryz.underlying69 Hi.out Hz.out Hs.out Hb.out rfl (by decide) _ m _ rfl own1 ⟨w3.heap.size, 0, none⟩ 1 1 [.slice a3 G.length c3] rfl rfl hlit.out hone n3 n4 hb1 ?_; intro v4 w4 hx4; obtain ⟨a4, c4, rfl⟩ := hx4.now.slice)
        have e4 : Ext w1.heap.size 1 (w3.alloc (.cells #[.slice a3 G.length c3] 39)) (.slice pa m pc) (gtsN T x f (V.take i)).length xs w4 (.slice a4 (m + 1) c4) ((gtsN T x f (V.take i)).length + 1) (xs ++ [.slice a3 G.length c3]) := by rw [← HM.out]; exact hx4
        have hP := HX.out.push B3.out S3.out e4
        rw [← GT2.out] at hP
        exact ⟨⟨i + 1, m + 1, by go_num, by omega, by omega, Lib.hid (by rw [GT2.out, List.length_append, ← HM.out]; rfl), ⟨_, _, rfl⟩, Lib.hid hP⟩, by simp [intOf]; omega⟩
    · have hil : ¬ (i : Int) < n := by omega
      have htk : V.take i = V := List.take_of_length_le (by have := HN.out; omega)
      rw [htk] at hh
      have hm2 := hm.out
      rw [htk] at hm2
      have hcl := gtsN_each T x f V
      have hgl := gtsN_len T x f V
      have hT := HT.out
      have hN := HN.out
      have CA := any_any (.slice pa m pc) (gtsN T x f V) W0 (hh.ncs (by omega) (fun l hl => by have := hcl l hl; omega)) (by
        have h1 := flat_le 12 (gtsN T x f V) (fun l hl => by have := hcl l hl; omega)
        omega)
      have HA := Lib.hid CA
      have HE := Lib.hid (show anyZ (gtsN T x f V) = havN T x f by rw [HV.out]; rfl)
      clear hst hm hh htk hm2 hcl hgl hT hN CA hb1
      go_wp2_with fail
      refine HA.out.mono ?_
      rintro e w2 ⟨v2, rfl, s2, b2⟩
      rw [HE.out] at s2
      obtain ⟨a2, c2, rfl⟩ := s2.slice
      have S2 := Lib.hid (s2.mono hbz); have B2 := Lib.hid (HB.out.trans (b2.mono hbz))
      clear s2 b2 HA
      go_wp2
      go_ret
      exact ⟨_, rfl, S2.out, B2.out⟩

set_option maxHeartbeats 2000000 in
set_option maxRecDepth 100000 in
theorem havingL_any {base b mh ml : Nat} {T : List Sr} (x : List UInt8) (pv : Value) (f : List UInt8 → Bool) (w : World) (h : Told base b mh ml T w)
    (hf : ∀ y W, Below w.heap.size w W → Calls Tryz.prog 47 #[.string (bs y), pv] W fun e w' => e = .returned (.bool (f y)) ∧ Below W.heap.size W w') :
    Calls Tryz.prog 45 #[.pointer (some ⟨b, 0, none⟩), .string (bs x), .func (.func 47) #[] #[pv]] w (NewN w (havN T x f)) := by
  obtain ⟨i0, hi, hz0, hz1, hz2⟩ := info_parts bi_list13
  have Hz := Lib.hid hz0; have Hs := Lib.hid hz1; have Hb := Lib.hid hz2; have Hi := Lib.hid hi
  clear hz0 hz1 hz2 hi
  have VA := told_values h x
  obtain ⟨V, hV⟩ : ∃ V, V = foldD (fV x) T := ⟨_, rfl⟩
  have hVl : V.length ≤ 120 := by rw [hV]; exact fold_small _ (fV_len x) h
  have HT := Lib.hid h.few
  rw [← hV] at VA
  have VH := Lib.hid VA
  have HV := Lib.hid hV
  have H := Lib.hid h
  have FF := Lib.hid hf
  obtain ⟨n, hn⟩ : ∃ n, n = V.length := ⟨_, rfl⟩
  have HN := Lib.hid hn
  rw [← hn] at hVl
  clear h hf VA hV hn
  go_enter Tryz.func45, Tryz.ntmps45
  go_wp2_with fail
  refine VH.out.mono ?_
  rintro e w1 ⟨v1, rfl, s1, b1⟩
  rw [← HN.out] at s1
  obtain ⟨va, vc, rfl⟩ := s1.slice
  have S1 := Lib.hid s1; have B1 := Lib.hid b1
  clear s1 b1 VH
  go_wp2_with fail
  go_loopw [7, 14] (fun p' i' wr => ∃ (i m : Nat), i' = .int .i64 i ∧ i ≤ n ∧ m ≤ i ∧ Hid (m = (gtsN T x f (V.take i)).length) ∧ (∃ a c, p' = .slice a m c) ∧ Hid (HvR w1 wr p' (gtsN T x f (V.take i)))) (fun _ i' _ => n - (intOf i').toNat)
  case atStart => exact ⟨0, 0, rfl, by omega, by omega, Lib.hid rfl, ⟨_, _, rfl⟩, Lib.hid (HvR.nil (Below.refl _ _))⟩
  case round =>
    obtain ⟨W0, rfl⟩ : ∃ W0, W0 = wr := ⟨_, rfl⟩
    obtain ⟨i, m, rfl, hi, hmi, hm, ⟨pa, pc, rfl⟩, hst⟩ := hrel
    have hh := hst.out
    have hb1 := hh.below
    have HB1 := Lib.hid hb1
    have HB := Lib.hid (B1.out.trans (hb1.mono B1.out.size))
    have hbz := HB.out.size
    have hbz1 := hb1.size
    by_cases hlt : i < n
    · obtain ⟨y, hy⟩ : ∃ y, V[i]? = some y := ⟨V[i]'(by have := HN.out; omega), List.getElem?_eq_getElem (by have := HN.out; omega)⟩
      obtain ⟨g, off, hg⟩ : ∃ g off, va = some ⟨g, off, none⟩ := by
        obtain ⟨g, o, k, e, _⟩ := S1.out.somewhere (by omega)
        exact ⟨g, o, by cases e; rfl⟩
      subst hg
      have hgl : g < w1.heap.size := (S1.out.lt g rfl).2
      have c1 := (hb1.cell (p := ⟨g, off + i, none⟩) hgl).trans (sl_text13 S1.out i y hy)
      have hil : (i : Int) < n := by omega
      have GT := Lib.hid (gtsN_take (T := T) (x := x) (f := f) hy)
      have CF := Lib.hid (FF.out y W0 HB.out)
      have HST := Lib.hid hst.out
      have HM := Lib.hid hm.out
      obtain ⟨r, hr⟩ : ∃ r, f y = r := ⟨_, rfl⟩
      rw [hr] at CF GT
      clear hst hm hh hy hr hb1
      cases r with
      | false =>
        have GT2 := Lib.hid (show gtsN T x f (V.take (i + 1)) = gtsN T x f (V.take i) by rw [GT.out]; simp)
        clear GT
        go_wp2_with fail
        refine CF.out.mono ?_
        rintro e w2 ⟨rfl, b2⟩
        have HF := Lib.hid (show HvR w1 w2 (.slice pa m pc) (gtsN T x f (V.take (i + 1))) by rw [GT2.out]; exact HST.out.on b2)
        clear b2 CF
        go_wp2_with fail
        exact ⟨⟨i + 1, m, by go_num, by omega, by omega, Lib.hid (by rw [GT2.out]; exact HM.out), ⟨_, _, rfl⟩, HF⟩, by simp [intOf]; omega⟩
      | true =>
        have GT2 := Lib.hid (show gtsN T x f (V.take (i + 1)) = gtsN T x f (V.take i) ++ [foldD (fG x y) T] by rw [GT.out]; simp)
        clear GT
        go_wp2_with fail
        refine CF.out.mono ?_
        rintro e w2 ⟨rfl, b2⟩
        have B2 := Lib.hid b2
        have CG := Lib.hid (told_get (H.out.on (HB.out.trans (b2.mono HB.out.size))) x y)
        obtain ⟨G, hG⟩ : ∃ G, G = foldD (fG x y) T := ⟨_, rfl⟩
        rw [← hG] at CG GT2
        have hz2 := b2.size
        clear b2 CF hG
        go_wp2_with fail
        refine CG.out.mono ?_
        rintro e w3 ⟨v3, rfl, s3, b3⟩
        obtain ⟨a3, c3, rfl⟩ := s3.slice
        have hz3 := b3.size
        have S3 := Lib.hid (s3.mono (base' := W0.heap.size) hz2)
        have B3 := Lib.hid (B2.out.trans (b3.mono hz2))
        obtain ⟨xs, hX⟩ := HST.out
        have HX := Lib.hid hX
        have own1 : Sl (w3.alloc (.cells #[.slice a3 G.length c3] 39)) w1.heap.size 1 (.slice pa m pc) m xs := by
          have h1 := hX.2.1
          rw [← HM.out] at h1
          exact (h1.on B3.out).alloc _
        have hlit := Lib.hid (Sl.lit w3 W0.heap.size 1 1 #[.slice a3 G.length c3] 39 (by omega) (by decide) rfl).cells
        have hone : ∀ u ∈ [Value.slice a3 G.length c3], u.oneCell' = true := by
          intro u hu
          rw [List.mem_singleton] at hu
          subst hu
          rfl
        have n3 : m + 1 ≤ maxLen := by unfold maxLen; omega
        have n4 : (m + 1) * 24 ≤ 140737488355328 := by omega
        have hb1 : w1.heap.size ≤ (w3.alloc (.cells #[.slice a3 G.length c3] 39)).heap.size := by simp; omega
        clear s3 b3 CG hX
        go_wp2_with (at_builtin; refine wpList_append_sl _ rfl _ _ 69 rfl w1.heap.size 39 i0 (.slice none 0 0) 1 24 Tryz.underlying69 Hi.out Hz.out Hs.out Hb.out rfl (by decide) _ m _ rfl own1 ⟨w3.heap.size, 0, none⟩ 1 1 [.slice a3 G.length c3] rfl rfl hlit.out hone n3 n4 hb1 ?_; intro v4 w4 hx4; obtain ⟨a4, c4, rfl⟩ := hx4.now.slice)
        have e4 : Ext w1.heap.size 1 (w3.alloc (.cells #[.slice a3 G.length c3] 39)) (.slice pa m pc) (gtsN T x f (V.take i)).length xs w4 (.slice a4 (m + 1) c4) ((gtsN T x f (V.take i)).length + 1) (xs ++ [.slice a3 G.length c3]) := by rw [← HM.out]; exact hx4
        have hP := HX.out.push B3.out S3.out e4
        rw [← GT2.out] at hP
        exact ⟨⟨i + 1, m + 1, by go_num, by omega, by omega, Lib.hid (by rw [GT2.out, List.length_append, ← HM.out]; rfl), ⟨_, _, rfl⟩, Lib.hid hP⟩, by simp [intOf]; omega⟩
    · have hil : ¬ (i : Int) < n := by omega
      have htk : V.take i = V := List.take_of_length_le (by have := HN.out; omega)
      rw [htk] at hh
      have hm2 := hm.out
      rw [htk] at hm2
      have hcl := gtsN_each T x f V
      have hgl := gtsN_len T x f V
      have hT := HT.out
      have hN := HN.out
      have CA := any_any (.slice pa m pc) (gtsN T x f V) W0 (hh.ncs (by omega) (fun l hl => by have := hcl l hl; omega)) (by
        have h1 := flat_le 12 (gtsN T x f V) (fun l hl => by have := hcl l hl; omega)
        omega)
      have HA := Lib.hid CA
      have HE := Lib.hid (show anyZ (gtsN T x f V) = havN T x f by rw [HV.out]; rfl)
      clear hst hm hh htk hm2 hcl hgl hT hN CA hb1
      go_wp2_with fail
      refine HA.out.mono ?_
      rintro e w2 ⟨v2, rfl, s2, b2⟩
      rw [HE.out] at s2
      obtain ⟨a2, c2, rfl⟩ := s2.slice
      have S2 := Lib.hid (s2.mono hbz); have B2 := Lib.hid (HB.out.trans (b2.mono hbz))
      clear s2 b2 HA
      go_wp2
      go_ret
      exact ⟨_, rfl, S2.out, B2.out⟩
end Go.Proofs.YtefhnjepocbodaaGreatDoor
