/- Layer 6: the order of sets, their keys: plain maths; the statement LabelOrder walked. The statement LabelOrder, walked. Layer 6: the document's own pairs: Told, Compare; the statement LabelCompares walked. Layer 6: the document's own Compare; the statement LabelCompares walked. -/
import Derived.Test.YtfckgcckpfklaaaGreatDoorMY3
import Derived.Laws.StructEq
namespace Go.Proofs.YtfckgcckpfklaaaGreatDoor
open Go.RowKit Go.Lib

theorem cmpb_neg (a b : List UInt8) : Lib.compareBytes b a = -Lib.compareBytes a b := by
  have h1 := cmp_val a b; have h2 := cmp_val b a
  have l1 := cmp_lt a b; have l2 := cmp_lt b a
  have g1 := cmp_gt a b; have g2 := cmp_gt b a
  have e1 := cmp_eq a b; have e2 := cmp_eq b a
  rcases h1 with h1 | h1 | h1
  · have := g2.2 (l1.1 (by omega)); omega
  · have := e2.2 (e1.1 h1).symm; omega
  · have := l2.2 (g1.1 (by omega)); omega
theorem cfP_neg (x y : Pr) : cfP y x = -cfP x y := by
  unfold cfP
  rw [cmpb_neg x.n y.n, cmpb_neg x.v y.v]
  by_cases h : Lib.compareBytes x.n y.n = 0
  · rw [if_pos h, if_pos (by omega)]
  · rw [if_neg h, if_neg (by omega)]
theorem cfP_val (x y : Pr) : cfP x y = -1 ∨ cfP x y = 0 ∨ cfP x y = 1 := by
  unfold cfP
  split
  · exact cmp_val _ _
  · exact cmp_val _ _
theorem cfP_zero (x y : Pr) : cfP x y = 0 ↔ x = y := by
  constructor
  · intro h
    rcases ltP_tri x y with k | k | k
    · have := (cfP_lt x y).2 k; omega
    · exact k
    · have := (cfP_lt y x).2 k; rw [cfP_neg] at this; omega
  · rintro rfl
    have := cfP_neg x x
    omega
theorem cmpS_neg : ∀ a b : List Pr, cmpS b a = -cmpS a b
  | [], [] => rfl
  | [], _ :: _ => rfl
  | _ :: _, [] => rfl
  | x :: a, y :: b => by
    rw [cmpS, cmpS, cfP_neg x y, cmpS_neg a b]
    by_cases h : cfP x y = 0
    · rw [if_pos (by omega), if_pos h]
    · rw [if_neg (by omega), if_neg h]
theorem cmpS_val : ∀ a b : List Pr, cmpS a b = -1 ∨ cmpS a b = 0 ∨ cmpS a b = 1
  | [], [] => .inr (.inl rfl)
  | [], _ :: _ => .inl rfl
  | _ :: _, [] => .inr (.inr rfl)
  | x :: a, y :: b => by
    rw [cmpS]
    split
    · exact cmpS_val a b
    · exact cfP_val x y
theorem cmpS_self (a : List Pr) : cmpS a a = 0 := by have := cmpS_neg a a; omega
theorem cmpS_zero : ∀ a b : List Pr, cmpS a b = 0 → a = b
  | [], [], _ => rfl
  | [], _ :: _, h => by simp [cmpS] at h
  | _ :: _, [], h => by simp [cmpS] at h
  | x :: a, y :: b, h => by
    rw [cmpS] at h
    by_cases hc : cfP x y = 0
    · rw [if_pos hc] at h
      rw [(cfP_zero x y).1 hc, cmpS_zero a b h]
    · rw [if_neg hc] at h
      exact absurd h hc
theorem cmpS_trans : ∀ a b c : List Pr, cmpS a b ≤ 0 → cmpS b c ≤ 0 → cmpS a c ≤ 0
  | [], _, [], _, _ => by simp [cmpS]
  | [], _, _ :: _, _, _ => by simp [cmpS]
  | _ :: _, [], _, h, _ => by simp [cmpS] at h
  | _ :: _, _ :: _, [], _, h => by simp [cmpS] at h
  | x :: a, y :: b, z :: c, h, k => by
    rw [cmpS] at h k ⊢
    by_cases h1 : cfP x y = 0
    · obtain rfl := (cfP_zero x y).1 h1
      rw [if_pos h1] at h
      by_cases h2 : cfP x z = 0
      · rw [if_pos h2] at k ⊢
        exact cmpS_trans a b c h k
      · rw [if_neg h2] at k ⊢
        exact k
    · rw [if_neg h1] at h
      have l1 : ltP x y := (cfP_lt x y).1 (by omega)
      by_cases h2 : cfP y z = 0
      · obtain rfl := (cfP_zero y z).1 h2
        rw [if_neg h1]; exact h
      · rw [if_neg h2] at k
        have l2 : ltP y z := (cfP_lt y z).1 (by omega)
        have l3 := (cfP_lt x z).2 (ltP_trans l1 l2)
        rw [if_neg (by omega)]
        omega

theorem encT_inj {s s' r r' : List UInt8} (hs : s.length ≤ 1000) (hs' : s'.length ≤ 1000) (h : Leb.encT s ++ r = Leb.encT s' ++ r') : s = s' ∧ r = r' := by
  have h1 := Leb.takeT_enc s r 1000 (by omega) (by unfold Leb.two64; omega)
  have h2 := Leb.takeT_enc s' r' 1000 (by omega) (by unfold Leb.two64; omega)
  rw [h, h2] at h1
  simp only [Prod.mk.injEq] at h1
  exact ⟨h1.1.symm, h1.2.1.symm⟩
def Short (ds : List Pr) : Prop := ∀ x ∈ ds, x.n.length ≤ 1000 ∧ x.v.length ≤ 1000
theorem keys_inj : ∀ (a b : List Pr), Short a → Short b → a.length = b.length → a.flatMap keyP = b.flatMap keyP → a = b
  | [], [], _, _, _, _ => rfl
  | [], _ :: _, _, _, h, _ => by simp at h
  | _ :: _, [], _, _, h, _ => by simp at h
  | x :: a, y :: b, ha, hb, hl, h => by
    rw [List.flatMap_cons, List.flatMap_cons, keyP, keyP, List.append_assoc, List.append_assoc] at h
    obtain ⟨h1, h2⟩ := encT_inj (ha x (by simp)).1 (hb y (by simp)).1 h
    obtain ⟨h3, h4⟩ := encT_inj (ha x (by simp)).2 (hb y (by simp)).2 h2
    have hxy : x = y := by cases x; cases y; simp at h1 h3; rw [h1, h3]
    rw [hxy, keys_inj a b (fun z hz => ha z (by simp [hz])) (fun z hz => hb z (by simp [hz])) (by simpa using hl) h4]
theorem keyL_inj (a b : List Pr) (ha : Short a) (hb : Short b) (la : a.length ≤ 1000) (lb : b.length ≤ 1000) (h : keyL a = keyL b) : a = b := by
  unfold keyL at h
  have h1 := Leb.takeU_enc a.length (by unfold Leb.two64; omega) (a.flatMap keyP)
  have h2 := Leb.takeU_enc b.length (by unfold Leb.two64; omega) (b.flatMap keyP)
  rw [h, h2] at h1
  simp only [Prod.mk.injEq] at h1
  exact keys_inj a b ha hb h1.1.symm h1.2.1.symm
theorem f42_short (ds : List Pr) : Short (f42 ds) := by
  intro x hx
  obtain ⟨y, _, rfl⟩ := List.mem_map.1 hx
  simp; omega
theorem key_small : ∀ (ds : List Pr), Short ds → (ds.flatMap keyP).length ≤ ds.length * 2020
  | [], _ => by simp
  | x :: ds, h => by
    have ih := key_small ds (fun z hz => h z (by simp [hz]))
    obtain ⟨h1, h2⟩ := h x (by simp)
    have e1 : (Leb.encT x.n).length ≤ 1010 := by unfold Leb.encT; rw [List.length_append]; have := (Leb.encU_len x.n.length).2; omega
    have e2 : (Leb.encT x.v).length ≤ 1010 := by unfold Leb.encT; rw [List.length_append]; have := (Leb.encU_len x.v.length).2; omega
    rw [List.flatMap_cons, List.length_append, keyP, List.length_append, List.length_cons]
    omega
end Go.Proofs.YtfckgcckpfklaaaGreatDoor

namespace Go.Proofs.YtfckgcckpfklaaaGreatDoor
open Go.RowKit Go.Lib

theorem PrsAt.len {w : World} {ao : Option Addr} {len : Nat} {ds : List Pr} (h : PrsAt w ao len ds) : (f42 ds).length ≤ 10 := by rw [f42_len, h.1]; omega
theorem Sl.bl {w w' : World} {base size n : Nat} {v : Value} {xs : List Value} (h : Sl w base size v n xs) (b : Below w.heap.size w w') : Sl w' base size v n xs := h.below b (fun k hk => (h.lt k hk).2)

end Go.Proofs.YtfckgcckpfklaaaGreatDoor

namespace Go.Proofs.YtfckgcckpfklaaaGreatDoor
open Go.RowKit Go.Lib

theorem zc_rpair : (Tryz.prog.info? 118).map (fun i => (i.zero, i.size, i.bytes)) = some (some (.agg #[.string ⟨#[]⟩, .string ⟨#[]⟩]), 2, 32) := by kernel_rfl

set_option maxHeartbeats 2000000 in
set_option maxRecDepth 100000 in
theorem told_any (v : Value) (ds : List Pr) (w : World) (h : Rd w 2 v ds.length (prc ds)) (hm : ds.length ≤ 1000000) :
    Calls Tryz.prog 36 #[v] w (NewP w ds) := by
  obtain ⟨i0, hi, hz0, hz1, hz2⟩ := info_parts zc_rpair
  have Hz := Lib.hid hz0; have Hs := Lib.hid hz1; have Hb := Lib.hid hz2; have Hi := Lib.hid hi
  clear hz0 hz1 hz2 hi
  obtain ⟨_, a, cap, g, off, rfl, hg, hc⟩ := h
  obtain ⟨n, hn⟩ : ∃ n, n = ds.length := ⟨_, rfl⟩
  rw [← hn] at hg hc hm
  have HN := Lib.hid hn
  have HC := Lib.hid hc
  have HG := Lib.hid hg
  rw [← hn]
  clear hn hc hg
  go_enter Tryz.func36, Tryz.ntmps36
  go_wp2_with fail
  go_loopw [3, 9] (fun o' i' wr => ∃ (i : Nat), i' = .int .i64 i ∧ i ≤ n ∧ Sl wr w.heap.size 2 o' i (prc (ds.take i)) ∧ Below w.heap.size w wr) (fun _ i' _ => n - (intOf i').toNat)
  case atStart => exact ⟨0, rfl, by omega, Sl.lit w w.heap.size 2 0 #[] _ (Nat.le_refl _) (by decide) rfl, (Below.refl _ _).alloc (Nat.le_refl _) _⟩
  case round =>
    obtain ⟨i, rfl, hi, hown, hb⟩ := hrel
    have hbz := hb.size
    by_cases hlt : i < n
    · obtain ⟨rfl, hgl⟩ := HG.out (by omega)
      obtain ⟨x, hx⟩ : ∃ x, ds[i]? = some x := ⟨ds[i]'(by have := HN.out; omega), List.getElem?_eq_getElem (by have := HN.out; omega)⟩
      obtain ⟨v0, v1⟩ := prc_at ds i x hx
      have q0 := ((hb.cell (p := ⟨g, off + i * 2, none⟩) hgl).trans (HC.out (i * 2) (by omega))).trans v0
      have q1 := ((hb.cell (p := ⟨g, off + (i * 2 + 1), none⟩) hgl).trans (HC.out (i * 2 + 1) (by omega))).trans v1
      rw [← Nat.add_assoc] at q1
      have hgw : g ≠ wr.heap.size := by omega
      have hil : (i : Int) < n := by omega
      have ht := Lib.hid (show ds.take (i + 1) = ds.take i ++ [x] by rw [List.take_add_one, hx]; rfl)
      have n1 : i + 1 ≤ maxLen := by unfold maxLen; omega
      have n2 : (i + 1) * 32 ≤ 140737488355328 := by omega
      obtain ⟨oa, oc, rfl⟩ := hown.slice
      obtain ⟨Y, hY⟩ : ∃ Y, Y = (wr.alloc (.cells #[.string (bs x.n), .string (bs x.v)] 74)).alloc (.cells #[.string (bs x.n), .string (bs x.v)] 118) := ⟨_, rfl⟩
      have hownY : Sl Y w.heap.size 2 (.slice oa i oc) i (prc (ds.take i)) := by rw [hY]; exact (hown.alloc _).alloc _
      have hlit : ∀ j u, [Value.string (bs x.n), .string (bs x.v)][j]? = some u → Y.cell? ((⟨wr.heap.size + 1, 0, none⟩ : Addr).add j) = some u := by
        have := (Sl.lit (wr.alloc (.cells #[.string (bs x.n), .string (bs x.v)] 74)) 0 2 1 #[.string (bs x.n), .string (bs x.v)] 118 (Nat.zero_le _) (by decide) rfl).cells
        rw [World.size_alloc] at this
        rw [hY]; exact this
      have hbY : w.heap.size ≤ Y.heap.size := by rw [hY]; simp; omega
      have hbelY : Below w.heap.size w Y := by rw [hY]; exact (hb.alloc hbz _).alloc (by simp; omega) _
      have HY := Lib.hid hY
      clear v0 v1 hx hY
      go_wp2_with (at_builtin; rw [← HY.out]; refine wpList_append_sl _ rfl _ _ 65 rfl w.heap.size 118 i0 (.agg #[.string ⟨#[]⟩, .string ⟨#[]⟩]) 2 32 Tryz.underlying65 Hi.out Hz.out Hs.out Hb.out rfl (by decide) _ i _ rfl hownY ⟨wr.heap.size + 1, 0, none⟩ 1 1 [.string (bs x.n), .string (bs x.v)] rfl rfl hlit (prc_one [x]) n1 n2 hbY ?_; intro v' w3 hx3)
      refine ⟨⟨i + 1, by simp, by omega, ?_, hbelY.trans (hx3.below (Nat.le_refl _) hbY)⟩, by simp [intOf]; omega⟩
      rw [ht.out, prc_append]
      exact hx3.now
    · have hin : i = n := by omega
      subst hin
      have he : ds.take i = ds := List.take_of_length_le (by have := HN.out; omega)
      rw [he] at hown
      clear he
      obtain ⟨oa, oc, rfl⟩ := hown.slice
      have hil : ¬ (i : Int) < i := by omega
      have HO := Lib.hid hown
      clear hown
      go_wp2
      go_ret
      exact ⟨_, rfl, by rw [← HN.out]; exact HO.out, hb⟩

theorem neq_rp (x y : Pr) (w : World) : (binOp BinOp.neq 118 (.agg #[.string (bs x.n), .string (bs x.v)]) (.agg #[.string (bs y.n), .string (bs y.v)])).run Tryz.prog w = .ok (.bool (!decide (x = y))) w := by
  have u9 := Tryz.underlying9
  have a9 := Tryz.isAgg9
  have z9 := Tryz.sizeOf9
  have hT := bs_toList
  rw [run_neq_struct, show (10000 : Nat) = 9999 + 1 from rfl, run_equalIn_agg w 9999 118 _ _ (by kernel_rfl) (by kernel_rfl)]
  simp only [Program.fieldsOf, Tryz.underlying118]
  go_simp
  cases x; cases y
  rename_i xn xv yn yv
  by_cases h1 : xn = yn <;> by_cases h2 : xv = yv <;> simp [h1, h2]
end Go.Proofs.YtfckgcckpfklaaaGreatDoor

namespace Go.Proofs.YtfckgcckpfklaaaGreatDoor
open Go.RowKit Go.Lib

theorem less_true {a b : List UInt8} (h : a < b) : Op.bytesLess a b = true := (less_lt a b).2 h
theorem less_false {a b : List UInt8} (h : ¬ a < b) : Op.bytesLess a b = false := by
  rw [Bool.eq_false_iff]
  exact fun e => h ((less_lt a b).1 e)

set_option maxHeartbeats 4000000 in
set_option maxRecDepth 100000 in
theorem rcmp_lb (u v : Value) (a b : List Pr) (w : World) (h : Rd w 2 u a.length (prc a)) (k : Rd w 2 v b.length (prc b)) (hm : a.length ≤ 1000000) (hm2 : b.length ≤ 1000000) :
    Calls Tryz.prog 35 #[u, v] w fun e w' => e = .returned (.int .i64 (cmpS a b)) ∧ Below w.heap.size w w' := by
  have hT := bs_toList
  obtain ⟨_, ua, ucap, g, off, rfl, hg, hc⟩ := h
  obtain ⟨_, va, vcap, g2, off2, rfl, hg2, hc2⟩ := k
  obtain ⟨n, hn⟩ : ∃ n, n = a.length := ⟨_, rfl⟩
  obtain ⟨m, hmm⟩ : ∃ m, m = b.length := ⟨_, rfl⟩
  rw [← hn] at hg hc hm ⊢
  rw [← hmm] at hg2 hc2 hm2 ⊢
  have HN := Lib.hid hn; have HM := Lib.hid hmm
  have HC := Lib.hid hc; have HC2 := Lib.hid hc2
  have HG := Lib.hid hg; have HG2 := Lib.hid hg2
  clear hn hmm hc hc2 hg hg2
  go_enter Tryz.func35, Tryz.ntmps35
  go_wp2_with fail
  go_loopw [5] (fun i' wr => ∃ (i : Nat), i' = .int .i64 i ∧ i ≤ n ∧ i ≤ m ∧ Hid (cmpS a b = cmpS (a.drop i) (b.drop i)) ∧ Below w.heap.size w wr) (fun i' _ => n - (intOf i').toNat)
  case atStart => exact ⟨0, rfl, by omega, by omega, rfl, Below.refl _ _⟩
  case round =>
    obtain ⟨i, rfl, hi, hj, hk, hb⟩ := hrel
    by_cases hlt : i < n ∧ i < m
    · obtain ⟨rfl, hgl⟩ := HG.out (by omega)
      obtain ⟨rfl, hgl2⟩ := HG2.out (by omega)
      obtain ⟨hin, him⟩ := hlt
      obtain ⟨x, hx⟩ : ∃ x, a[i]? = some x := ⟨a[i]'(by have := HN.out; omega), List.getElem?_eq_getElem (by have := HN.out; omega)⟩
      obtain ⟨v0, v1⟩ := prc_at a i x hx
      have q0 := ((hb.cell (p := ⟨g, off + i * 2, none⟩) hgl).trans (HC.out (i * 2) (by omega))).trans v0
      have q1 := ((hb.cell (p := ⟨g, off + (i * 2 + 1), none⟩) hgl).trans (HC.out (i * 2 + 1) (by omega))).trans v1
      rw [← Nat.add_assoc] at q1
      have hd : a.drop i = x :: a.drop (i + 1) := by
        rw [List.drop_eq_getElem_cons (by have := HN.out; omega)]
        congr 1
        rw [List.getElem?_eq_getElem (by have := HN.out; omega)] at hx
        exact Option.some.inj hx
      obtain ⟨y, hy⟩ : ∃ y, b[i]? = some y := ⟨b[i]'(by have := HM.out; omega), List.getElem?_eq_getElem (by have := HM.out; omega)⟩
      obtain ⟨u0, u1⟩ := prc_at b i y hy
      have p0 := ((hb.cell (p := ⟨g2, off2 + i * 2, none⟩) hgl2).trans (HC2.out (i * 2) (by omega))).trans u0
      have p1 := ((hb.cell (p := ⟨g2, off2 + (i * 2 + 1), none⟩) hgl2).trans (HC2.out (i * 2 + 1) (by omega))).trans u1
      rw [← Nat.add_assoc] at p1
      have hd2 : b.drop i = y :: b.drop (i + 1) := by
        rw [List.drop_eq_getElem_cons (by have := HM.out; omega)]
        congr 1
        rw [List.getElem?_eq_getElem (by have := HM.out; omega)] at hy
        exact Option.some.inj hy
      have hgw : g ≠ wr.heap.size := by have := hb.size; omega
      have hgw2 : g2 ≠ wr.heap.size := by have := hb.size; omega
      have hil : (i : Int) < n := by omega
      have hjl : (i : Int) < m := by omega
      have ba := (Below.refl wr.heap.size wr).alloc (Nat.le_refl _) (Obj.cells #[.string (bs x.n), .string (bs x.v)] 118)
      have r0 := (ba.cell (p := ⟨g2, off2 + i * 2, none⟩) (by have := hb.size; show g2 < wr.heap.size; omega)).trans p0
      have r1 := (ba.cell (p := ⟨g2, off2 + i * 2 + 1, none⟩) (by have := hb.size; show g2 < wr.heap.size; omega)).trans p1
      have hkk := hk.out
      rw [hd, hd2, cmpS] at hkk
      have hne := fun W => neq_rp x y W
      have hbb := (hb.alloc hb.size (Obj.cells #[.string (bs x.n), .string (bs x.v)] 118)).alloc (by have := hb.size; simp; omega) (Obj.cells #[.string (bs y.n), .string (bs y.v)] 118)
      rcases ltP_tri x y with hl | hl | hl
      · have hcf : cfP x y = -1 := by have := (cfP_lt x y).2 hl; have := cfP_val x y; omega
        rw [hcf, if_neg (by omega)] at hkk
        have HQ := Lib.hid hkk
        rcases hl with hl | ⟨he, hl⟩
        · have f1 := less_true hl
          clear hkk hk hd hd2 v0 v1 u0 u1 hx hy hcf hne hl
          go_wp2
          go_ret
          exact ⟨by rw [HQ.out]; rfl, hbb⟩
        · have f1 : Op.bytesLess x.n y.n = false := less_false (by rw [he]; exact bytes_lt_irrefl _)
          have f2 : (x.n == y.n) = true := by simpa using he
          have f3 := less_true hl
          clear hkk hk hd hd2 v0 v1 u0 u1 hx hy hcf hne hl he
          go_wp2
          go_ret
          exact ⟨by rw [HQ.out]; rfl, hbb⟩
      · have hcf : cfP x y = 0 := (cfP_zero x y).2 hl
        rw [hcf, if_pos rfl] at hkk
        have HQ := Lib.hid hkk
        subst hl
        have f1 : Op.bytesLess x.n x.n = false := less_false (bytes_lt_irrefl _)
        have f2 : (x.n == x.n) = true := by simp
        have f3 : Op.bytesLess x.v x.v = false := less_false (bytes_lt_irrefl _)
        have hne' : ∀ W, (binOp BinOp.neq 118 (.agg #[.string (bs x.n), .string (bs x.v)]) (.agg #[.string (bs x.n), .string (bs x.v)])).run Tryz.prog W = .ok (.bool false) W := fun W => by rw [neq_rp]; simp
        clear hkk hk hd hd2 v0 v1 u0 u1 hx hy hcf hne
        go_wp2
        exact ⟨⟨i + 1, by simp, by omega, by omega, HQ.out, hbb⟩, by simp [intOf]; omega⟩
      · have hcf : cfP x y = 1 := by have := (cfP_lt y x).2 hl; rw [cfP_neg] at this; have := cfP_val x y; omega
        rw [hcf, if_neg (by omega)] at hkk
        have HQ := Lib.hid hkk
        have hxy : x ≠ y := fun e => by subst e; exact ltP_irrefl _ hl
        have hne' : ∀ W, (binOp BinOp.neq 118 (.agg #[.string (bs x.n), .string (bs x.v)]) (.agg #[.string (bs y.n), .string (bs y.v)])).run Tryz.prog W = .ok (.bool true) W := fun W => by rw [neq_rp]; simp [hxy]
        rcases hl with hl | ⟨he, hl⟩
        · have f1 : Op.bytesLess x.n y.n = false := less_false (fun k => bytes_lt_irrefl _ (bytes_lt_trans hl k))
          have f2 : (x.n == y.n) = false := by rw [beq_eq_false_iff_ne]; exact fun e => by rw [e] at hl; exact bytes_lt_irrefl _ hl
          clear hkk hk hd hd2 v0 v1 u0 u1 hx hy hcf hne hl hxy
          go_wp2
          go_ret
          exact ⟨by rw [HQ.out]; rfl, hbb⟩
        · have f1 : Op.bytesLess x.n y.n = false := less_false (by rw [he]; exact bytes_lt_irrefl _)
          have f2 : (x.n == y.n) = true := by simpa using he.symm
          have f3 : Op.bytesLess x.v y.v = false := less_false (fun k => bytes_lt_irrefl _ (bytes_lt_trans hl k))
          clear hkk hk hd hd2 v0 v1 u0 u1 hx hy hcf hne hl he hxy
          go_wp2
          go_ret
          exact ⟨by rw [HQ.out]; rfl, hbb⟩
    · by_cases hin : i < n
      · have him : i = m := by omega
        subst him
        have hd2 : b.drop i = [] := List.drop_eq_nil_of_le (by have := HM.out; omega)
        have hne : ∃ y r, a.drop i = y :: r := ⟨a[i]'(by have := HN.out; omega), a.drop (i + 1), List.drop_eq_getElem_cons (by have := HN.out; omega)⟩
        obtain ⟨y, r, hd⟩ := hne
        have hkk := hk.out
        rw [hd, hd2, cmpS] at hkk
        have HQ := Lib.hid hkk
        have hil : (i : Int) < n := by omega
        have hjl : ¬ (i : Int) < i := by omega
        have hnl : ¬ (n : Int) < i := by omega
        clear hkk hk hd hd2 hlt
        go_wp2
        go_ret
        exact ⟨by rw [HQ.out]; rfl, hb⟩
      · have hie : i = n := by omega
        subst hie
        have hd : a.drop i = [] := List.drop_eq_nil_of_le (by have := HN.out; omega)
        have hil : ¬ (i : Int) < i := by omega
        by_cases him : i < m
        · have hne : ∃ y r, b.drop i = y :: r := ⟨b[i]'(by have := HM.out; omega), b.drop (i + 1), List.drop_eq_getElem_cons (by have := HM.out; omega)⟩
          obtain ⟨y, r, hd2⟩ := hne
          have hkk := hk.out
          rw [hd, hd2, cmpS] at hkk
          have HQ := Lib.hid hkk
          have hjl : (i : Int) < m := by omega
          clear hkk hk hd hd2 hlt
          go_wp2
          go_ret
          exact ⟨by rw [HQ.out]; rfl, hb⟩
        · have hie : i = m := by omega
          subst hie
          have hd2 : b.drop i = [] := List.drop_eq_nil_of_le (by have := HM.out; omega)
          have hkk := hk.out
          rw [hd, hd2, cmpS] at hkk
          have HQ := Lib.hid hkk
          clear hkk hk hd hd2 hlt
          go_wp2
          go_ret
          exact ⟨by rw [HQ.out]; rfl, hb⟩

end Go.Proofs.YtfckgcckpfklaaaGreatDoor
