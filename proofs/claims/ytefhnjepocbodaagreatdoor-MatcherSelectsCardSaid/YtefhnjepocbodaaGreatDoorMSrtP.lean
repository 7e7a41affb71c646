/- The library's contracts, laid over this program. Layer 6: pairs as cells; two pairs compared. Layer 6: pairs sorted where they lie. -/
import Derived.Shelf.SlSortCmp.WholeK
import Derived.Test.YtefhnjepocbodaaGreatDoorProg
import Derived.Test.YtefhnjepocbodaaGreatDoorMDM
import Derived.Test.YtefhnjepocbodaaGreatDoorMT4
import Derived.Test.YtefhnjepocbodaaGreatDoorMK1
namespace Go.Proofs.YtefhnjepocbodaaGreatDoor
open Go.Shelf Go.Proofs
def sortPair_ren : Go.Shelf.Ren := ⟨fun | 14 => 88 | 20 => 109 | 21 => 110 | 22 => 111 | 23 => 112 | 24 => 113 | 25 => 114 | 26 => 115 | 27 => 116 | 46 => 132 | 47 => 133 | 48 => 134 | 49 => 135 | 50 => 136 | 15 => 89 | 57 => 148 | 28 => 117 | 29 => 118 | n => n, fun | 24 => 53 | 22 => 47 | 3 => 3 | 25 => 113 | 4 => 4 | 0 => 0 | 46 => 144 | 45 => 143 | 50 => 100 | 66 => 163 | 39 => 118 | 55 => 152 | 70 => 167 | 76 => 176 | 77 => 177 | 53 => 150 | 5 => 5 | 9 => 9 | n => n, fun | n => n⟩
theorem sortPair : Go.Proofs.SlLaysF0.n14 Tryz.prog sortPair_ren := {
  mixed := by kernel_rfl
  f14 := ⟨Tryz.f88.name, by decide, Tryz.func88.trans (congrArg some (by kernel_rfl))⟩
  f15 := Tryz.func89.trans (congrArg some (by kernel_rfl))
  f20 := ⟨Tryz.f109.name, by decide, Tryz.func109.trans (congrArg some (by kernel_rfl))⟩
  f21 := ⟨Tryz.f110.name, by decide, Tryz.func110.trans (congrArg some (by kernel_rfl))⟩
  f22 := ⟨Tryz.f111.name, by decide, Tryz.func111.trans (congrArg some (by kernel_rfl))⟩
  f23 := ⟨Tryz.f112.name, by decide, Tryz.func112.trans (congrArg some (by kernel_rfl))⟩
  f24 := ⟨Tryz.f113.name, by decide, Tryz.func113.trans (congrArg some (by kernel_rfl))⟩
  f25 := ⟨Tryz.f114.name, by decide, Tryz.func114.trans (congrArg some (by kernel_rfl))⟩
  f26 := ⟨Tryz.f115.name, by decide, Tryz.func115.trans (congrArg some (by kernel_rfl))⟩
  f27 := ⟨Tryz.f116.name, by decide, Tryz.func116.trans (congrArg some (by kernel_rfl))⟩
  f28 := Tryz.func117.trans (congrArg some (by kernel_rfl))
  f29 := Tryz.func118.trans (congrArg some (by kernel_rfl))
  f46 := ⟨Tryz.f132.name, by decide, Tryz.func132.trans (congrArg some (by kernel_rfl))⟩
  f47 := Tryz.func133.trans (congrArg some (by kernel_rfl))
  f48 := Tryz.func134.trans (congrArg some (by kernel_rfl))
  f49 := ⟨Tryz.f135.name, by decide, Tryz.func135.trans (congrArg some (by kernel_rfl))⟩
  f50 := ⟨Tryz.f136.name, by decide, Tryz.func136.trans (congrArg some (by kernel_rfl))⟩
  f57 := ⟨Tryz.f148.name, by decide, Tryz.func148.trans (congrArg some (by kernel_rfl))⟩
  t0 := Tryz.underlying0
  a0 := Tryz.isAgg0
  z0 := Tryz.sizeOf0
  v0 := Tryz.zeroValue0
  t3 := Tryz.underlying3
  a3 := Tryz.isAgg3
  z3 := Tryz.sizeOf3
  v3 := Tryz.zeroValue3
  t4 := Tryz.underlying4
  a4 := Tryz.isAgg4
  z4 := Tryz.sizeOf4
  v4 := Tryz.zeroValue4
  t5 := Tryz.underlying5
  a5 := Tryz.isAgg5
  z5 := Tryz.sizeOf5
  v5 := Tryz.zeroValue5
  t9 := Tryz.underlying9
  a9 := Tryz.isAgg9
  z9 := Tryz.sizeOf9
  v9 := Tryz.zeroValue9
  t22 := Tryz.underlying47
  a22 := Tryz.isAgg47
  z22 := Tryz.sizeOf47
  v22 := Tryz.zeroValue47
  t25 := Tryz.underlying113
  a25 := Tryz.isAgg113
  z25 := Tryz.sizeOf113
  v25 := Tryz.zeroValue113
  t39 := Tryz.underlying118
  a39 := Tryz.isAgg118
  z39 := Tryz.sizeOf118
  v39 := Tryz.zeroValue118
  t45 := Tryz.underlying143
  a45 := Tryz.isAgg143
  z45 := Tryz.sizeOf143
  v45 := Tryz.zeroValue143
  t46 := Tryz.underlying144
  a46 := Tryz.isAgg144
  z46 := Tryz.sizeOf144
  v46 := Tryz.zeroValue144
  t50 := Tryz.underlying100
  a50 := Tryz.isAgg100
  z50 := Tryz.sizeOf100
  v50 := Tryz.zeroValue100
  t53 := Tryz.underlying150
  a53 := Tryz.isAgg150
  z53 := Tryz.sizeOf150
  v53 := Tryz.zeroValue150
  t55 := Tryz.underlying152
  a55 := Tryz.isAgg152
  z55 := Tryz.sizeOf152
  v55 := Tryz.zeroValue152
  t66 := Tryz.underlying163
  a66 := Tryz.isAgg163
  z66 := Tryz.sizeOf163
  v66 := Tryz.zeroValue163
  t70 := Tryz.underlying167
  a70 := Tryz.isAgg167
  z70 := Tryz.sizeOf167
  v70 := Tryz.zeroValue167
  t76 := Tryz.underlying176
  a76 := Tryz.isAgg176
  z76 := Tryz.sizeOf176
  v76 := Tryz.zeroValue176
  t77 := Tryz.underlying177
  a77 := Tryz.isAgg177
  z77 := Tryz.sizeOf177
  v77 := Tryz.zeroValue177 }
end Go.Proofs.YtefhnjepocbodaaGreatDoor

namespace Go.Proofs.YtefhnjepocbodaaGreatDoor
open Go.RowKit Go.Lib

/-- A name, and what it says. -/
structure Pr where
  n : List UInt8
  v : List UInt8
deriving DecidableEq
instance : Inhabited Pr := ⟨⟨[], []⟩⟩
def encP (x : Pr) : List Value := [.string (bs x.n), .string (bs x.v)]
def prV (x : Pr) : Value := .agg #[.string (bs x.n), .string (bs x.v)]
def prc (ds : List Pr) : List Value := ds.flatMap encP
theorem prc_length (ds : List Pr) : (prc ds).length = ds.length * 2 := by
  induction ds with
  | nil => rfl
  | cons x ds ih => simp only [prc, List.flatMap_cons, List.length_append, List.length_cons, encP, List.length_nil] at *; omega
theorem prc_append (a b : List Pr) : prc (a ++ b) = prc a ++ prc b := by simp [prc]
theorem prc_cons (a : Pr) (b : List Pr) : prc (a :: b) = encP a ++ prc b := by simp [prc]
theorem prc_get : ∀ (ds : List Pr) (t : Nat), t < ds.length * 2 → (prc ds)[t]? = some ((encP (ds.toArray[t / 2]!))[t % 2]!)
  | [], t, h => by simp at h
  | x :: ds, t, h => by
    rw [prc_cons]
    by_cases ht : t < 2
    · have h0 : t / 2 = 0 := by omega
      have h1 : t % 2 = t := by omega
      rw [h0, h1, List.getElem?_append_left (by simpa [encP] using ht)]
      have : t = 0 ∨ t = 1 := by omega
      rcases this with rfl | rfl <;> rfl
    · obtain ⟨u, rfl⟩ : ∃ u, t = u + 2 := ⟨t - 2, by omega⟩
      have h0 : (u + 2) / 2 = u / 2 + 1 := by omega
      have h1 : (u + 2) % 2 = u % 2 := by omega
      have hl : (encP x).length = 2 := rfl
      rw [h0, h1, List.getElem?_append_right (by omega), hl, Nat.add_sub_cancel, prc_get ds u (by simp at h; omega)]
      simp
theorem prc_at : ∀ (ds : List Pr) (j : Nat) (x : Pr), ds[j]? = some x → (prc ds)[j * 2]? = some (.string (bs x.n)) ∧ (prc ds)[j * 2 + 1]? = some (.string (bs x.v))
  | [], j, x, h => by simp at h
  | y :: ds, 0, x, h => by
    simp at h; subst h
    exact ⟨rfl, rfl⟩
  | y :: ds, j + 1, x, h => by
    have ih := prc_at ds j x (by simpa using h)
    have hl : (encP y).length = 2 := rfl
    rw [prc_cons, List.getElem?_append_right (by omega), List.getElem?_append_right (by omega), hl]
    rw [show (j + 1) * 2 - 2 = j * 2 by omega, show (j + 1) * 2 + 1 - 2 = j * 2 + 1 by omega]
    exact ih

/-- Two pairs compared: by names, then by values. -/
def cfP (x y : Pr) : Int := if Lib.compareBytes x.n y.n = 0 then Lib.compareBytes x.v y.v else Lib.compareBytes x.n y.n

set_option maxHeartbeats 1000000 in
set_option maxRecDepth 100000 in
theorem cmps0_any (a b : ByteArray) (w : World) :
    Calls Tryz.prog 119 #[.string a, .string b] w fun e w' => e = .returned (.int .i64 (Lib.compareBytes a.data.toList b.data.toList)) ∧ w = w' := by
  go_enter Tryz.func119, Tryz.ntmps119
  go_wp2
  rw [run_callFunc_extern Tryz.func137 (by kernel_rfl) (by kernel_rfl) (by kernel_rfl) (e := Extern.BytealgCompare.compare) (by kernel_rfl), Lib.run_compareString]
  simp only [Result.andThen]
  rw [Oper.upon_value]
  go_wp2
  go_ret
  exact ⟨rfl, rfl⟩
theorem cmps_any (a b : ByteArray) (w : World) :
    Calls Tryz.prog 90 #[.string a, .string b] w fun e w' => e = .returned (.int .i64 (Lib.compareBytes a.data.toList b.data.toList)) ∧ w = w' := by
  go_enter Tryz.func90, Tryz.ntmps90
  go_wp2_with fail
  refine (cmps0_any a b _).mono ?_
  rintro e w1 ⟨rfl, rfl⟩
  go_wp2
  go_ret
  exact ⟨rfl, rfl⟩
theorem cmps_bs (a b : List UInt8) (r : Int) (hr : Lib.compareBytes a b = r) (w : World) :
    Calls Tryz.prog 90 #[.string (bs a), .string (bs b)] w fun e w' => e = .returned (.int .i64 r) ∧ w = w' := by
  subst hr
  exact cmps_any (bs a) (bs b) w

set_option maxHeartbeats 1000000 in
set_option maxRecDepth 100000 in
theorem cmpp_any (x y : Pr) (w : World) :
    Calls Tryz.prog 65 #[prV x, prV y] w fun e w' => e = .returned (.int .i64 (cfP x y)) ∧ ∃ q os', w' = Sort.grow (w.drewN q) os' := by
  unfold cfP prV
  have H1 := Lib.hid (fun W => cmps_bs x.n y.n _ rfl W)
  have H2 := Lib.hid (fun W => cmps_bs x.v y.v _ rfl W)
  generalize Lib.compareBytes x.n y.n = r1 at H1 ⊢
  generalize Lib.compareBytes x.v y.v = r2 at H2 ⊢
  by_cases h : r1 = 0
  · rw [if_pos h]
    subst h
    go_enter Tryz.func65, Tryz.ntmps65
    go_wp2_with fail
    refine (H1.out _).mono ?_
    rintro e w1 ⟨rfl, rfl⟩
    go_wp2_with fail
    refine (H2.out _).mono ?_
    rintro e w1 ⟨rfl, rfl⟩
    go_wp2
    go_ret
    exact ⟨rfl, 0, _, by rw [Sort.alloc_eq_grow, Sort.alloc_eq_grow, Sort.grow_grow]; rfl⟩
  · rw [if_neg h]
    go_enter Tryz.func65, Tryz.ntmps65
    go_wp2_with fail
    refine (H1.out _).mono ?_
    rintro e w1 ⟨rfl, rfl⟩
    go_wp2
    go_ret
    exact ⟨rfl, 0, _, by rw [Sort.alloc_eq_grow, Sort.alloc_eq_grow, Sort.grow_grow]; rfl⟩
end Go.Proofs.YtefhnjepocbodaaGreatDoor

namespace Go.Proofs.YtefhnjepocbodaaGreatDoor
open Go.RowKit

theorem perm_of_in {α : Type} [Inhabited α] {d d' : Array α} (h : Sort.PermIn 0 d.size d d') : d'.toList.Perm d.toList := by
  obtain ⟨h1, _, h3⟩ := h
  have e1 : d'.extract 0 d.size = d' := by rw [← h1]; exact Array.extract_size
  have e2 : d.extract 0 d.size = d := Array.extract_size
  rw [e1, e2] at h3
  exact h3

/-- One pair ahead of another. -/
def ltP (x y : Pr) : Prop := x.n < y.n ∨ x.n = y.n ∧ x.v < y.v
theorem cfP_lt (x y : Pr) : cfP x y < 0 ↔ ltP x y := by
  unfold cfP ltP
  split
  · rename_i h
    rw [cmp_lt, (cmp_eq _ _).1 h]
    constructor
    · exact fun h => .inr ⟨rfl, h⟩
    · rintro (h | h)
      · exact absurd h (bytes_lt_irrefl _)
      · exact h.2
  · rename_i h
    rw [cmp_lt]
    constructor
    · exact fun h => .inl h
    · rintro (k | ⟨k, _⟩)
      · exact k
      · exact absurd ((cmp_eq _ _).2 k) h
theorem ltP_irrefl (x : Pr) : ¬ ltP x x := by
  rintro (h | h)
  · exact bytes_lt_irrefl _ h
  · exact bytes_lt_irrefl _ h.2
theorem ltP_trans {x y z : Pr} (h : ltP x y) (k : ltP y z) : ltP x z := by
  rcases h with h | ⟨e, h⟩
  · rcases k with k | ⟨e', k⟩
    · exact .inl (bytes_lt_trans h k)
    · exact .inl (by rw [← e']; exact h)
  · rcases k with k | ⟨e', k⟩
    · exact .inl (by rw [e]; exact k)
    · exact .inr ⟨e.trans e', bytes_lt_trans h k⟩
theorem ltP_tri (x y : Pr) : ltP x y ∨ x = y ∨ ltP y x := by
  rcases bytes_tri x.n y.n with h | h | h
  · exact .inl (.inl h)
  · rcases bytes_tri x.v y.v with k | k | k
    · exact .inl (.inr ⟨h, k⟩)
    · refine .inr (.inl ?_)
      cases x; cases y; simp at h k; rw [h, k]
    · exact .inr (.inr (.inr ⟨h.symm, k⟩))
  · exact .inr (.inr (.inl h))
theorem swoP : Sort.SWO (ltOf cfP) where
  irrefl x := by
    unfold ltOf
    rw [decide_eq_false_iff_not, cfP_lt]
    exact ltP_irrefl _
  trans x y z h k := by
    unfold ltOf at *
    rw [decide_eq_true_iff, cfP_lt] at *
    exact ltP_trans h k
  ntrans x y z h k := by
    unfold ltOf at *
    rw [decide_eq_false_iff_not, cfP_lt] at *
    intro hz
    rcases ltP_tri x y with e | e | e
    · exact h e
    · subst e; exact k hz
    · exact k (ltP_trans e hz)

set_option maxHeartbeats 1000000 in
theorem cmpPl (blk off size : Nat) (w : World) : CmpLays Tryz.prog 65 #[] encP 2 cfP blk off size w :=
  fun _ _ _ _ x y => cmpp_any x y _

theorem insn_any (p : Option Addr) (cap : Nat) (fv : Value) (w : World) :
    Calls Tryz.prog 109 #[.slice p 0 cap, .int .i64 0, .int .i64 0, fv] w fun e w' => e = .returned (.tuple #[]) ∧ w' = w := by
  go_enter Tryz.func109, Tryz.ntmps109
  go_wp2
  refine wp_loop_rounds 1 ?_
  rw [rounds_succ]
  go_wp2
  go_end0
  exact ⟨rfl, rfl⟩
theorem pdqn_any (p : Option Addr) (cap : Nat) (lim : Int) (fv : Value) (w : World) :
    Calls Tryz.prog 88 #[.slice p 0 cap, .int .i64 0, .int .i64 0, .int .i64 lim, fv] w fun e w' => e = .returned (.tuple #[]) ∧ w' = w := by
  have hi := Lib.hid (fun W => insn_any p cap fv W)
  go_enter Tryz.func88, Tryz.ntmps88
  go_wp2
  refine wp_loop_rounds 1 ?_
  rw [rounds_succ]
  go_wp2_with fail
  refine (hi.out _).mono ?_
  rintro e w' ⟨rfl, rfl⟩
  go_wp2
  (try simp only [Exit.inBlock, Exit.then])
  refine bodyPost_ret (results_none rfl _ _ _) rfl ?_
  exact ⟨rfl, rfl⟩

set_option maxHeartbeats 2000000 in
set_option maxRecDepth 100000 in
theorem sort_pr (v : Value) (ds : List Pr) (base : Nat) (w : World) (hs : Sl w base 2 v ds.length (prc ds)) (hlen : ds.length ≤ 1000000) :
    Calls Tryz.prog 64 #[v, .func (.func 65) #[] #[]] w fun e w' => e = .returned (.tuple #[]) ∧
      ∃ ds' : List Pr, ds'.Perm ds ∧ ds'.Pairwise (fun x y => ¬ ltP y x) ∧ Sl w' base 2 v ds.length (prc ds') ∧ Turn (fun k => v.ownBlock = some k) w w' := by
  rcases hs.2 with ⟨rfl, h0⟩ | ⟨g, off, cap, rfl, hb, hg, hnc, hcm, hfree, hcell⟩
  · have hnil : ds = [] := List.eq_nil_of_length_eq_zero h0
    subst hnil
    have HS := Lib.hid hs
    have HP := Lib.hid (fun lim W => pdqn_any none 0 lim (.func (.func 65) #[] #[]) W)
    have HL := Lib.hid (fun W => len_any 0 W (by omega))
    clear hs h0
    go_enter Tryz.func64, Tryz.ntmps64
    go_wp2_with fail
    refine (HL.out _).mono ?_
    rintro e w1 ⟨rfl, rfl⟩
    go_wp2_with fail
    refine (HP.out _ _).mono ?_
    rintro e w1 ⟨rfl, rfl⟩
    go_wp2
    go_end0
    exact ⟨rfl, [], List.Perm.refl _, List.Pairwise.nil, HS.out, Turn.refl _ _⟩
  · have hH : Sort.HoldsK encP 2 w g off ds.toArray := by
      intro t ht
      have ht' : t < ds.length * 2 := by simpa using ht
      have hc3 : ds.length * 2 ≤ cap * 2 := Nat.mul_le_mul_right _ hnc
      refine ⟨?_, (hfree t (by omega)).2⟩
      rw [hcell t ht', prc_get ds t ht', Sort.get_flatK _ _ _ _ (by simpa using ht)]
      rfl
    have eg : ∀ args w, (callFunc 65 args).run Tryz.prog w = .ok (.enter 65 args) w := enters_of Tryz.func65 (by kernel_rfl) rfl
    have hp := AnyQ.pdqsortCmpFunc_all sortPair 2 Tryz.isAgg53 Tryz.sizeOf53 encP cfP 65 #[] swoP g off cap ds.toArray w eg (cmpPl g off _ w) ⟨fun _ => rfl, fun x v hv => by simp [encP] at hv; rcases hv with rfl | rfl <;> rfl, hH, hg⟩ (ds.length + 1) 0 ds.length (Lib.bitLen ds.length) ds.toArray w (by omega) rfl (SWK.start hH) (Nat.zero_le _) (by simp) (by simp; omega) (Nat.lt_of_le_of_lt (Lib.bitLen_le ds.length 62 (by omega) (by omega)) (by omega)) (Or.inl rfl)
    have hpd := Sort.pdq_sorts (ltOf cfP) swoP ds.toArray 0 ds.length (Lib.bitLen ds.length) true true (Nat.zero_le _) (by simp) (Or.inl rfl)
    obtain ⟨d', hd'⟩ : ∃ d', d' = Sort.pdq (ltOf cfP) ds.toArray 0 ds.length (Lib.bitLen ds.length) true true := ⟨_, rfl⟩
    rw [← hd'] at hp hpd
    clear hd'
    rw [List.size_toArray] at hp
    have HP := Lib.hid (show Calls Tryz.prog 88 #[.slice (some ⟨g, off, none⟩) ds.length cap, .int .i64 0, .int .i64 ds.length, .int .i64 (Lib.bitLen ds.length), .func (.func 65) #[] #[]] w (fun e w' => e = .returned (.tuple #[]) ∧ SWK encP 2 w g off d' w') from hp)
    have HL := Lib.hid (fun W => len_any ds.length W (by omega))
    have HD := Lib.hid hpd
    have wr : IntKind.u64.wrap (ds.length : Int) = ds.length := by simp [IntKind.wrap, IntKind.bits, IntKind.signed]; omega
    have HH := Lib.hid hH
    have HF := Lib.hid hfree
    have HC := Lib.hid hcell
    clear hp hpd hH hfree hcell hs eg
    go_enter Tryz.func64, Tryz.ntmps64
    go_wp2_with fail
    refine (HL.out _).mono ?_
    rintro e w1 ⟨rfl, rfl⟩
    go_wp2_with fail
    refine HP.out.mono ?_
    rintro e w1 ⟨rfl, hw⟩
    go_wp2
    go_end0
    have hpd := HD.out; have hH := HH.out; have hfree := HF.out; have hcell := HC.out
    obtain ⟨n, os, rfl⟩ := hw
    obtain ⟨hp, hso⟩ := hpd
    have hds : d'.size = ds.length := by have := hp.1; simpa using this
    have hg' : g < (Sort.putRow id (Sort.ahead w n) g off (Sort.flatK encP 2 d')).heap.size := by simpa using hg
    have hcells : ∀ t, t < ds.length * 2 → (sortWorldK encP 2 w g off n d' os).cell? ⟨g, off + t, none⟩ = some ((encP (d'[t / 2]!))[t % 2]!) := fun t ht => by
      unfold sortWorldK Sort.putRowK
      rw [Sort.cell?_grow _ _ _ hg']
      have := Sort.cell?_putRow id (Sort.ahead w n) g off (Sort.flatK encP 2 ds.toArray) (Sort.flatK encP 2 d') hH (by simp [hds]) t (by simp; omega)
      rw [this, Sort.get_flatK _ _ _ _ (by rw [hds]; exact ht)]
      rfl
    refine ⟨rfl, d'.toList, perm_of_in (by simpa using hp), ?_, ⟨by rw [prc_length]; simp [hds], .inr ⟨g, off, cap, rfl, hb, by unfold sortWorldK Sort.putRowK; simp; omega, hnc, hcm, fun j hj => ⟨?_, ?_⟩, fun j hj => ?_⟩⟩, rfl, rfl, rfl, by unfold sortWorldK Sort.putRowK; simp, fun k hk hne => ?_⟩
    · rw [List.pairwise_iff_getElem]
      intro i j hi hj hij
      have h := hso i j (Nat.zero_le _) hij (by simp [hds] at hj ⊢; exact hj)
      unfold ltOf at h
      rw [decide_eq_false_iff_not, cfP_lt] at h
      have e1 : d'[i]! = d'.toList[i] := by simp [hds] at hi; simp [hds, hi]
      have e2 : d'[j]! = d'.toList[j] := by simp [hds] at hj; simp [hds, hj]
      rw [e1, e2] at h
      exact h
    · by_cases hjt : j < ds.length * 2
      · rw [hcells j hjt]; rfl
      · unfold sortWorldK Sort.putRowK
        rw [Sort.cell?_grow _ _ _ hg', Sort.cell?_putRow_other _ _ _ _ _ _ (.inr (.inr (by simp; omega)))]
        exact (hfree j hj).1
    · unfold sortWorldK Sort.putRowK
      rw [Sort.frozen?_grow _ _ _ hg', Sort.frozen?_putRow]
      exact (hfree j hj).2
    · rw [hcells j hj, prc_get d'.toList j (by simpa [hds] using hj)]
    · unfold sortWorldK Sort.putRowK
      rw [Sort.heap_grow_old _ _ (by simpa using hk)]
      have hgk : g ≠ k := fun e => hne (by rw [e]; rfl)
      simp [Sort.putRow, Sort.mapBlock, Sort.ahead, Array.getElem?_modify, hgk]
end Go.Proofs.YtefhnjepocbodaaGreatDoor
