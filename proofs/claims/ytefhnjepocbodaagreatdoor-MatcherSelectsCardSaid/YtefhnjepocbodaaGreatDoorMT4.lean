/- Layer 12: lists cloned; Both, walked. The library's contracts, laid over this program. How many bits a number has (math/bits.Len64, Len). -/
import Derived.Test.YtefhnjepocbodaaGreatDoorMT3
import Derived.Shelf.Sort.Plain
import Derived.Shelf.Slices.In.SortNone
import Derived.Test.YtefhnjepocbodaaGreatDoorProg
import Derived.Test.YtefhnjepocbodaaGreatDoorMB0
import Derived.Lib.Tables
import Derived.Lib.BitFns
import Derived.Lib.Walk
import Derived.Deep.Light
namespace Go.Proofs.YtefhnjepocbodaaGreatDoor
open Go.RowKit Go.Lib

theorem run_isnil12 (a : Option Addr) (n c : Nat) (w : World) : (binOp BinOp.eql 39 (.slice a n c) (.slice none 0 0)).run Tryz.prog w = .ok (.bool a.isNone) w := by
  have hu := run_underlying Tryz.underlying39
  have he : (Op.equal 39 (.slice a n c) (.slice none 0 0)).run Tryz.prog w = .ok a.isNone w := by
    show (Op.equalIn (9999 + 1) _ _ _).run _ _ = _
    unfold Op.equalIn
    simp only [Sem.run_bind, hu, Result.andThen]
    cases a <;> rfl
  simp [binOp, go_sem, he]

theorem addr_add (g off j : Nat) : (⟨g, off, none⟩ : Addr).add j = ⟨g, off + j, none⟩ := by
  unfold Addr.add
  split
  · rename_i h; subst h; rfl
  · rfl

set_option maxHeartbeats 1000000 in
set_option maxRecDepth 100000 in
theorem nclone_any (v : Value) (l : List Int) (w : World) (h : Nc w v l) :
    Calls Tryz.prog 44 #[v] w (NewN w l) := by
  obtain ⟨i0, hi, hz0, hz1, hz2⟩ := info_parts bi_int
  have Hz := Lib.hid hz0; have Hs := Lib.hid hz1; have Hb := Lib.hid hz2; have Hi := Lib.hid hi
  clear hz0 hz1 hz2 hi
  obtain ⟨hl, a, cap, g, off, rfl, hc, h1, h2⟩ := h
  cases a with
  | none =>
    have hn := Lib.hid (show l = [] by
      rcases Nat.eq_zero_or_pos l.length with h | h
      · exact List.eq_nil_of_length_eq_zero h
      · exact absurd (h1 h).1 (by simp))
    clear h1 h2 hc hl
    obtain ⟨n, hnn⟩ : ∃ n, n = l.length := ⟨_, rfl⟩
    rw [← hnn]
    clear hnn
    have hq := fun W => run_isnil12 none n cap W
    go_enter Tryz.func44, Tryz.ntmps44
    go_wp2
    go_ret
    exact ⟨_, rfl, by rw [hn.out]; exact Sl.nil _ _ _, Below.refl _ _⟩
  | some p =>
    obtain ⟨n, hn⟩ : ∃ n, n = l.length := ⟨_, rfl⟩
    have HN := Lib.hid hn
    have n1 : 0 + n ≤ maxLen := by unfold maxLen; omega
    have n2 : (0 + n) * 8 ≤ 140737488355328 := by omega
    have HP := Lib.hid (show ∀ j u, (ic l)[j]? = some u → w.cell? (p.add j) = some u from fun j u hu => by
      have hj : j < l.length := by have := (List.getElem?_eq_some_iff.1 hu).1; rwa [ic_length] at this
      obtain ⟨e, hg⟩ := h1 (by omega)
      cases e
      have := h2 j l[j] (List.getElem?_eq_getElem hj)
      rw [ic_at l j l[j] (List.getElem?_eq_getElem hj)] at hu
      rw [← Option.some.inj hu, addr_add]; exact this)
    have HL := Lib.hid (show (ic l).length = n * 1 by rw [ic_length]; omega)
    have HPB := Lib.hid (show ∀ j u, (ic l)[j]? = some u → (p.add j).block < w.heap.size from fun j u hu => by
      have hj : j < l.length := by have := (List.getElem?_eq_some_iff.1 hu).1; rwa [ic_length] at this
      obtain ⟨e, hg⟩ := h1 (by omega)
      cases e
      rw [addr_add]; exact hg)
    rw [← hn] at hl hc ⊢
    clear hn h1 h2
    have hq := fun W => run_isnil12 (some p) n cap W
    go_enter Tryz.func44, Tryz.ntmps44
    go_wp2_with (at_builtin; refine wpList_append_sl _ rfl _ _ 39 rfl w.heap.size 3 i0 (.int .i64 0) 1 8 Tryz.underlying39 Hi.out Hz.out Hs.out Hb.out rfl (by decide) _ 0 _ rfl (Sl.lit w w.heap.size 1 0 #[] _ (Nat.le_refl _) (by decide) rfl) p n cap (ic l) rfl HL.out (fun j u hu => (Below.cell ((Below.refl w.heap.size w).alloc (Nat.le_refl _) _) (HPB.out j u hu)).trans (HP.out j u hu)) (ic_one _) n1 n2 (by simp) ?_; intro v' w1 hx)
    go_ret
    have hx1 := hx.now
    rw [Nat.zero_add] at hx1
    refine ⟨_, rfl, by rw [← HN.out]; exact hx1, ?_⟩
    exact ((Below.refl _ w).alloc (Nat.le_refl _) _).grown hx.grown (by simp) (fun k e => by have e2 : w.heap.size = k := Option.some.inj e; omega)

/-- Lists within their capacities, only read, in a slice. -/
def Ncs (w : World) (v : Value) (ls : List (List Int)) : Prop := ls.length ≤ 100000 ∧ ∃ a cap g off, v = .slice a ls.length cap ∧ ls.length ≤ cap ∧ (0 < ls.length → a = some ⟨g, off, none⟩ ∧ g < w.heap.size) ∧ ∀ j l, ls[j]? = some l → ∃ x, w.cell? ⟨g, off + j, none⟩ = some x ∧ Nc w x l
theorem Ncs.on {w w' : World} {v : Value} {ls : List (List Int)} (h : Ncs w v ls) (b : Below w.heap.size w w') : Ncs w' v ls := by
  obtain ⟨hl, a, cap, g, off, hv, hc, h1, h2⟩ := h
  refine ⟨hl, a, cap, g, off, hv, hc, fun hn => ⟨(h1 hn).1, Nat.lt_of_lt_of_le (h1 hn).2 b.size⟩, fun j l hx => ?_⟩
  have hn : 0 < ls.length := by have := (List.getElem?_eq_some_iff.1 hx).1; omega
  obtain ⟨x, hx1, hx2⟩ := h2 j l hx
  exact ⟨x, (b.cell (p := ⟨g, off + j, none⟩) (h1 hn).2).trans hx1, hx2.on b⟩
/-- What the first so many leave. -/
def accZ (l : List Int) (ls : List (List Int)) : List Int := ls.foldl (fun acc o => pickZ acc o true) l
theorem accZ_snoc (l : List Int) (ls : List (List Int)) (o : List Int) : accZ l (ls ++ [o]) = pickZ (accZ l ls) o true := by simp [accZ, List.foldl_append]
theorem accZ_len : ∀ (ls : List (List Int)) (l : List Int), (accZ l ls).length ≤ l.length
  | [], l => Nat.le_refl _
  | o :: ls, l => by
    have h1 := accZ_len ls (pickZ l o true)
    have h2 : (pickZ l o true).length ≤ l.length := List.length_filter_le _ _
    show (accZ (pickZ l o true) ls).length ≤ _
    omega

theorem slice_one (g off N cap k : Nat) (hN : N = k + 1) (hN3 : (N : Int) ≤ cap) : ∃ v' a' c', (∀ W, (Instr.slice 69 (.slice (some ⟨g, off, none⟩) N cap) (some (.int .i64 1)) none none).run Tryz.prog W = .ok v' W) ∧ v' = .slice a' k c' ∧ (0 < k → a' = some ⟨g, off + 1, none⟩) := by
  have hu := run_underlying Tryz.underlying69
  have hsz := Tryz.sizeOf39
  by_cases hcap : cap = 1
  · have hl0 : k = 0 := by omega
    have hN0 : N = 1 := by omega
    subst hcap hN0 hl0
    refine ⟨.slice (some ⟨g, off, none⟩) 0 0, some ⟨g, off, none⟩, 0, fun W => ?_, rfl, fun h => absurd h (by omega)⟩
    simp [Instr.slice, Instr.sliceBounds, go_sem, hu, hsz, Addr.add]
  · subst hN
    have hN2 : (1 : Int) ≤ ((k + 1 : Nat) : Int) := by omega
    refine ⟨.slice (some ⟨g, off + 1, none⟩) k (cap - 1), _, cap - 1, fun W => ?_, rfl, fun h => rfl⟩
    simp [Instr.slice, Instr.sliceBounds, go_sem, hu, hsz, hcap, Addr.add]
    omega

set_option maxHeartbeats 4000000 in
set_option maxRecDepth 100000 in
theorem both_any (v : Value) (ls : List (List Int)) (w : World) (h : Ncs w v ls) (hu : ∀ l ∈ ls, Up l) :
    Calls Tryz.prog 25 #[v] w (NewN w (bothP ls)) := by
  obtain ⟨hl, a, cap, g, off, rfl, hlc, hg, hc⟩ := h
  have hsz := Tryz.sizeOf39
  cases ls with
  | nil =>
    clear hg hc hu
    have hlc0 : (0 : Int) ≤ cap := by omega
    go_enter Tryz.func25, Tryz.ntmps25
    go_wp2_with fail
    go_ret
    exact ⟨_, rfl, Sl.lit w w.heap.size 1 0 #[] _ (Nat.le_refl _) (by decide) rfl, (Below.refl _ w).alloc (Nat.le_refl _) _⟩
  | cons l0 ls =>
    obtain ⟨rfl, hgl⟩ := hg (by simp)
    obtain ⟨x0, c0, hx0⟩ := hc 0 l0 rfl
    rw [Nat.add_zero] at c0
    obtain ⟨N, hN⟩ : ∃ N, N = (l0 :: ls).length := ⟨_, rfl⟩
    have HN := Lib.hid (show N = ls.length + 1 by rw [hN]; rfl)
    rw [← hN] at hl hlc ⊢
    have hN1 : 1 ≤ N := by have := HN.out; omega
    have hN2 : (1 : Int) ≤ N := by omega
    have hN3 : (N : Int) ≤ cap := by omega
    have e0 : ((N : Int) == 0) = false := by simp; omega
    have e1 : decide (0 < N) = true := by simp; omega
    have HC := Lib.hid (show ∀ j l, ls[j]? = some l → ∃ x, w.cell? ⟨g, off + 1 + j, none⟩ = some x ∧ Nc w x l from fun j l hj => by
      obtain ⟨x, h1, h2⟩ := hc (j + 1) l (by simpa using hj)
      exact ⟨x, by rw [Nat.add_assoc, Nat.add_comm 1 j]; exact h1, h2⟩)
    have HU0 := Lib.hid (hu l0 (by simp))
    have HUS := Lib.hid (show ∀ l ∈ ls, Up l from fun l hl => hu l (by simp [hl]))
    have HL0 := Lib.hid hx0.1
    have C0 := Lib.hid (nclone_any x0 l0 w hx0)
    have hr := slice_one g off N cap ls.length HN.out hN3
    obtain ⟨v', a', c', hr, rfl, ha'⟩ := hr
    have HA := Lib.hid ha'
    obtain ⟨M, hM⟩ : ∃ M, M = ls.length := ⟨_, rfl⟩
    rw [← hM] at hr HA
    have HM := Lib.hid hM
    have hM5 : M ≤ 100000 := by have := HN.out; omega
    clear hc hu hx0 hN hg hM ha'
    go_enter Tryz.func25, Tryz.ntmps25
    go_wp2_with fail
    refine C0.out.mono ?_
    rintro e w1 ⟨v1, rfl, s1, b1⟩
    obtain ⟨oa, oc, rfl⟩ := s1.slice
    have S1 := Lib.hid s1; have B1 := Lib.hid b1
    clear s1 b1
    go_wp2_with fail
    go_loopw [3, 17] (fun p' i' wr => ∃ (i m : Nat), i' = .int .i64 i ∧ i ≤ M ∧ Hid ((accZ l0 (ls.take i)).length = m) ∧ Sl wr w.heap.size 1 p' m (ic (accZ l0 (ls.take i))) ∧ Below w.heap.size w wr) (fun _ i' _ => M - (RowKit.intOf i').toNat)
    case atStart => exact ⟨0, _, rfl, by omega, rfl, S1.out, B1.out⟩
    case round =>
      obtain ⟨W0, rfl⟩ : ∃ W0, W0 = wr := ⟨_, rfl⟩
      obtain ⟨i, m, rfl, hi, hml, hs, hb⟩ := hrel
      have hacc := bothP_go (ls.take i) l0 HU0.out
      have hacl := accZ_len (ls.take i) l0
      have hl0 := HL0.out
      have hmm := hml.out
      have hnc : Nc W0 _ (accZ l0 (ls.take i)) := Nc.of_sl (by rw [hmm]; exact hs) (by omega)
      obtain ⟨pa, pc, rfl⟩ := hs.slice
      have HML := Lib.hid hml.out; have HS := Lib.hid hs; have HB := Lib.hid hb
      have HUP := Lib.hid (show Up (accZ l0 (ls.take i)) from hacc.1)
      have hbz := hb.size
      by_cases hlt : i < M
      · obtain rfl := HA.out (by omega)
        obtain ⟨o, ho⟩ : ∃ o, ls[i]? = some o := ⟨ls[i]'(by have := HM.out; omega), List.getElem?_eq_getElem (by have := HM.out; omega)⟩
        obtain ⟨x, hx, hxn⟩ := HC.out i o ho
        have c1 := (hb.cell (p := ⟨g, off + 1 + i, none⟩) hgl).trans hx
        have HTK := Lib.hid (show accZ l0 (ls.take (i + 1)) = pickZ (accZ l0 (ls.take i)) o true by rw [List.take_add_one, ho]; exact accZ_snoc _ _ o)
        have CP := Lib.hid (picked_any (.slice pa m pc) x (accZ l0 (ls.take i)) o true W0 hnc (hxn.on hb) HUP.out (HUS.out o (List.mem_of_getElem? ho)))
        have hil : (i : Int) < M := by omega
        clear hx hxn hacc hacl hmm hnc hml hs hb ho
        as_aux_lemma =>
        go_wp2_with fail
        refine CP.out.mono ?_
        rintro e w2 ⟨v2, rfl, s2, b2⟩
        obtain ⟨qa, qc, rfl⟩ := s2.slice
        have S2 := Lib.hid (s2.mono hbz); have B2 := Lib.hid (HB.out.trans (b2.mono hbz))
        clear s2 b2
        go_wp2_with fail
        exact ⟨⟨i + 1, _, by simp, by omega, by rw [HTK.out]; rfl, by rw [HTK.out]; exact S2.out, B2.out⟩, by simp [RowKit.intOf]; omega⟩
      · have hil : ¬ (i : Int) < M := by omega
        have hall : ls.take i = ls := List.take_of_length_le (by have := HM.out; omega)
        have HF := Lib.hid (show Sl W0 w.heap.size 1 (.slice pa m pc) (bothP (l0 :: ls)).length (ic (bothP (l0 :: ls))) by
          have h1 := HML.out; have h2 := HS.out
          rw [hall] at h1 h2
          show Sl W0 w.heap.size 1 (.slice pa m pc) (accZ l0 ls).length (ic (accZ l0 ls))
          rw [h1]; exact h2)
        clear hall hml hs hacc hacl hmm hnc
        go_wp2
        go_ret
        exact ⟨_, rfl, HF.out, hb⟩
end Go.Proofs.YtefhnjepocbodaaGreatDoor

namespace Go.Proofs.YtefhnjepocbodaaGreatDoor
open Go.Shelf Go.Proofs
def pdqInts_ren : Go.Shelf.Ren := ⟨fun | 257 => 126 | 294 => 140 | 295 => 141 | 296 => 142 | 297 => 143 | 298 => 144 | 299 => 145 | 216 => 73 | 300 => 146 | 301 => 147 | 328 => 158 | 329 => 133 | 330 => 134 | 331 => 159 | 332 => 160 | 215 => 98 | 125 => 89 | 343 => 165 | 128 => 117 | 129 => 118 | n => n, fun | 3 => 3 | 28 => 38 | 4 => 4 | 0 => 0 | 183 => 144 | 182 => 143 | 131 => 100 | 218 => 163 | 46 => 118 | 53 => 152 | 222 => 167 | 228 => 176 | 229 => 177 | 51 => 150 | 5 => 5 | 9 => 9 | n => n, fun | n => n⟩
theorem pdqInts : Go.Proofs.Lays.n257 Tryz.prog pdqInts_ren := {
  mixed := by kernel_rfl
  f125 := Tryz.func89.trans (congrArg some (by kernel_rfl))
  f128 := Tryz.func117.trans (congrArg some (by kernel_rfl))
  f129 := Tryz.func118.trans (congrArg some (by kernel_rfl))
  f215 := Tryz.func98.trans (congrArg some (by kernel_rfl))
  f216 := Tryz.func73.trans (congrArg some (by kernel_rfl))
  f257 := Tryz.func126.trans (congrArg some (by kernel_rfl))
  f294 := Tryz.func140.trans (congrArg some (by kernel_rfl))
  f295 := Tryz.func141.trans (congrArg some (by kernel_rfl))
  f296 := Tryz.func142.trans (congrArg some (by kernel_rfl))
  f297 := Tryz.func143.trans (congrArg some (by kernel_rfl))
  f298 := Tryz.func144.trans (congrArg some (by kernel_rfl))
  f299 := Tryz.func145.trans (congrArg some (by kernel_rfl))
  f300 := Tryz.func146.trans (congrArg some (by kernel_rfl))
  f301 := Tryz.func147.trans (congrArg some (by kernel_rfl))
  f328 := Tryz.func158.trans (congrArg some (by kernel_rfl))
  f329 := Tryz.func133.trans (congrArg some (by kernel_rfl))
  f330 := Tryz.func134.trans (congrArg some (by kernel_rfl))
  f331 := Tryz.func159.trans (congrArg some (by kernel_rfl))
  f332 := Tryz.func160.trans (congrArg some (by kernel_rfl))
  f343 := Tryz.func165.trans (congrArg some (by kernel_rfl))
  t0 := Tryz.underlying0
  a0 := Tryz.isAgg0
  z0 := Tryz.sizeOf0
  v0 := Tryz.zeroValue0
  t3 := Tryz.underlying3
  a3 := Tryz.isAgg3
  z3 := Tryz.sizeOf3
  v3 := Tryz.zeroValue3
  t4 := Tryz.underlying4
  a4 := Tryz.isAgg4
  z4 := Tryz.sizeOf4
  v4 := Tryz.zeroValue4
  t5 := Tryz.underlying5
  a5 := Tryz.isAgg5
  z5 := Tryz.sizeOf5
  v5 := Tryz.zeroValue5
  t9 := Tryz.underlying9
  a9 := Tryz.isAgg9
  z9 := Tryz.sizeOf9
  v9 := Tryz.zeroValue9
  t28 := Tryz.underlying38
  a28 := Tryz.isAgg38
  z28 := Tryz.sizeOf38
  v28 := Tryz.zeroValue38
  t46 := Tryz.underlying118
  a46 := Tryz.isAgg118
  z46 := Tryz.sizeOf118
  v46 := Tryz.zeroValue118
  t51 := Tryz.underlying150
  a51 := Tryz.isAgg150
  z51 := Tryz.sizeOf150
  v51 := Tryz.zeroValue150
  t53 := Tryz.underlying152
  a53 := Tryz.isAgg152
  z53 := Tryz.sizeOf152
  v53 := Tryz.zeroValue152
  t131 := Tryz.underlying100
  a131 := Tryz.isAgg100
  z131 := Tryz.sizeOf100
  v131 := Tryz.zeroValue100
  t182 := Tryz.underlying143
  a182 := Tryz.isAgg143
  z182 := Tryz.sizeOf143
  v182 := Tryz.zeroValue143
  t183 := Tryz.underlying144
  a183 := Tryz.isAgg144
  z183 := Tryz.sizeOf144
  v183 := Tryz.zeroValue144
  t218 := Tryz.underlying163
  a218 := Tryz.isAgg163
  z218 := Tryz.sizeOf163
  v218 := Tryz.zeroValue163
  t222 := Tryz.underlying167
  a222 := Tryz.isAgg167
  z222 := Tryz.sizeOf167
  v222 := Tryz.zeroValue167
  t228 := Tryz.underlying176
  a228 := Tryz.isAgg176
  z228 := Tryz.sizeOf176
  v228 := Tryz.zeroValue176
  t229 := Tryz.underlying177
  a229 := Tryz.isAgg177
  z229 := Tryz.sizeOf177
  v229 := Tryz.zeroValue177 }
end Go.Proofs.YtefhnjepocbodaaGreatDoor

namespace Go.Proofs.YtefhnjepocbodaaGreatDoor
open Go.RowKit

theorem tab_all : ∀ i : Fin 256, (Lib.len8tab.data.getD i.val 0).toNat = Lib.bitLen i.val := by decide +kernel
theorem tab_size : Lib.len8tab.size = 256 := by decide +kernel
theorem tab_get (y : Nat) (h : y < Lib.len8tab.size) : (Lib.len8tab[y]'h).toNat = Lib.bitLen y := by
  have h' : y < 256 := by have := tab_size; omega
  have := tab_all ⟨y, h'⟩
  rw [← this]
  have h2 : y < Lib.len8tab.data.size := h
  rw [Array.getD_eq_getD_getElem?, Array.getElem?_eq_getElem h2]
  rfl
theorem shift_len (x y k : Nat) (hx : x < 2 ^ 64) (hk : 2 ^ k ≤ x ∨ k = 0) (hy : y = x / 2 ^ k) : Lib.bitLen x = k + Lib.bitLen y := by
  subst hy
  rcases hk with h | rfl
  · exact Lib.bitLen_shift k x h hx
  · simp
theorem len_end (x m : Nat) (e : Int) (k : Nat) (hx2 : x ≤ 18446744073709551615) (hk : 2 ^ k ≤ x ∨ k = 0) (hm : m = x / 2 ^ k) (hk64 : k ≤ 56) (h : m < Lib.len8tab.size) (he : e = (k : Int) + wrap64 ((Lib.len8tab[m]'h).toNat : Int)) :
    wrap64 e = (Lib.bitLen x : Int) := by
  rw [tab_get m h] at he
  have h2 : m < 256 := Nat.lt_of_lt_of_eq h tab_size
  clear h
  have h8 := Lib.bitLen_le m 8 (by decide) h2
  have hs := shift_len x m k (Nat.lt_of_le_of_lt hx2 (by decide)) hk hm
  generalize Lib.bitLen m = q at *
  rw [hs, he]
  unfold wrap64
  omega

set_option maxHeartbeats 4000000 in
set_option maxRecDepth 100000 in
theorem len64_any (x : Int) (w : World) (h0 : 0 ≤ x) (h1 : x ≤ 18446744073709551615) :
    Calls Tryz.prog 118 #[.int .u64 x] w fun e w' => e = .returned (.int .i64 (Lib.bitLen x.toNat)) ∧ w = w' := by
  go_enter Tryz.func118, Tryz.ntmps118
  go_wp2
  all_goals first
    | (go_ret; refine ⟨congrArg Ending.returned (congrArg (Value.int IntKind.i64) ?_), rfl⟩; go_light)
    | (exfalso; go_light; have hs := tab_size; omega)
  all_goals first | exact len_end x.toNat _ _ 56 (by omega) (.inl (by omega)) (by omega) (by decide) _ rfl | exact len_end x.toNat _ _ 48 (by omega) (.inl (by omega)) (by omega) (by decide) _ rfl | exact len_end x.toNat _ _ 40 (by omega) (.inl (by omega)) (by omega) (by decide) _ rfl | exact len_end x.toNat _ _ 32 (by omega) (.inl (by omega)) (by omega) (by decide) _ rfl | exact len_end x.toNat _ _ 24 (by omega) (.inl (by omega)) (by omega) (by decide) _ rfl | exact len_end x.toNat _ _ 16 (by omega) (.inl (by omega)) (by omega) (by decide) _ rfl | exact len_end x.toNat _ _ 8 (by omega) (.inl (by omega)) (by omega) (by decide) _ rfl | exact len_end x.toNat x.toNat _ 0 (by omega) (.inr rfl) (by simp) (by decide) (by omega) (by simp)

theorem len_any (x : Nat) (w : World) (h1 : x < 9223372036854775808) :
    Calls Tryz.prog 89 #[.int .u64 x] w fun e w' => e = .returned (.int .i64 (Lib.bitLen x)) ∧ w = w' := by
  have H := Lib.hid (fun W : World => show Calls Tryz.prog 118 #[.int .u64 x] W fun e w' => e = .returned (.int .i64 (Lib.bitLen x)) ∧ W = w' by
    have := len64_any x W (by omega) (by omega)
    rwa [Int.toNat_natCast] at this)
  go_enter Tryz.func89, Tryz.ntmps89
  go_wp2_with (go_at_call 118; refine (H.out _).mono ?_; rintro e w' ⟨rfl, rfl⟩)
  go_ret
  exact ⟨rfl, rfl⟩
end Go.Proofs.YtefhnjepocbodaaGreatDoor
