/- An append to whatever slice of one's own, as one step of a region that draws its order. Layer 12: the first series of an index. -/
import Derived.Test.YteheojiokbdgmaaGreatDoorMSl3
import Derived.Deep.RegionLaw
import Derived.Test.YteheojiokbdgmaaGreatDoorMSrtI
import Derived.Test.YteheojiokbdgmaaGreatDoorMDM
import Derived.Test.YteheojiokbdgmaaGreatDoorML8
import Derived.Lib.AppendZeros
import Derived.Deep.RegionHeld3
import Derived.RegionTactic
namespace Go.Proofs.YteheojiokbdgmaaGreatDoor
open Go.RowKit Go.Lib

theorem step_append_sl {P : Program} {ops : Array Oper} {o : Oper} {a : Act} {w : World} {K : Act → World → Prop} {Q : Exit → Act → World → Prop} {E : Prop}
    (hg : o.guard = none) (s x : Operand) (t : TypeId) (ho : o.op = Op.call { callee := Callee.builtin Builtin.append, args := #[s, x], argTypes := #[t, t] })
    (base : Nat) (e : TypeId) (i : TypeInfo) (z : Value) (size bytes : Nat) (ht : P.underlying t = some (.slice e)) (hi : P.info? e = some i) (hz : i.zero = some z)
    (hsize : i.size = size) (hby : i.bytes = bytes) (hzs : z.cells.size = size) (hsz : 0 < size)
    (v : Value) (n : Nat) (xs : List Value) (hs : a.eval s = v) (hown : Sl w base size v n xs)
    (ad : Addr) (m c : Nat) (news : List Value) (hx : a.eval x = .slice (some ad) m c) (hl : news.length = m * size) (hnews : ∀ j u, news[j]? = some u → w.cell? (ad.add j) = some u) (h1 : ∀ u ∈ news, u.oneCell' = true)
    (h63 : n + m ≤ maxLen) (hbytes : (n + m) * bytes ≤ 140737488355328) (hbase : base ≤ w.heap.size)
    (hK : ∀ v' w', Ext base size w v n xs w' v' (n + m) (xs ++ news) → K (a.put o.dst v') w') :
    if Region.wanted o (yielded ops a.tmps) = true then Oper.wp P o a w K Q else E := by
  have hw : Region.wanted o (yielded ops a.tmps) = true := by simp [Region.wanted, hg]
  rw [if_pos hw]
  obtain ⟨v', w', hr, h2⟩ := run_append_sl (P := P) w base t o.type e i z size bytes ht hi hz hsize hby hzs hsz v n xs hown ad m c news hl hnews h1 h63 hbytes hbase
  unfold Oper.wp
  simp [execOp, ho, resolve, invoke, builtin, hs, hx, hr, Result.andThen]
  exact hK v' w' h2
end Go.Proofs.YteheojiokbdgmaaGreatDoor

namespace Go.Proofs.YteheojiokbdgmaaGreatDoor
open Go.RowKit Go.Lib

theorem append_types {P : Program} {w : World} {t u e ty : TypeId} {a : Option Addr} {n c : Nat} {i : TypeInfo} {x : Value} (hi : P.info? e = some i) (ht : P.underlying t = some (.slice e)) (hu : P.underlying u = some (.slice e)) :
    (Builtin.append_ #[t, u] ty #[.slice a n c, x]).run P w = (Builtin.append_ #[t, t] ty #[.slice a n c, x]).run P w := by
  simp [Builtin.append_, run_underlying ht, run_underlying hu, sizeOf, typeInfo, hi]

set_option maxHeartbeats 1000000 in
set_option maxRecDepth 100000 in
theorem search_nil (n : Int) (w : World) : Calls Tryz.prog 44 #[.slice none 0 0, .int .i64 n] w fun e w' => e = .returned (.tuple #[.int .i64 0, .bool false]) ∧ w = w' := by
  go_enter Tryz.func44, Tryz.ntmps44
  go_wp2_with fail
  go_loopw [7, 8] (fun i' j' wr => i' = .int .i64 0 ∧ j' = .int .i64 0 ∧ w = wr) (fun _ _ _ => 0)
  case atStart => exact ⟨rfl, rfl, rfl⟩
  case round =>
    obtain ⟨rfl, rfl, rfl⟩ := hrel
    go_wp2
    go_ret2
    exact ⟨rfl, rfl⟩

set_option maxHeartbeats 1000000 in
set_option maxRecDepth 100000 in
theorem insert_nil (n : Int) (b : Nat) (w : World) (hb : w.cell? ⟨b, 0, none⟩ = some (.int .i64 n)) : Calls Tryz.prog 45 #[.slice none 0 0, .int .i64 0, .slice (some ⟨b, 0, none⟩) 1 1] w (NewN w [n]) := by
  obtain ⟨i0, hi, hz0, hz1, hz2⟩ := info_parts bi_int
  obtain ⟨v', w', hr, hx⟩ := run_append_sl (P := Tryz.prog) w w.heap.size 36 36 3 i0 (.int .i64 0) 1 8 Tryz.underlying36 hi hz0 hz1 hz2 rfl (by decide) (.slice none 0 0) 0 [] (Sl.nil _ _ _) ⟨b, 0, none⟩ 1 1 (ic [n]) rfl (fun j u hu => by
    have hj := (List.getElem?_eq_some_iff.1 hu).1
    obtain rfl : j = 0 := by simp [ic] at hj; omega
    rw [Addr.add_lit]
    rw [hb]; exact hu) (ic_one [n]) (by decide) (by decide) (Nat.le_refl _)
  have hr2 := (append_types (x := .slice (some ⟨b, 0, none⟩) 1 1) (w := w) (a := none) (n := 0) (c := 0) (ty := 36) hi Tryz.underlying36 Tryz.underlying28).trans hr
  have hs := hx.now
  rw [List.nil_append, Nat.zero_add] at hs
  have HS := Lib.hid hs
  have HB := Lib.hid (hx.below (B := w.heap.size) (Nat.le_refl _) (Nat.le_refl _))
  clear hi hz0 hz1 hz2 hr hx hs
  go_enter Tryz.func45, Tryz.ntmps45
  go_wp2_with (at_builtin; refine Lib.wpList_append_run _ rfl _ _ _ _ rfl _ _ rfl rfl _ _ hr2 ?_)
  go_ret
  exact ⟨_, rfl, HS.out, HB.out⟩

set_option maxHeartbeats 1000000 in
set_option maxRecDepth 100000 in
theorem with_nil (n : Int) (w : World) : Calls Tryz.prog 32 #[.slice none 0 0, .int .i64 n] w (NewN w [n]) := by
  have C := Lib.hid (fun W => search_nil n W)
  have hc : (w.alloc (.cells #[.int .i64 n] 28)).cell? ⟨w.heap.size, 0, none⟩ = some (.int .i64 n) := Lib.cell_of_heap (heap_alloc_new w _) 0
  have hc2 : (w.alloc (.cells #[.int .i64 n] 3)).cell? ⟨w.heap.size, 0, none⟩ = some (.int .i64 n) := Lib.cell_of_heap (heap_alloc_new w _) 0
  have D := Lib.hid (insert_nil n w.heap.size (w.alloc (.cells #[.int .i64 n] 3)) hc2)
  clear hc hc2
  go_enter Tryz.func32, Tryz.ntmps32
  go_wp2_with fail
  refine (C.out _).mono ?_
  rintro e w1 ⟨rfl, rfl⟩
  go_wp2_with fail
  refine D.out.mono ?_
  rintro e w2 ⟨v2, rfl, s2, b2⟩
  go_wp2
  go_ret
  exact ⟨_, rfl, s2.mono (by simp), ((Below.refl _ _).alloc (Nat.le_refl _) _).trans (b2.mono (by simp))⟩
end Go.Proofs.YteheojiokbdgmaaGreatDoor
