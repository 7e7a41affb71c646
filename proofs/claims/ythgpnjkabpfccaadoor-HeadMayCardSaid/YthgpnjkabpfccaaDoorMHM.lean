/- Layer 15: Add of two points, walked. -/
import Derived.Test.YthgpnjkabpfccaaDoorMHK
namespace Go.Proofs.YthgpnjkabpfccaaDoor
open Go.RowKit Go.Lib

set_option maxHeartbeats 4000000 in
set_option maxRecDepth 100000 in
theorem add_two (b ms mi mp mh ml g off cap cs cp ch cl : Nat) (x y : List UInt8) (se sa wd T0 V0 T1 V1 : Int) (lv : Value) (K : ByteArray) (w : World) (h6 : Hd6 b ms mi mp mh ml) (hlt : HdLt b ms mi mp mh ml w.heap.size) (h : HdB b ms mi mp se sa wd 0 (-1) 0 0 0 w) (hs : MapIs ms [] cs w) (hp : MapIsJ mp [] cp w) (hx : IxB mi mh ml (.slice none 0 0) w) (hmh : MapIs mh [] ch w) (hml : MapIsJ ml [] cl w) (hr : Rd w 2 lv 1 (prc [⟨x, y⟩])) (PK : ∀ W, Rd W 2 lv 1 (prc [⟨x, y⟩]) → PtK lv K W) (hxy : x.length ≤ 100000000 ∧ y.length ≤ 100000000) (hlvS : ∀ k, lv.ownBlock = some k → ¬ S6 b ms mi mp mh ml k) (ho : lv.oneCell' = true)
    (hgS : ¬ S6 b ms mi mp mh ml g) (hgl : g < w.heap.size) (v0 : w.cell? ⟨g, off, none⟩ = some lv) (v1 : w.cell? ⟨g, off + 1, none⟩ = some (.int .i64 T0)) (v2 : w.cell? ⟨g, off + 2, none⟩ = some (.int .u64 V0)) (v3 : w.cell? ⟨g, off + 3, none⟩ = some lv) (v4 : w.cell? ⟨g, off + 4, none⟩ = some (.int .i64 T1)) (v5 : w.cell? ⟨g, off + 5, none⟩ = some (.int .u64 V1))
    (hT0 : 0 ≤ T0) (hT1 : T0 < T1) (hT2 : T1 ≤ 1099511627775) (hse : 1 ≤ se ∧ se ≤ 10000) (hsa : 2 ≤ sa ∧ sa ≤ 1048576) :
    Calls Tryd.prog 10 #[.pointer (some ⟨b, 0, none⟩), .slice (some ⟨g, off, none⟩) 2 cap] w fun e w' => e = .returned (.tuple #[]) ∧ OneS w.heap.size b ms mi mp cs se sa wd T1 2 K 2 [.int .i64 T0, .int .u64 V0, .int .i64 T1, .int .u64 V1] w' ∧ Turn (S6 b ms mi mp mh ml) w w' := by
  have A0 := Lib.hid (fun wr (hb : Below w.heap.size w wr) => (show (∀ q W, wr.heap.size ≤ q → Below wr.heap.size wr W → W.heap[q]? = some (.cells #[lv, .int .i64 T0, .int .u64 V0] 45) → Calls Tryd.prog 9 #[.pointer (some ⟨b, 0, none⟩), .slice (some ⟨q, 0, none⟩) 1 1] W fun e w' => e = .returned (.tuple #[.int .i64 (-1), .int .i64 0]) ∧ Below W.heap.size W w') from fun q W _ bW hq =>
    check_one b ms mi mp cs q [] se sa wd 0 (-1) 0 0 0 (-1) T0 V0 lv (.pointer none) K true 1 W (((hb.trans (bW.mono hb.size)).block b hlt.1).trans h) (Below.mapIs (hb.trans (bW.mono hb.size)) hs) hq ((PK w hr).on (hb.trans (bW.mono hb.size))) ho rfl (last_empty W) rfl rfl hT0 (by omega) (by omega) hT0 (by omega) hse.1 (by omega) (by decide) ⟨hse.2, hsa.2⟩))
  have A1 := Lib.hid (fun wr (h1 : OneS w.heap.size b ms mi mp cs se sa wd T0 1 K 1 [.int .i64 T0, .int .u64 V0] wr) (t1 : Turn (S6 b ms mi mp mh ml) w wr) => (show (∀ q W, Below wr.heap.size wr W → W.heap[q]? = some (.cells #[lv, .int .i64 T1, .int .u64 V1] 45) → Calls Tryd.prog 9 #[.pointer (some ⟨b, 0, none⟩), .slice (some ⟨q, 0, none⟩) 1 1] W fun e w' => e = .returned (.tuple #[.int .i64 (-1), .int .i64 0]) ∧ Below W.heap.size W w') from fun q W bW hq => by
    obtain ⟨p, lv', sv, H, M, S, sl, hpB, hsv⟩ := h1.on bW
    exact check_one b ms mi mp (cs + 1) q [⟨K, .pointer (some ⟨p, 0, none⟩), cs⟩] se sa wd 0 T0 1 1 1 T0 T1 V1 lv (.pointer (some ⟨p, 0, none⟩)) K false 1 W H M hq (PK W ((hr.turnT t1 hlvS).on bW)) ho (by simp [lookE]) (last_there p lv' K 1 1 w.heap.size 0 _ sv T0 W S sl (by decide) rfl) (by simp; omega) rfl (by omega) hT2 (by omega) (by omega) (by omega) hse.1 hsa.1 (by decide) ⟨hse.2, hsa.2⟩))
  have P0 := Lib.hid (fun q w3 (b3 : Below w.heap.size w w3) (hq : w3.heap[q]? = some (.cells #[lv, .int .i64 T0, .int .u64 V0] 45)) (hqw : w.heap.size ≤ q) => pack0 b ms mi mp mh ml cs cp ch cl q x y se sa wd T0 V0 lv K w w3 h6 hlt b3 h hs hp hx hmh hml hr PK hxy (by omega) hq hqw)
  have P1 := Lib.hid (fun q w1 w3 (h1 : OneS w.heap.size b ms mi mp cs se sa wd T0 1 K 1 [.int .i64 T0, .int .u64 V0] w1) (t1 : Turn (S6 b ms mi mp mh ml) w w1) (b3 : Below w1.heap.size w1 w3) (hq : w3.heap[q]? = some (.cells #[lv, .int .i64 T1, .int .u64 V1] 45)) => pack1 b ms mi mp mh ml cs q x y se sa wd T0 V0 T1 V1 lv K w w1 w3 h6 hlt h1 t1 b3 ((hr.turnT t1 hlvS).on b3) PK (by omega) hq)
  have V1F := Lib.hid (fun wr (t1 : Turn (S6 b ms mi mp mh ml) w wr) => (show wr.cell? ⟨g, off + 3, none⟩ = some lv ∧ wr.cell? ⟨g, off + 4, none⟩ = some (.int .i64 T1) ∧ wr.cell? ⟨g, off + 5, none⟩ = some (.int .u64 V1) from ⟨(t1.cell (p := ⟨g, off + 3, none⟩) hgl hgS).trans v3, (t1.cell (p := ⟨g, off + 4, none⟩) hgl hgS).trans v4, (t1.cell (p := ⟨g, off + 5, none⟩) hgl hgS).trans v5⟩))
  have V0F := Lib.hid (fun wr (hb : Below w.heap.size w wr) => (show wr.cell? ⟨g, off, none⟩ = some lv ∧ wr.cell? ⟨g, off + 1, none⟩ = some (.int .i64 T0) ∧ wr.cell? ⟨g, off + 2, none⟩ = some (.int .u64 V0) from ⟨(hb.cell (p := ⟨g, off, none⟩) hgl).trans v0, (hb.cell (p := ⟨g, off + 1, none⟩) hgl).trans v1, (hb.cell (p := ⟨g, off + 2, none⟩) hgl).trans v2⟩))
  clear h6 hlt h hs hp hx hmh hml hr PK hxy hlvS hgS hgl v0 v1 v2 v3 v4 v5 hT0 hT1 hT2 hse hsa
  go_enter Tryd.func10, Tryd.ntmps10
  go_wp2_with fail
  go_loopw [10] (fun i' wr => (i' = .int .i64 0 ∧ Below w.heap.size w wr) ∨ (i' = .int .i64 1 ∧ OneS w.heap.size b ms mi mp cs se sa wd T0 1 K 1 [.int .i64 T0, .int .u64 V0] wr ∧ Turn (S6 b ms mi mp mh ml) w wr) ∨ (i' = .int .i64 2 ∧ OneS w.heap.size b ms mi mp cs se sa wd T1 2 K 2 [.int .i64 T0, .int .u64 V0, .int .i64 T1, .int .u64 V1] wr ∧ Turn (S6 b ms mi mp mh ml) w wr)) (fun i' _ => 2 - (RowKit.intOf i').toNat)
  case atStart => exact .inl ⟨rfl, Below.refl _ _⟩
  case round =>
    rcases hrel with ⟨rfl, hb⟩ | ⟨rfl, h1, t1⟩ | ⟨rfl, h2, t2⟩
    · obtain ⟨c0, c1, c2⟩ := V0F.out wr hb
      have hnew := heap_alloc_new wr (.cells #[.slice none 0 0, .int .i64 0, .int .u64 0] 45)
      have hrow := World.setRow_alloc_new wr #[.slice none 0 0, .int .i64 0, .int .u64 0] #[lv, .int .i64 T0, .int .u64 V0] 45
      have hA1 := pt_one lv T0 V0 ho
      have Q1 : (wr.alloc (.cells #[lv, .int .i64 T0, .int .u64 V0] 45)).heap[wr.heap.size]? = some (.cells #[lv, .int .i64 T0, .int .u64 V0] 45) := heap_alloc_new _ _
      obtain ⟨W1, hW1⟩ : ∃ W1, W1 = wr.alloc (.cells #[lv, .int .i64 T0, .int .u64 V0] 45) := ⟨_, rfl⟩
      have b1 : Below wr.heap.size wr W1 := by rw [hW1]; exact (Below.refl _ _).alloc (Nat.le_refl _) _
      rw [← hW1] at Q1
      obtain ⟨q, hqq⟩ : ∃ q, q = wr.heap.size := ⟨_, rfl⟩
      rw [← hqq] at Q1
      have d0 : W1.cell? ⟨q, 0, none⟩ = some lv := Lib.cell_of_heap Q1 0
      have d1 : W1.cell? ⟨q, 1, none⟩ = some (.int .i64 T0) := Lib.cell_of_heap Q1 1
      have d2 : W1.cell? ⟨q, 2, none⟩ = some (.int .u64 V0) := Lib.cell_of_heap Q1 2
      have CK := Lib.hid (A0.out wr hb (q + 1) (W1.alloc (.cells #[lv, .int .i64 T0, .int .u64 V0] 45)) (by omega) (b1.trans ((Below.refl _ _).alloc b1.size _)) (heap_alloc_at (by rw [hW1, hqq]; simp)))
      have hb1 := hb.trans (b1.mono hb.size)
      have F3 := Lib.hid (fun w3 (b3 : Below (W1.alloc (.cells #[lv, .int .i64 T0, .int .u64 V0] 45)).heap.size (W1.alloc (.cells #[lv, .int .i64 T0, .int .u64 V0] 45)) w3) => P0.out q w3.drew (((hb1.trans ((Below.refl _ _).alloc hb1.size _)).trans (b3.mono (Nat.le_trans hb1.size (by simp)))).drew) (kept_below b3.drew (kept_alloc Q1)) (by rw [hqq]; exact hb.size))
      have G3 := Lib.hid (fun w3 (b3 : Below (W1.alloc (.cells #[lv, .int .i64 T0, .int .u64 V0] 45)).heap.size (W1.alloc (.cells #[lv, .int .i64 T0, .int .u64 V0] 45)) w3) => (show w3.cell? ⟨q, 0, none⟩ = some lv ∧ w3.cell? ⟨q, 1, none⟩ = some (.int .i64 T0) ∧ w3.cell? ⟨q, 2, none⟩ = some (.int .u64 V0) from ⟨Lib.cell_of_heap (kept_below b3 (kept_alloc Q1)) 0, Lib.cell_of_heap (kept_below b3 (kept_alloc Q1)) 1, Lib.cell_of_heap (kept_below b3 (kept_alloc Q1)) 2⟩))
      have HQ := Lib.hid hqq
      have HW1 := Lib.hid hW1
      clear hW1 hqq hb hb1 b1 Q1 A0 A1 P0 P1 V0F V1F
      go_wp2_with (refine wpList_store_row rfl 45 _ _ rfl wr.heap.size #[lv, .int .i64 T0, .int .u64 V0] rfl rfl 45 #[.slice none 0 0, .int .i64 0, .int .u64 0] hnew pt_size rfl hA1 ?_; rw [hrow])
      rw [← HW1.out, ← HQ.out]
      with_reducible refine CK.out.mono ?_
      rintro e w3 ⟨rfl, b3⟩
      obtain ⟨g0, g1, g2⟩ := G3.out w3 b3
      have NB := Lib.hid (F3.out w3 b3)
      clear hnew hrow hA1 d0 d1 d2 c0 c1 c2 CK F3 G3 b3 HQ HW1
      go_wp2_with fail
      go_region_law (first
        | (go_simp; go_at_call 19; refine NB.out.mono ?_; rintro e w4 ⟨p, rfl, ⟨x1, x2⟩, PT⟩; have PT := Lib.hid PT)
        | (go_simp; go_at_call 18; refine PT.out.mono ?_; rintro e w5 ⟨rfl, o5, t5⟩))
      all_goals go_wp2_with fail
      all_goals exact ⟨.inr (.inl ⟨by go_num, o5, t5⟩), by simp [RowKit.intOf]⟩
    · obtain ⟨c0, c1, c2⟩ := V1F.out wr t1
      have hnew := heap_alloc_new wr (.cells #[.slice none 0 0, .int .i64 0, .int .u64 0] 45)
      have hrow := World.setRow_alloc_new wr #[.slice none 0 0, .int .i64 0, .int .u64 0] #[lv, .int .i64 T1, .int .u64 V1] 45
      have hA1 := pt_one lv T1 V1 ho
      have Q1 : (wr.alloc (.cells #[lv, .int .i64 T1, .int .u64 V1] 45)).heap[wr.heap.size]? = some (.cells #[lv, .int .i64 T1, .int .u64 V1] 45) := heap_alloc_new _ _
      obtain ⟨W1, hW1⟩ : ∃ W1, W1 = wr.alloc (.cells #[lv, .int .i64 T1, .int .u64 V1] 45) := ⟨_, rfl⟩
      have b1 : Below wr.heap.size wr W1 := by rw [hW1]; exact (Below.refl _ _).alloc (Nat.le_refl _) _
      rw [← hW1] at Q1
      obtain ⟨q, hqq⟩ : ∃ q, q = wr.heap.size := ⟨_, rfl⟩
      rw [← hqq] at Q1
      have d0 : W1.cell? ⟨q, 0, none⟩ = some lv := Lib.cell_of_heap Q1 0
      have d1 : W1.cell? ⟨q, 1, none⟩ = some (.int .i64 T1) := Lib.cell_of_heap Q1 1
      have d2 : W1.cell? ⟨q, 2, none⟩ = some (.int .u64 V1) := Lib.cell_of_heap Q1 2
      have CK := Lib.hid (A1.out wr h1 t1 (q + 1) (W1.alloc (.cells #[lv, .int .i64 T1, .int .u64 V1] 45)) (b1.trans ((Below.refl _ _).alloc b1.size _)) (heap_alloc_at (by rw [hW1, hqq]; simp)))
      have F3 := Lib.hid (fun w3 (b3 : Below (W1.alloc (.cells #[lv, .int .i64 T1, .int .u64 V1] 45)).heap.size (W1.alloc (.cells #[lv, .int .i64 T1, .int .u64 V1] 45)) w3) => P1.out q wr w3.drew h1 t1 (((b1.trans ((Below.refl _ _).alloc b1.size _)).trans (b3.mono (Nat.le_trans b1.size (by simp)))).drew) (kept_below b3.drew (kept_alloc Q1)))
      have G3 := Lib.hid (fun w3 (b3 : Below (W1.alloc (.cells #[lv, .int .i64 T1, .int .u64 V1] 45)).heap.size (W1.alloc (.cells #[lv, .int .i64 T1, .int .u64 V1] 45)) w3) => (show w3.cell? ⟨q, 0, none⟩ = some lv ∧ w3.cell? ⟨q, 1, none⟩ = some (.int .i64 T1) ∧ w3.cell? ⟨q, 2, none⟩ = some (.int .u64 V1) from ⟨Lib.cell_of_heap (kept_below b3 (kept_alloc Q1)) 0, Lib.cell_of_heap (kept_below b3 (kept_alloc Q1)) 1, Lib.cell_of_heap (kept_below b3 (kept_alloc Q1)) 2⟩))
      have HQ := Lib.hid hqq
      have HW1 := Lib.hid hW1
      clear hW1 hqq h1 t1 b1 Q1 A0 A1 P0 P1 V0F V1F
      go_wp2_with (refine wpList_store_row rfl 45 _ _ rfl wr.heap.size #[lv, .int .i64 T1, .int .u64 V1] rfl rfl 45 #[.slice none 0 0, .int .i64 0, .int .u64 0] hnew pt_size rfl hA1 ?_; rw [hrow])
      rw [← HW1.out, ← HQ.out]
      with_reducible refine CK.out.mono ?_
      rintro e w3 ⟨rfl, b3⟩
      obtain ⟨g0, g1, g2⟩ := G3.out w3 b3
      have NB := Lib.hid (F3.out w3 b3)
      clear hnew hrow hA1 d0 d1 d2 c0 c1 c2 CK F3 G3 b3 HQ HW1
      go_wp2_with fail
      go_region_law (first
        | (go_simp; go_at_call 19; refine NB.out.mono ?_; rintro e w4 ⟨p, rfl, ⟨x1, x2⟩, PT⟩; have PT := Lib.hid PT)
        | (go_simp; go_at_call 18; refine PT.out.mono ?_; rintro e w5 ⟨rfl, o5, t5⟩))
      all_goals go_wp2_with fail
      all_goals exact ⟨.inr (.inr ⟨by go_num, o5, t5⟩), by simp [RowKit.intOf]⟩
    · go_wp2_with fail
      go_end0
      exact ⟨rfl, h2, t2⟩
end Go.Proofs.YthgpnjkabpfccaaDoor
