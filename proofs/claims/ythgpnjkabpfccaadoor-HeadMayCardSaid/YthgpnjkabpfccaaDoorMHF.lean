/- Layer 15: points checked. -/
import Derived.Test.YthgpnjkabpfccaaDoorMHE
import Derived.Laws.Tables
import Derived.Deep.WholeRow
namespace Go.Proofs.YthgpnjkabpfccaaDoor
open Go.RowKit Go.Lib

theorem pt_size : (Tryd.prog.info? 45).map (·.size) = some 3 := by kernel_rfl
theorem pt_one (lv : Value) (T V : Int) (h : lv.oneCell' = true) : (#[lv, .int .i64 T, .int .u64 V] : Array Value).all (·.oneCell') = true := by simpa [Value.oneCell'] using h
/-- Points in a slice. -/
def PtAt (w : World) (g off n : Nat) (lv : Nat → Value) (T V : Nat → Int) : Prop := g < w.heap.size ∧ ∀ k, k < n → (lv k).oneCell' = true ∧ w.cell? ⟨g, off + k * 3, none⟩ = some (lv k) ∧ w.cell? ⟨g, off + k * 3 + 1, none⟩ = some (.int .i64 (T k)) ∧ w.cell? ⟨g, off + k * 3 + 2, none⟩ = some (.int .u64 (V k))

set_option maxHeartbeats 2000000 in
set_option maxRecDepth 100000 in
theorem check_all (b ms mi mp cs g off n cap : Nat) (ss : List En) (se sa wd fl tp sm nu pl : Int) (lv : Nat → Value) (T V : Nat → Int) (ES : Nat → List En → Prop) (ns nsm : Nat → Int) (w : World) (hh : HdB b ms mi mp se sa wd fl tp sm nu pl w) (hms : MapIs ms ss cs w) (hn : n ≤ 1000000) (hp : PtAt w g off n lv T V) (he0 : ES 0 []) (hns : ns 0 = ss.length) (hnsm : nsm 0 = sm)
    (hst : ∀ k t lm c e W, k < n → w.heap.size ≤ t → w.heap.size ≤ lm → t ≠ lm → TrB t b lm (ns k) (nsm k) W → ES k e → MapIs lm e c W → Below w.heap.size w W → Calls Tryd.prog 17 #[.pointer (some ⟨t, 0, none⟩), .agg #[lv k, .int .i64 (T k), .int .u64 (V k)]] W fun e w' => e = .returned (.int .i64 0) ∧ ∃ c' e', TrB t b lm (ns (k + 1)) (nsm (k + 1)) w' ∧ ES (k + 1) e' ∧ MapIs lm e' c' w' ∧ Turn (fun k => k = t ∨ k = lm) W w') :
    Calls Tryd.prog 9 #[.pointer (some ⟨b, 0, none⟩), .slice (some ⟨g, off, none⟩) n cap] w fun e w' => e = .returned (.tuple #[.int .i64 (-1), .int .i64 0]) ∧ Below w.heap.size w w' := by
  have hmm := @run_makeMap Tryd.prog
  have b1 : Below w.heap.size w (w.alloc (.map #[] 0)) := (Below.refl _ _).alloc (Nat.le_refl _) _
  have SE := Lib.hid (series_hd b ms mi mp cs ss se sa wd fl tp sm nu pl _ ((b1.block b (hdB_lt hh)).trans hh) (Below.mapIs b1 hms))
  have SM := Lib.hid (samples_hd b ms mi mp se sa wd fl tp sm nu pl _ ((b1.block b (hdB_lt hh)).trans hh))
  have HM := Lib.hid (heap_alloc_new w (.map #[] 0))
  have HST := Lib.hid hst
  have HP := Lib.hid hp.2
  have hgl := hp.1
  have HB1 := Lib.hid b1
  rw [← hns] at SE
  rw [← hnsm] at SM
  clear hst hp hh hms b1 hns hnsm
  go_enter Tryd.func9, Tryd.ntmps9
  go_wp2_with fail
  refine SE.out.mono ?_
  rintro e w1 ⟨rfl, rfl⟩
  go_wp2_with fail
  refine SM.out.mono ?_
  rintro e w1 ⟨rfl, rfl⟩
  go_wp2_with fail
  obtain ⟨t, ht⟩ : ∃ t, t = w.heap.size + 1 := ⟨_, rfl⟩
  rw [← ht]
  have HT := Lib.hid ht
  clear ht
  go_loopw [19] (fun i' wr => ∃ (k : Nat), i' = .int .i64 k ∧ k ≤ n ∧ ∃ c e, TrB t b w.heap.size (ns k) (nsm k) wr ∧ ES k e ∧ MapIs w.heap.size e c wr ∧ Below w.heap.size w wr) (fun i' _ => n - (RowKit.intOf i').toNat)
  case atStart =>
    exact ⟨0, rfl, by omega, 0, [], heap_alloc_at (by rw [HT.out]; simp), he0, kept_alloc HM.out, bel_allocH HB1.out⟩
  case round =>
    obtain ⟨k, rfl, hk, c, ee, tb, hes, mb, hb⟩ := hrel
    by_cases hlt : k < n
    · obtain ⟨vo, v0, v1, v2⟩ := HP.out k hlt
      have c0 := (hb.cell (p := ⟨g, off + k * 3, none⟩) hgl).trans v0
      have c1 := (hb.cell (p := ⟨g, off + k * 3 + 1, none⟩) hgl).trans v1
      have c2 := (hb.cell (p := ⟨g, off + k * 3 + 2, none⟩) hgl).trans v2
      have ST := HST.out k t w.heap.size c ee (wr.alloc (.cells #[lv k, .int .i64 (T k), .int .u64 (V k)] 45)) hlt (by have := HT.out; omega) (Nat.le_refl _) (by have := HT.out; omega) (kept_alloc tb) hes (kept_alloc mb) (bel_allocH hb)
      obtain ⟨lk, hlk⟩ : ∃ x, x = lv k := ⟨_, rfl⟩
      obtain ⟨Tk, hTk⟩ : ∃ x, x = T k := ⟨_, rfl⟩
      obtain ⟨Vk, hVk⟩ : ∃ x, x = V k := ⟨_, rfl⟩
      rw [← hlk, ← hTk, ← hVk] at ST
      rw [← hlk] at c0 vo
      rw [← hTk] at c1
      rw [← hVk] at c2
      have ST := Lib.hid ST
      have HB := Lib.hid hb
      have hlt' : (k : Int) < n := by omega
      have zb := hb.size
      clear v0 v1 v2 hlk hTk hVk tb mb hb hes
      have hnew := heap_alloc_new wr (.cells #[.slice none 0 0, .int .i64 0, .int .u64 0] 45)
      have hrow := World.setRow_alloc_new wr #[.slice none 0 0, .int .i64 0, .int .u64 0] #[lk, .int .i64 Tk, .int .u64 Vk] 45
      have hA1 := pt_one lk Tk Vk vo
      go_wp2_with (refine wpList_store_row rfl 45 _ _ rfl wr.heap.size #[lk, .int .i64 Tk, .int .u64 Vk] rfl rfl 45 #[.slice none 0 0, .int .i64 0, .int .u64 0] hnew pt_size rfl hA1 ?_; rw [hrow])
      with_reducible refine ST.out.mono ?_
      rintro e w2 ⟨rfl, c', e2, t2, s2, m2, u2⟩
      have b2 := HB.out.trans ((((Below.refl _ wr).alloc (Nat.le_refl _) (.cells #[lk, .int .i64 Tk, .int .u64 Vk] 45)).mono HB.out.size).trans (u2.below (by simp; omega) (fun k hk => by have := HT.out; rcases hk with h | h <;> omega)))
      go_wp2_with fail
      exact ⟨⟨k + 1, by go_num, hlt, c', e2, t2, s2, m2, b2⟩, by simp [RowKit.intOf]; omega⟩
    · have hkn : k = n := by omega
      subst hkn
      have HB := Lib.hid hb
      go_wp2_with fail
      go_ret2
      exact ⟨rfl, HB.out⟩

set_option maxHeartbeats 2000000 in
set_option maxRecDepth 100000 in
theorem check_no (b ms mi mp cs g off n cap : Nat) (ss : List En) (se sa wd fl tp sm nu pl er : Int) (lv : Value) (T V : Int) (w : World) (hh : HdB b ms mi mp se sa wd fl tp sm nu pl w) (hms : MapIs ms ss cs w) (hn : 0 < n) (hgl : g < w.heap.size) (vo : lv.oneCell' = true) (v0 : w.cell? ⟨g, off, none⟩ = some lv) (v1 : w.cell? ⟨g, off + 1, none⟩ = some (.int .i64 T)) (v2 : w.cell? ⟨g, off + 2, none⟩ = some (.int .u64 V)) (her : er ≠ 0)
    (hst : ∀ t lm W, w.heap.size ≤ t → w.heap.size ≤ lm → t ≠ lm → TrB t b lm ss.length sm W → MapIs lm [] 0 W → Below w.heap.size w W → Calls Tryd.prog 17 #[.pointer (some ⟨t, 0, none⟩), .agg #[lv, .int .i64 T, .int .u64 V]] W fun e w' => e = .returned (.int .i64 er) ∧ Below W.heap.size W w') :
    Calls Tryd.prog 9 #[.pointer (some ⟨b, 0, none⟩), .slice (some ⟨g, off, none⟩) n cap] w fun e w' => e = .returned (.tuple #[.int .i64 0, .int .i64 er]) ∧ Below w.heap.size w w' := by
  have hmm := @run_makeMap Tryd.prog
  have b1 : Below w.heap.size w (w.alloc (.map #[] 0)) := (Below.refl _ _).alloc (Nat.le_refl _) _
  have SE := Lib.hid (series_hd b ms mi mp cs ss se sa wd fl tp sm nu pl _ ((b1.block b (hdB_lt hh)).trans hh) (Below.mapIs b1 hms))
  have SM := Lib.hid (samples_hd b ms mi mp se sa wd fl tp sm nu pl _ ((b1.block b (hdB_lt hh)).trans hh))
  have HM := Lib.hid (heap_alloc_new w (.map #[] 0))
  have HST := Lib.hid hst
  have HB1 := Lib.hid b1
  obtain ⟨ls, hls⟩ : ∃ ls, ls = ss.length := ⟨_, rfl⟩
  rw [← hls] at SE HST
  clear hst hh hms b1 hls
  go_enter Tryd.func9, Tryd.ntmps9
  go_wp2_with fail
  refine SE.out.mono ?_
  rintro e w1 ⟨rfl, rfl⟩
  go_wp2_with fail
  refine SM.out.mono ?_
  rintro e w1 ⟨rfl, rfl⟩
  go_wp2_with fail
  obtain ⟨t, ht⟩ : ∃ t, t = w.heap.size + 1 := ⟨_, rfl⟩
  rw [← ht]
  have HT := Lib.hid ht
  clear ht
  go_loopw [19] (fun i' wr => i' = .int .i64 0 ∧ TrB t b w.heap.size ls sm wr ∧ MapIs w.heap.size [] 0 wr ∧ Below w.heap.size w wr) (fun _ _ => 0)
  case atStart => exact ⟨rfl, heap_alloc_at (by rw [HT.out]; simp), kept_alloc HM.out, bel_allocH HB1.out⟩
  case round =>
    obtain ⟨rfl, tb, mb, hb⟩ := hrel
    have c0 := (hb.cell (p := ⟨g, off, none⟩) hgl).trans v0
    have c1 := (hb.cell (p := ⟨g, off + 1, none⟩) hgl).trans v1
    have c2 := (hb.cell (p := ⟨g, off + 2, none⟩) hgl).trans v2
    have ST := Lib.hid (HST.out t w.heap.size (wr.alloc (.cells #[lv, .int .i64 T, .int .u64 V] 45)) (by have := HT.out; omega) (Nat.le_refl _) (by have := HT.out; omega) (kept_alloc tb) (kept_alloc mb) (bel_allocH hb))
    have HB := Lib.hid hb
    have hn' : (0 : Int) < n := by omega
    have he0 : (er == 0) = false := by simpa using her
    clear v0 v1 v2 tb mb hb
    have hnew := heap_alloc_new wr (.cells #[.slice none 0 0, .int .i64 0, .int .u64 0] 45)
    have hrow := World.setRow_alloc_new wr #[.slice none 0 0, .int .i64 0, .int .u64 0] #[lv, .int .i64 T, .int .u64 V] 45
    have hA1 := pt_one lv T V vo
    go_wp2_with (refine wpList_store_row rfl 45 _ _ rfl wr.heap.size #[lv, .int .i64 T, .int .u64 V] rfl rfl 45 #[.slice none 0 0, .int .i64 0, .int .u64 0] hnew pt_size rfl hA1 ?_; rw [hrow])
    with_reducible refine ST.out.mono ?_
    rintro e w2 ⟨rfl, b2⟩
    have b2 := Lib.hid ((bel_allocH (o := .cells #[lv, .int .i64 T, .int .u64 V] 45) HB.out).trans (b2.mono (by have := HB.out.size; simp; omega)))
    go_wp2_with fail
    go_ret2
    exact ⟨rfl, b2.out⟩
end Go.Proofs.YthgpnjkabpfccaaDoor
