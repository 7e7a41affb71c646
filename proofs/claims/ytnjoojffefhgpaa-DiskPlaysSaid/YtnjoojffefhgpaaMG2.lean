/- Layer 5's buckets: Put, Delete. Layer 5's buckets: look, Get, Range. -/
import Derived.Test.YtnjoojffefhgpaaMG0
namespace Go.Proofs.Ytnjoojffefhgpaa
open Go.Conc Go.RowKit

/-- A bucket's objects turned to others. -/
def BNow (k f c m : Nat) (os' : List Ob) (A' : List Ft) (w w' : World) : Prop :=
  (∃ ck, BucketAt k f c m os' A' ck w') ∧ Turn (Mb f c m) w w'
theorem BNow.same {k f c m : Nat} {os : List Ob} {A : List Ft} {clock : Nat} {w w' : World} (h : BucketAt k f c m os A clock w) (b : Below w.heap.size w w') : BNow k f c m os A w w' :=
  ⟨⟨clock, h.below b⟩, Turn.of_below b⟩
theorem BNow.trans {k f c m : Nat} {os os' : List Ob} {A A' : List Ft} {w w' w'' : World} (h : BNow k f c m os A w w') (g : BNow k f c m os' A' w' w'') : BNow k f c m os' A' w w'' :=
  ⟨g.1, h.2.trans g.2⟩
theorem BNow.tried {k f c m : Nat} {os : List Ob} {A A' : List Ft} {clock : Nat} {w w1 w2 : World} (h : BucketAt k f c m os A clock w) (b : Below w.heap.size w w1) (t : Turn (Own f c) w1 w2) (hA : Holds f c A' w2) : BNow k f c m os A' w w2 :=
  ⟨⟨clock, (h.below b).tried t hA⟩, (Turn.of_below b).trans (t.mono fun i hi => by rcases hi with e | e; exact .inl e; exact .inr (.inl e))⟩

set_option maxHeartbeats 1000000 in
set_option maxRecDepth 100000 in
theorem put_bad (k f c m : Nat) (os : List Ob) (A : List Ft) (clock : Nat) (name data : ByteArray) (tm : Int) (w : World) (h : BucketAt k f c m os A clock w) (hn : ¬ (0 < name.size ∧ name.size ≤ 40)) :
    Calls Try.prog 35 #[.pointer (some ⟨k, 0, none⟩), .string name, .string data, .int .i64 tm] w fun e w' => e = .returned (.int .i64 1) ∧ BNow k f c m os A w w' := by
  have hm := fun W => bmaybe_any name W
  rw [decide_eq_false hn] at hm
  have HM := Lib.hid hm
  clear hm hn
  go_enter Try.func35, Try.ntmps35
  go_wp2_with fail
  refine (HM.out _).mono ?_
  rintro e w1 ⟨rfl, rfl⟩
  go_wp2
  go_ret
  exact ⟨rfl, BNow.same h (((((Below.refl _ w).alloc (Nat.le_refl _) _).alloc (by simp) _).alloc (by simp; omega) _).alloc (by simp; omega) _)⟩

/-- Four boxes laid. -/
theorem boxes4 (w : World) (x y z u : Value) (r s t v : TypeId) (W0 : World) (hW : W0 = (((w.alloc (.cells #[x] r)).alloc (.cells #[y] s)).alloc (.cells #[z] t)).alloc (.cells #[u] v)) :
    Below w.heap.size w W0 ∧ W0.heap.size = w.heap.size + 4 ∧ W0.cell? ⟨w.heap.size, 0, none⟩ = some x ∧ W0.cell? ⟨w.heap.size + 1, 0, none⟩ = some y ∧ W0.cell? ⟨w.heap.size + 2, 0, none⟩ = some z ∧ W0.cell? ⟨w.heap.size + 3, 0, none⟩ = some u := by
  obtain ⟨W2, hW2⟩ : ∃ W2, W2 = (w.alloc (.cells #[x] r)).alloc (.cells #[y] s) := ⟨_, rfl⟩
  rw [← hW2] at hW
  obtain ⟨b, z, c0, c1⟩ := boxes2 w x y r s W2 hW2
  obtain ⟨b', z', c2, c3⟩ := boxes2 W2 _ _ _ _ W0 hW
  refine ⟨b.trans (b'.mono b.size), by omega, (b'.cell (p := ⟨w.heap.size, 0, none⟩) (by simp only; omega)).trans c0, (b'.cell (p := ⟨w.heap.size + 1, 0, none⟩) (by simp only; omega)).trans c1, ?_, ?_⟩
  · rw [← z]; exact c2
  · rw [show w.heap.size + 3 = W2.heap.size + 1 by omega]; exact c3

set_option maxHeartbeats 1000000 in
set_option maxRecDepth 100000 in
theorem put_go (k f c m : Nat) (os : List Ob) (A : List Ft) (clock : Nat) (name data : ByteArray) (tm : Int) (w : World) (h : BucketAt k f c m os A clock w) (hn : 0 < name.size ∧ name.size ≤ 40) :
    Calls Try.prog 35 #[.pointer (some ⟨k, 0, none⟩), .string name, .string data, .int .i64 tm] w fun e w' => e = .returned (.int .i64 (if (tryL A).1.1 then 0 else 8)) ∧
      BNow k f c m (if (tryL A).1.2 then setO name data tm clock os else os) (tryL A).2 w w' := by
  have hm := fun W => bmaybe_any name W
  rw [decide_eq_true hn] at hm
  have HM := Lib.hid hm
  clear hm hn
  go_enter Try.func35, Try.ntmps35
  go_wp2_with fail
  refine (HM.out _).mono ?_
  rintro e w1 ⟨rfl, rfl⟩
  obtain ⟨W1, hW1⟩ : ∃ W1, W1 = (((w.alloc (.cells #[.pointer (some ⟨k, 0, none⟩)] 48)).alloc (.cells #[.string name] 9)).alloc (.cells #[.string data] 9)).alloc (.cells #[.int .i64 tm] 3) := ⟨_, rfl⟩
  rw [← hW1]
  obtain ⟨b1, z1, q0, q1, q2, q3⟩ := boxes4 w _ _ _ _ _ _ _ _ W1 hW1
  have D1 := h.below b1
  have e0 := D1.c0
  clear hW1
  have HD := Lib.hid (do_put f c #[.pointer (some ⟨w.heap.size + 1 + 1, 0, none⟩), .pointer (some ⟨w.heap.size + 1 + 1 + 1, 0, none⟩), .pointer (some ⟨w.heap.size, 0, none⟩), .pointer (some ⟨w.heap.size + 1, 0, none⟩)] A W1
    (fun W er w' => er = 0 ∧ BNow k f c m (setO name data tm clock os) (tryL A).2 W w') D1.fuse (by
      intro W hA t
      have D2 := D1.tried t hA
      have hlt := h.fuse.lts
      have hown : ∀ k, w.heap.size ≤ k → ¬ Own f c k := fun k hk e => by rcases e with e | e <;> omega
      have ht : ∀ k o v, k < W1.heap.size → w.heap.size ≤ k → W1.cell? ⟨k, o, none⟩ = some v → W.cell? ⟨k, o, none⟩ = some v := fun k o v hk hk2 hc => (t.cell (p := ⟨k, o, none⟩) hk (hown k hk2)).trans hc
      refine (put1_any k f c m os (tryL A).2 clock name data tm w.heap.size (w.heap.size + 1) (w.heap.size + 1 + 1) (w.heap.size + 1 + 1 + 1) W D2 (ht _ _ _ (by omega) (by omega) q0) (ht _ _ _ (by omega) (by omega) q1) (ht _ _ _ (by omega) (by omega) q2) (ht _ _ _ (by omega) (by omega) q3)).mono ?_
      rintro e w' ⟨er, he, h0, hv, t'⟩
      exact ⟨er, he, h0, hv, t'.mono fun i hi => .inr (.inr hi)⟩))
  go_wp2_with fail
  refine HD.out.mono ?_
  rintro e w2 ⟨W, hA, t, hif⟩
  have N1 : BNow k f c m os (tryL A).2 w W := BNow.tried h b1 t hA
  cases hdn : (tryL A).1.2
  · rw [hdn] at hif
    obtain ⟨rfl, rfl⟩ := hif
    go_wp2
    all_goals
      go_ret
      exact ⟨rfl, N1⟩
  · rw [hdn] at hif
    obtain ⟨er, ⟨rfl, hv⟩, rfl⟩ := hif
    go_wp2
    all_goals
      go_ret
      exact ⟨rfl, N1.trans hv⟩

set_option maxHeartbeats 1000000 in
set_option maxRecDepth 100000 in
/-- Delete's closure. -/
theorem delete1_any (k f c m : Nat) (os : List Ob) (A : List Ft) (clock : Nat) (name : ByteArray) (bk bn : Nat) (w : World) (h : BucketAt k f c m os A clock w)
    (p0 : w.cell? ⟨bk, 0, none⟩ = some (.pointer (some ⟨k, 0, none⟩))) (p1 : w.cell? ⟨bn, 0, none⟩ = some (.string name)) :
    Calls Try.prog 67 #[.pointer (some ⟨bk, 0, none⟩), .pointer (some ⟨bn, 0, none⟩)] w fun e w' => ∃ er, e = .returned (.int .i64 er) ∧ er = 0 ∧ (∃ ck, BucketAt k f c m (delO name os) A ck w') ∧ Turn (fun i => i = m) w w' := by
  have c1 := h.c1
  have hst2 := fun ty => run_drop (P := Try.prog) (w := w.drew) Try.underlying53 Try.underlying9 (show MapIs m (os.map Ob.en) clock w.drew from h.map) name ty
  obtain ⟨W1, hW1⟩ : ∃ W1, W1 = World.putMap w.drew m (delE name (os.map Ob.en)) clock := ⟨_, rfl⟩
  rw [← hW1] at hst2
  have HW := Lib.hid hW1
  clear hW1
  go_enter Try.func67, Try.ntmps67
  go_wp2_with fail
  go_region
  go_wp2
  go_ret
  have ht : Turn (fun i => i = m) w W1 := by rw [HW.out]; exact (Turn.refl _ w).drew.trans (turn_put (S := fun i => i = m) rfl _ _)
  refine ⟨0, rfl, rfl, ⟨clock, h.mapped ht ?_ (h.names.sublist ((del_subO name os).map _)) (h.stamps.del name)⟩, ht⟩
  have := mapIs_put (w := w.drew) (m := m) h.mlt (delE name (os.map Ob.en)) clock
  rw [← HW.out, del_enO] at this
  exact this

set_option maxHeartbeats 1000000 in
set_option maxRecDepth 100000 in
theorem delete_go (k f c m : Nat) (os : List Ob) (A : List Ft) (clock : Nat) (name : ByteArray) (w : World) (h : BucketAt k f c m os A clock w) :
    Calls Try.prog 37 #[.pointer (some ⟨k, 0, none⟩), .string name] w fun e w' => e = .returned (.int .i64 (if (tryL A).1.1 then 0 else 8)) ∧
      BNow k f c m (if (tryL A).1.2 then delO name os else os) (tryL A).2 w w' := by
  obtain ⟨W1, hW1⟩ : ∃ W1, W1 = (w.alloc (.cells #[.pointer (some ⟨k, 0, none⟩)] 48)).alloc (.cells #[.string name] 9) := ⟨_, rfl⟩
  obtain ⟨b1, z1, q0, q1⟩ := boxes2 w _ _ _ _ W1 hW1
  have D1 := h.below b1
  have e0 := D1.c0
  have HW1 := Lib.hid hW1
  clear hW1
  have HD := Lib.hid (do_delete f c #[.pointer (some ⟨w.heap.size, 0, none⟩), .pointer (some ⟨w.heap.size + 1, 0, none⟩)] A W1
    (fun W er w' => er = 0 ∧ BNow k f c m (delO name os) (tryL A).2 W w') D1.fuse (by
      intro W hA t
      have D2 := D1.tried t hA
      have hlt := h.fuse.lts
      have hown : ∀ k, w.heap.size ≤ k → ¬ Own f c k := fun k hk e => by rcases e with e | e <;> omega
      have ht : ∀ k o v, k < W1.heap.size → w.heap.size ≤ k → W1.cell? ⟨k, o, none⟩ = some v → W.cell? ⟨k, o, none⟩ = some v := fun k o v hk hk2 hc => (t.cell (p := ⟨k, o, none⟩) hk (hown k hk2)).trans hc
      refine (delete1_any k f c m os (tryL A).2 clock name w.heap.size (w.heap.size + 1) W D2 (ht _ _ _ (by omega) (by omega) q0) (ht _ _ _ (by omega) (by omega) q1)).mono ?_
      rintro e w' ⟨er, he, h0, hv, t'⟩
      exact ⟨er, he, h0, hv, t'.mono fun i hi => .inr (.inr hi)⟩))
  rw [HW1.out] at e0
  go_enter Try.func37, Try.ntmps37
  go_wp2_with fail
  rw [← HW1.out]
  refine HD.out.mono ?_
  rintro e w2 ⟨W, hA, t, hif⟩
  have N1 : BNow k f c m os (tryL A).2 w W := BNow.tried h b1 t hA
  cases hdn : (tryL A).1.2
  · rw [hdn] at hif
    obtain ⟨rfl, rfl⟩ := hif
    go_wp2
    all_goals
      go_ret
      exact ⟨rfl, N1⟩
  · rw [hdn] at hif
    obtain ⟨er, ⟨rfl, hv⟩, rfl⟩ := hif
    go_wp2
    all_goals
      go_ret
      exact ⟨rfl, N1.trans hv⟩
end Go.Proofs.Ytnjoojffefhgpaa

namespace Go.Proofs.Ytnjoojffefhgpaa
open Go.Conc Go.RowKit

set_option maxHeartbeats 1000000 in
set_option maxRecDepth 100000 in
theorem look_any (k f c m : Nat) (os : List Ob) (A : List Ft) (clock : Nat) (w : World) (h : BucketAt k f c m os A clock w) :
    Calls Try.prog 68 #[.pointer (some ⟨k, 0, none⟩)] w fun e w' => e = .returned (.int .i64 (if (tryL A).1.1 then 0 else 8)) ∧ BNow k f c m os (tryL A).2 w w' := by
  have e0 := h.c0
  have HT := Lib.hid (try_any f c A w h.fuse)
  have HN := Lib.hid (fun w1 (hh : Holds f c (tryL A).2 w1) t => BNow.tried h (Below.refl _ w) t hh)
  rcases hr : (tryL A) with ⟨⟨works, done⟩, A'⟩
  rw [hr] at HT HN
  cases works
  all_goals
    go_enter Try.func68, Try.ntmps68
    go_wp2_with fail
    refine HT.out.mono ?_
    rintro e w1 ⟨rfl, h1, t1⟩
    go_wp2
    go_ret
    exact ⟨rfl, HN.out w1 h1 t1⟩

/-- What Get says: the bytes, the error. -/
def getR (name : ByteArray) (os : List Ob) : ByteArray × Int := match lookO name os with | none => (ByteArray.empty, 5) | some x => (x.data, 0)
theorem getR_none {name : ByteArray} {os : List Ob} (h : lookO name os = none) : getR name os = (ByteArray.empty, 5) := by unfold getR; rw [h]
theorem getR_some {name : ByteArray} {os : List Ob} {x : Ob} (h : lookO name os = some x) : getR name os = (x.data, 0) := by unfold getR; rw [h]

set_option maxHeartbeats 1000000 in
set_option maxRecDepth 100000 in
theorem get_any (k f c m : Nat) (os : List Ob) (A : List Ft) (clock : Nat) (name : ByteArray) (w : World) (h : BucketAt k f c m os A clock w) :
    Calls Try.prog 38 #[.pointer (some ⟨k, 0, none⟩), .string name] w fun e w' => e = .returned (.tuple #[.string (if (tryL A).1.1 then (getR name os).1 else ByteArray.empty), .int .i64 (if (tryL A).1.1 then (getR name os).2 else 8)]) ∧ BNow k f c m os (tryL A).2 w w' := by
  have HL := Lib.hid (look_any k f c m os A clock w h)
  have HP := Lib.hid (fun ck W D => peek_any k f c m os (tryL A).2 ck name W D)
  cases hw : (tryL A).1.1
  · rw [hw] at HL
    go_enter Try.func38, Try.ntmps38
    go_wp2_with fail
    refine HL.out.mono ?_
    rintro e w1 ⟨rfl, n1⟩
    go_wp2
    go_ret2
    exact ⟨rfl, n1⟩
  · rw [hw] at HL
    cases hl : lookO name os with
    | none =>
      have hp : peekO name os = ByteArray.empty := by unfold peekO; rw [hl]; rfl
      rw [getR_none hl]
      rw [hl, hp] at HP
      go_enter Try.func38, Try.ntmps38
      go_wp2_with fail
      refine HL.out.mono ?_
      rintro e w1 ⟨rfl, ⟨ck, D1⟩, t1⟩
      go_wp2_with fail
      refine (HP.out ck w1 D1).mono ?_
      rintro e w2 ⟨rfl, b2⟩
      go_wp2
      go_ret2
      exact ⟨rfl, ⟨ck, D1.below b2⟩, t1.trans (Turn.of_below b2)⟩
    | some x =>
      have hp : peekO name os = x.data := by unfold peekO; rw [hl]; rfl
      rw [getR_some hl]
      rw [hl, hp] at HP
      go_enter Try.func38, Try.ntmps38
      go_wp2_with fail
      refine HL.out.mono ?_
      rintro e w1 ⟨rfl, ⟨ck, D1⟩, t1⟩
      go_wp2_with fail
      refine (HP.out ck w1 D1).mono ?_
      rintro e w2 ⟨rfl, b2⟩
      go_wp2
      go_ret2
      exact ⟨rfl, ⟨ck, D1.below b2⟩, t1.trans (Turn.of_below b2)⟩

/-- What Range says where the object is there: from 'from' on at most n bytes. -/
def partB (s : ByteArray) (a n : Int) : ByteArray := s.extract a.toNat (a.toNat + n.toNat)
theorem part_eq (s : ByteArray) (a n m : Nat) (ha : a ≤ s.size) (hm : m = min n (s.size - a)) : (s.extract a s.size).extract 0 m = partB s a n := by
  unfold partB
  apply ByteArray.ext
  apply Array.ext'
  have hl : s.data.toList.length = s.size := Array.length_toList
  simp only [ByteArray.data_extract, Array.toList_extract, List.extract_eq_take_drop, Int.toNat_natCast, Nat.sub_zero, List.drop_zero]
  rw [List.take_take, show a + n - a = n by omega]
  have h1 : (s.data.toList.drop a).length = s.size - a := by rw [List.length_drop, hl]
  rw [List.take_eq_take_iff, h1]
  omega
def rangeR (name : ByteArray) (a n : Int) (os : List Ob) : ByteArray × Int := match lookO name os with
  | none => (ByteArray.empty, 5)
  | some x => if a < 0 ∨ (x.data.size : Int) < a ∨ n < 0 then (ByteArray.empty, 1) else (partB x.data a n, 0)

set_option maxHeartbeats 1000000 in
set_option maxRecDepth 100000 in
theorem range_any (k f c m : Nat) (os : List Ob) (A : List Ft) (clock : Nat) (name : ByteArray) (a n : Int) (w : World) (h : BucketAt k f c m os A clock w) (ha : -9223372036854775808 ≤ a ∧ a ≤ 9223372036854775807) (hn : -9223372036854775808 ≤ n ∧ n ≤ 9223372036854775807) :
    Calls Try.prog 36 #[.pointer (some ⟨k, 0, none⟩), .string name, .int .i64 a, .int .i64 n] w fun e w' => e = .returned (.tuple #[.string (if (tryL A).1.1 then (rangeR name a n os).1 else ByteArray.empty), .int .i64 (if (tryL A).1.1 then (rangeR name a n os).2 else 8)]) ∧ BNow k f c m os (tryL A).2 w w' := by
  have HG := Lib.hid (get_any k f c m os A clock name w h)
  cases hw : (tryL A).1.1
  · rw [hw] at HG
    go_enter Try.func36, Try.ntmps36
    go_wp2_with fail
    refine HG.out.mono ?_
    rintro e w1 ⟨rfl, n1⟩
    go_wp2
    go_ret2
    exact ⟨rfl, n1⟩
  · rw [hw] at HG
    cases hl : lookO name os with
    | none =>
      rw [getR_none hl] at HG
      unfold rangeR
      rw [hl]
      go_enter Try.func36, Try.ntmps36
      go_wp2_with fail
      refine HG.out.mono ?_
      rintro e w1 ⟨rfl, n1⟩
      go_wp2
      go_ret2
      exact ⟨rfl, n1⟩
    | some x =>
      rw [getR_some hl] at HG
      unfold rangeR
      rw [hl]
      obtain ⟨s, hs⟩ : ∃ s, s = x.data := ⟨_, rfl⟩
      rw [← hs] at HG
      simp only
      rw [← hs]
      clear hs hl
      by_cases hb : a < 0 ∨ (s.size : Int) < a ∨ n < 0
      · rw [if_pos hb]
        by_cases h1 : a < 0
        · go_enter Try.func36, Try.ntmps36
          go_wp2_with fail
          refine HG.out.mono ?_
          rintro e w1 ⟨rfl, n1⟩
          go_wp2
          go_ret2
          exact ⟨rfl, n1⟩
        · by_cases h2 : (s.size : Int) < a
          · go_enter Try.func36, Try.ntmps36
            go_wp2_with fail
            refine HG.out.mono ?_
            rintro e w1 ⟨rfl, n1⟩
            go_wp2
            go_ret2
            exact ⟨rfl, n1⟩
          · have h3 : n < 0 := by omega
            have h1' : 0 ≤ a := by omega
            have h2' : a ≤ s.size := by omega
            clear hb h1 h2
            go_enter Try.func36, Try.ntmps36
            go_wp2_with fail
            refine HG.out.mono ?_
            rintro e w1 ⟨rfl, n1⟩
            go_wp2
            go_ret2
            exact ⟨rfl, n1⟩
      · rw [if_neg hb]
        obtain ⟨a', rfl⟩ : ∃ a' : Nat, a = a' := ⟨a.toNat, by omega⟩
        obtain ⟨n', rfl⟩ : ∃ n' : Nat, n = n' := ⟨n.toNat, by omega⟩
        have h2' : a' ≤ s.size := by omega
        clear hb
        go_enter Try.func36, Try.ntmps36
        go_wp2_with fail
        refine HG.out.mono ?_
        rintro e w1 ⟨rfl, n1⟩
        go_wp2
        all_goals
          first
            | (exfalso; omega)
            | (go_ret2
               exact ⟨by rw [part_eq s a' n' _ h2' (by omega)]; rfl, n1⟩)
end Go.Proofs.Ytnjoojffefhgpaa
