/- BucketWhole: what was handed in is kept in a map of counts. -/
import Derived.Test.YtfjihookoilnnaaG11
namespace Go.Proofs.Ytfjihookoilnnaa
open Go.Conc Go.RowKit
set_option linter.unusedVariables false

/-- A name and bytes, as BucketWhole keeps them. -/
def kb (n d : ByteArray) : ByteArray := (n ++ (⟨#[124]⟩ : ByteArray)) ++ d
/-- Counts of at least one, at most i; of each object its key is there. -/
structure Logged (es : List En) (os : List Ob) (i : Nat) : Prop where
  vals : ∀ e ∈ es, ∃ c : Nat, e.val = .int .i64 c ∧ 1 ≤ c ∧ c ≤ i
  keys : ∀ x ∈ os, (lookE (kb x.name x.data) es).isSome = true
  small : ∀ x ∈ os, x.name.size ≤ 40 ∧ x.data.size ≤ 60
theorem look_memE (k : ByteArray) : ∀ (es : List En) (x : En), lookE k es = some x → x ∈ es ∧ x.name = k
  | [], x, h => by cases h
  | e :: es, x, h => by
    unfold lookE at h
    by_cases hk : k = e.name
    · rw [if_pos hk] at h
      cases h
      exact ⟨List.mem_cons_self, hk.symm⟩
    · rw [if_neg hk] at h
      have := look_memE k es x h
      exact ⟨List.mem_cons_of_mem _ this.1, this.2⟩
theorem set_memE (k : ByteArray) (v : Value) (b : Nat) : ∀ (es : List En) (x : En), x ∈ setE k v b es → x ∈ es ∨ x.val = v
  | [], x, h => by simp [setE] at h; subst h; exact .inr rfl
  | e :: es, x, h => by
    unfold setE at h
    by_cases hk : k = e.name
    · rw [if_pos hk, List.mem_cons] at h
      rcases h with rfl | h
      · exact .inr rfl
      · exact .inl (List.mem_cons_of_mem _ h)
    · rw [if_neg hk, List.mem_cons] at h
      rcases h with rfl | h
      · exact .inl List.mem_cons_self
      · rcases set_memE k v b es x h with h | h
        · exact .inl (List.mem_cons_of_mem _ h)
        · exact .inr h
theorem look_setE (k n : ByteArray) (v : Value) (b : Nat) : ∀ es : List En, (lookE n (setE k v b es)).isSome = (decide (n = k) || (lookE n es).isSome)
  | [] => by by_cases h : n = k <;> simp [setE, lookE, h]
  | e :: es => by
    have ih := look_setE k n v b es
    unfold setE
    by_cases hk : k = e.name
    · rw [if_pos hk]
      simp only [lookE]
      by_cases hn : n = e.name
      · rw [if_pos hn, if_pos hn]; simp
      · rw [if_neg hn, if_neg hn]
        have : n ≠ k := fun h => hn (h.trans hk)
        simp [this]
    · rw [if_neg hk]
      simp only [lookE]
      by_cases hn : n = e.name
      · rw [if_pos hn, if_pos hn]; simp
      · rw [if_neg hn, if_neg hn, ih]
theorem set_memO (k d : ByteArray) (t : Int) (b : Nat) : ∀ (os : List Ob) (x : Ob), x ∈ setO k d t b os → x ∈ os ∨ (x.name = k ∧ x.data = d)
  | [], x, h => by simp [setO] at h; subst h; exact .inr ⟨rfl, rfl⟩
  | e :: es, x, h => by
    unfold setO at h
    by_cases hk : k = e.name
    · rw [if_pos hk, List.mem_cons] at h
      rcases h with rfl | h
      · exact .inr ⟨hk.symm, rfl⟩
      · exact .inl (List.mem_cons_of_mem _ h)
    · rw [if_neg hk, List.mem_cons] at h
      rcases h with rfl | h
      · exact .inl List.mem_cons_self
      · rcases set_memO k d t b es x h with h | h
        · exact .inl (List.mem_cons_of_mem _ h)
        · exact .inr h
theorem set_lenO (k d : ByteArray) (t : Int) (b : Nat) : ∀ os : List Ob, (setO k d t b os).length ≤ os.length + 1
  | [] => by simp [setO]
  | e :: es => by
    have := set_lenO k d t b es
    unfold setO
    split <;> simp <;> omega
theorem Logged.more {es : List En} {os : List Ob} {i j : Nat} (h : Logged es os i) (hij : i ≤ j) : Logged es os j :=
  ⟨fun e he => by obtain ⟨c, h1, h2, h3⟩ := h.vals e he; exact ⟨c, h1, h2, by omega⟩, h.keys, h.small⟩
theorem Logged.fewer {es : List En} {os os' : List Ob} {i : Nat} (h : Logged es os i) (hs : ∀ x ∈ os', x ∈ os) : Logged es os' i :=
  ⟨h.vals, fun x hx => h.keys x (hs x hx), fun x hx => h.small x (hs x hx)⟩
/-- The count of a key. -/
def countE (k : ByteArray) (es : List En) : Nat := match lookE k es with | none => 0 | some e => match e.val with | .int .i64 c => c.toNat | _ => 0
theorem count_val {es : List En} {os : List Ob} {i : Nat} (h : Logged es os i) (k : ByteArray) : ((lookE k es).map (·.val)).getD (.int .i64 0) = .int .i64 (countE k es) ∧ countE k es ≤ i ∧ ((lookE k es).isSome = true → 1 ≤ countE k es) := by
  unfold countE
  cases hl : lookE k es with
  | none => exact ⟨rfl, Nat.zero_le _, fun h => by cases h⟩
  | some e =>
    obtain ⟨c, h1, h2, h3⟩ := h.vals e (look_memE k es e hl).1
    simp only [Option.map_some, Option.getD_some, h1, Int.toNat_natCast]
    exact ⟨trivial, h3, fun _ => h2⟩
/-- A Put, done or not, and its count. -/
theorem Logged.put {es : List En} {os os' : List Ob} {i : Nat} (h : Logged es os i) (n d : ByteArray) (b : Nat) (hs : ∀ x ∈ os', x ∈ os ∨ (x.name = n ∧ x.data = d)) (hn : n.size ≤ 40) (hd : d.size ≤ 60) : Logged (setE (kb n d) (.int .i64 ((countE (kb n d) es : Nat) + 1)) b es) os' (i + 1) := by
  have hc := count_val h (kb n d)
  refine ⟨fun e he => ?_, fun x hx => ?_, fun x hx => ?_⟩
  · rcases set_memE _ _ _ _ _ he with h1 | h1
    · obtain ⟨c, h2, h3, h4⟩ := h.vals e h1
      exact ⟨c, h2, h3, by omega⟩
    · exact ⟨countE (kb n d) es + 1, by rw [h1]; simp, by omega, by omega⟩
  · rw [look_setE]
    rcases hs x hx with h1 | ⟨h1, h2⟩
    · rw [h.keys x h1]; simp
    · rw [h1, h2]; simp
  · rcases hs x hx with h1 | ⟨h1, h2⟩
    · exact h.small x h1
    · rw [h1, h2]; exact ⟨hn, hd⟩
theorem look_ofO : ∀ (os : List Ob), (os.map (·.name)).Nodup → ∀ x ∈ os, lookO x.name os = some x
  | [], _, x, hx => by cases hx
  | e :: es, hn, x, hx => by
    rw [List.map_cons, List.nodup_cons] at hn
    unfold lookO
    rcases List.mem_cons.1 hx with rfl | hx
    · rw [if_pos rfl]
    · by_cases h : x.name = e.name
      · exact absurd (List.mem_map.2 ⟨x, hx, h⟩) hn.1
      · rw [if_neg h]
        exact look_ofO es hn.2 x hx
theorem Bk.other {k f c m mp : Nat} {os : List Ob} {A : List Ft} {w w' : World} (h : Bk k f c m os A w) (t : Turn (fun j => j = mp) w w') (h1 : k ≠ mp) (h2 : f ≠ mp) (h3 : c ≠ mp) (h4 : m ≠ mp) : Bk k f c m os A w' := by
  obtain ⟨ck, h⟩ := h
  exact ⟨ck, Nat.lt_of_lt_of_le h.klt t.size, Nat.lt_of_lt_of_le h.mlt t.size, h.kf, h.kc, h.km, h.fm, h.cm, (t.cell (p := ⟨k, 0, none⟩) h.klt h1).trans h.c0, (t.cell (p := ⟨k, 1, none⟩) h.klt h1).trans h.c1,
    h.fuse.turn t h2 h3, h.map.turn t h4, h.names, h.stamps⟩
theorem infs_all (os : List Ob) : infsO ⟨#[]⟩ os = os.map Ob.inf := by
  unfold infsO
  congr 1
  rw [List.filter_eq_self]
  intro x _
  unfold pre
  rw [decide_eq_true_iff]
  exact List.nil_prefix
theorem zero_int (w : World) : (zeroValue 3).run Try.prog w = .ok (.int .i64 0) w := by kernel_rfl
theorem kb_size (n d : ByteArray) : (kb n d).size = n.size + 1 + d.size := by
  unfold kb
  rw [ByteArray.size_append, ByteArray.size_append]
  rfl

theorem Bk.turned {B k f c m : Nat} {os : List Ob} {A : List Ft} {w w' : World} (h : Bk k f c m os A w) (hB : BHome B k f c m) (t : Turn (Mb f c m) w w') : Below B w w' := by
  obtain ⟨ck, h⟩ := h
  have h0 := hB.k; have h1 := hB.f; have h2 := hB.c; have h3 := hB.m
  exact t.below (Nat.le_trans hB.k (Nat.le_of_lt h.klt)) fun i hi => by rcases hi with e | e | e <;> omega
theorem bput_any (k f c m : Nat) (os : List Ob) (A : List Ft) (name data : ByteArray) (tm : Int) (w : World) (h : Bk k f c m os A w) :
    Calls Try.prog 19 #[.pointer (some ⟨k, 0, none⟩), .string name, .string data, .int .i64 tm] w fun e w' => ∃ er os' A', e = .returned (.int .i64 er) ∧
      Bk k f c m os' A' w' ∧ (∀ x ∈ os', x ∈ os ∨ (x.name = name ∧ x.data = data)) ∧ os'.length ≤ os.length + 1 ∧ Turn (Mb f c m) w w' := by
  obtain ⟨ck, h⟩ := h
  by_cases hn : 0 < name.size ∧ name.size ≤ 40
  · refine (put_go k f c m os A ck name data tm w h hn).mono ?_
    rintro e w' ⟨rfl, n⟩
    refine ⟨_, _, _, rfl, n.1, ?_, ?_, n.2⟩
    · split
      · exact set_memO _ _ _ _ _
      · exact fun x hx => .inl hx
    · split
      · exact set_lenO _ _ _ _ _
      · omega
  · refine (put_bad k f c m os A ck name data tm w h hn).mono ?_
    rintro e w' ⟨rfl, n⟩
    exact ⟨_, _, _, rfl, n.1, fun x hx => .inl hx, by omega, n.2⟩
theorem bdelete_any (k f c m : Nat) (os : List Ob) (A : List Ft) (name : ByteArray) (w : World) (h : Bk k f c m os A w) :
    Calls Try.prog 20 #[.pointer (some ⟨k, 0, none⟩), .string name] w fun e w' => ∃ er os' A', e = .returned (.int .i64 er) ∧
      Bk k f c m os' A' w' ∧ (∀ x ∈ os', x ∈ os) ∧ os'.length ≤ os.length ∧ Turn (Mb f c m) w w' := by
  obtain ⟨ck, h⟩ := h
  refine (delete_go k f c m os A ck name w h).mono ?_
  rintro e w' ⟨rfl, n⟩
  refine ⟨_, _, _, rfl, n.1, ?_, ?_, n.2⟩
  · split
    · exact fun x hx => (del_subO name os).subset hx
    · exact fun x hx => hx
  · split
    · exact (del_subO name os).length_le
    · omega
theorem barm_any (k f c m : Nat) (os : List Ob) (A : List Ft) (a : Int) (dn : Bool) (w : World) (h : Bk k f c m os A w) (ha : Ft.Fits (a, dn)) :
    Calls Try.prog 21 #[.pointer (some ⟨f, 0, none⟩), .int .i64 a, .bool dn] w fun e w' => ∃ er A', e = .returned (.int .i64 er) ∧ Bk k f c m os A' w' ∧ Turn (Mb f c m) w w' := by
  obtain ⟨ck, h⟩ := h
  refine (arm_any f c A a dn w h.fuse ha).mono ?_
  rintro e w' (⟨rfl, hA, t⟩ | ⟨rfl, rfl⟩)
  · have n := BNow.tried h (Below.refl _ w) t hA
    exact ⟨_, _, rfl, n.1, n.2⟩
  · exact ⟨_, _, rfl, ⟨ck, h⟩, Turn.refl _ _⟩

theorem sl_open3 {w : World} {base n : Nat} {v : Value} {xs : List Value} (hs : Sl w base 3 v n xs) : ∃ a cap gl offl, v = .slice a n cap ∧ (0 < n → a = some ⟨gl, offl, none⟩ ∧ base ≤ gl ∧ gl < w.heap.size) ∧ ∀ j, j < n * 3 → w.cell? ⟨gl, offl + j, none⟩ = xs[j]? := by
  rcases hs.2 with ⟨rfl, rfl⟩ | ⟨g, off, cap, rfl, h1, h2, _, _, _, h3⟩
  · exact ⟨none, 0, 0, 0, rfl, fun h => absurd h (by omega), fun j hj => absurd hj (by omega)⟩
  · exact ⟨_, cap, g, off, rfl, fun _ => ⟨rfl, h1, h2⟩, fun j hj => h3 j (by omega)⟩
theorem inf_at (ds : List Inf) (j : Nat) (x : Inf) (h : ds[j]? = some x) : (infc ds)[j * 3]? = some (.string x.name) ∧ (infc ds)[j * 3 + 1]? = some (.int .i64 x.size) ∧ (infc ds)[j * 3 + 2]? = some (.int .i64 x.tm) := by
  obtain ⟨hj, he⟩ := List.getElem?_eq_some_iff.1 h
  have hx : ds.toArray[j]! = x := by simp [hj, he]
  refine ⟨?_, ?_, ?_⟩
  · rw [infc_get ds _ (by omega), show j * 3 / 3 = j by omega, show j * 3 % 3 = 0 by omega, hx]; rfl
  · rw [infc_get ds _ (by omega), show (j * 3 + 1) / 3 = j by omega, show (j * 3 + 1) % 3 = 1 by omega, hx]; rfl
  · rw [infc_get ds _ (by omega), show (j * 3 + 2) / 3 = j by omega, show (j * 3 + 2) % 3 = 2 by omega, hx]; rfl

/-- BucketWhole's loop. -/
def Wholly (k f c m mp : Nat) (w0 : World) (vi : Value) (wr : World) : Prop :=
  ∃ (i : Nat) (os : List Ob) (A : List Ft) (es : List En) (ck : Nat), vi = .int .i64 i ∧ i ≤ 30 ∧ Bk k f c m os A wr ∧ MapIs mp es ck wr ∧ Logged es os i ∧ os.length ≤ i ∧ Below w0.heap.size w0 wr

set_option maxHeartbeats 2000000 in
set_option maxRecDepth 100000 in
theorem bwhole_any (a0 : Option Addr) (len0 cap0 : Nat) (z0 : List Bc) (w : World) (m0 : len0 ≤ maxLen) (w0 : BctsAt w a0 len0 z0) :
    Calls Try.prog 4 #[.slice a0 len0 cap0] w fun e w' => e = .returned (.bool true) ∧ Below w.heap.size w w' := by
  have hmm := @run_makeMap Try.prog
  have HN := Lib.hid (fun W => bnew_home W)
  have HA := Lib.hid (fun W => bawake_any W)
  obtain ⟨hzl, hzf, hza⟩ := w0
  go_enter Try.func4, Try.ntmps4
  go_wp2_with fail
  refine (HN.out _).mono ?_
  rintro e x1 ⟨k, f, c, m, rfl, D1, hH, b1⟩
  go_wp2_with fail
  refine (HA.out _).mono ?_
  rintro e x2 ⟨rfl, b2⟩
  have D2 := D1.below b2
  have e2 := D2.c0
  have bA := below_step b1 b2
  clear D1 b1 b2
  go_wp2_with fail
  obtain ⟨x3, hx3⟩ : ∃ x3, x3 = x2.alloc (.map #[] 0) := ⟨_, rfl⟩
  have b3 : Below x2.heap.size x2 x3 := by rw [hx3]; exact (Below.refl _ _).alloc (Nat.le_refl _) _
  have hm3 : MapIs x2.heap.size [] 0 x3 := by rw [hx3]; exact heap_alloc_new x2 _
  have D3 := D2.below b3
  have bB := below_step bA b3
  have hmpB : w.heap.size ≤ x2.heap.size := bA.size
  have hmp : f ≠ x2.heap.size ∧ c ≠ x2.heap.size ∧ m ≠ x2.heap.size ∧ k ≠ x2.heap.size := by
    obtain ⟨ck, D⟩ := D2
    have h1 := D.fuse.lts; have h2 := D.mlt; have h3 := D.klt
    omega
  rw [← hx3]
  obtain ⟨mp, hmpd⟩ : ∃ mp, mp = x2.heap.size := ⟨_, rfl⟩
  rw [← hmpd] at hm3 hmpB hmp ⊢
  clear hx3 hmpd b3 D2 bA e2
  go_loopw [5] (fun vi wr => Wholly k f c m mp w vi wr) (fun vi _ => 30 - (RowKit.intOf vi).toNat)
  case atStart => exact ⟨0, [], [], [], 0, rfl, by omega, D3, hm3, ⟨by simp, by simp, by simp⟩, by simp, bB⟩
  case round =>
    obtain ⟨i, os, A, es, ck, rfl, hi, D, M, L, hol, bR⟩ := hrel
    by_cases hlt : i < len0 ∧ i < 30
    · obtain ⟨h3, h4⟩ := hlt
      obtain ⟨g, off, rfl, hg, hcell⟩ := hza (by omega)
      obtain ⟨t, ht⟩ : ∃ t, z0[i]? = some t := ⟨z0[i]'(by omega), List.getElem?_eq_getElem (by omega)⟩
      have F := hzf t (List.mem_of_getElem? ht)
      obtain ⟨q0, q1, q2, q3, q4, q5⟩ := hcell i t ht
      have r0 := (bR.cell (p := ⟨g, off + i * 6, none⟩) hg).trans q0
      have r1 := (bR.cell (p := ⟨g, off + i * 6 + 1, none⟩) hg).trans q1
      have r2 := (bR.cell (p := ⟨g, off + i * 6 + 2, none⟩) hg).trans q2
      have r3 := (bR.cell (p := ⟨g, off + i * 6 + 3, none⟩) hg).trans q3
      have r4 := (bR.cell (p := ⟨g, off + i * 6 + 4, none⟩) hg).trans q4
      have r5 := (bR.cell (p := ⟨g, off + i * 6 + 5, none⟩) hg).trans q5
      have i4 : (i : Int) < 30 := by omega
      obtain ⟨tk, tn, tm, ta, tb, td⟩ := t
      simp only at r0 r1 r2 r3 r4 r5
      have HFit := Lib.hid F
      clear q0 q1 q2 q3 q4 q5 hcell ht F hza hzf hzl
      have K40 := Lib.hid (fun W => show Calls Try.prog 18 #[.string ta, .int .i64 40] W (fun e w' => e = .returned (.string (cutB ta 40)) ∧ W = w') from cut_any ta 40 W (by decide))
      have K60 := Lib.hid (fun W => show Calls Try.prog 18 #[.string tb, .int .i64 60] W (fun e w' => e = .returned (.string (cutB tb 60)) ∧ W = w') from cut_any tb 60 W (by decide))
      obtain ⟨s40, hs40⟩ : ∃ s40, s40 = cutB ta 40 := ⟨_, rfl⟩
      obtain ⟨s60, hs60⟩ : ∃ s60, s60 = cutB tb 60 := ⟨_, rfl⟩
      have h40 : s40.size ≤ 40 := by
        rw [hs40]
        obtain ⟨l, h, hl⟩ := cut_list ta 40
        rw [h]
        simpa [bs, ByteArray.size] using hl
      have h60 : s60.size ≤ 60 := by
        rw [hs60]
        obtain ⟨l, h, hl⟩ := cut_list tb 60
        rw [h]
        simpa [bs, ByteArray.size] using hl
      rw [← hs40] at K40
      rw [← hs60] at K60
      clear hs40 hs60
      have hblk := heap_alloc_new wr (.cells #[.int .i64 tk, .int .i64 tn, .int .i64 tm, .string ta, .string tb, .bool td] 39)
      obtain ⟨W1, hW1⟩ : ∃ W1, W1 = wr.alloc (.cells #[.int .i64 tk, .int .i64 tn, .int .i64 tm, .string ta, .string tb, .bool td] 39) := ⟨_, rfl⟩
      rw [← hW1] at hblk
      have bW1 : Below wr.heap.size wr W1 := by rw [hW1]; exact (Below.refl _ wr).alloc (Nat.le_refl _) _
      have zW1 : wr.heap.size < W1.heap.size := by rw [hW1]; simp
      have hcel : ∀ o v, (#[Value.int .i64 tk, .int .i64 tn, .int .i64 tm, .string ta, .string tb, .bool td] : Array Value)[o]? = some v → W1.cell? ⟨wr.heap.size, o, none⟩ = some v := fun o v hv => by
        rw [cell_of_row _ _ o _ _ _ hblk]; exact hv
      have k0 := hcel 0 _ rfl
      have k1 := hcel 1 _ rfl
      have k3 := hcel 3 _ rfl
      have k4 := hcel 4 _ rfl
      have k5 := hcel 5 _ rfl
      have D1 := D.below bW1
      have M1 : MapIs mp es ck W1 := M.turn (S := fun _ => False) (Turn.of_below bW1) (fun h => h)
      have bA1 := bR.trans (bW1.mono bR.size)
      have hnew : ∀ W, Turn (Mb f c m) W1 W → W.heap[wr.heap.size]? = W1.heap[wr.heap.size]? := fun W t => t.block _ zW1 (by
        obtain ⟨c0, D0⟩ := D
        have h1 := D0.fuse.lts
        have h2 := D0.mlt
        rintro (e | e | e) <;> omega)
      have HNEW := Lib.hid hnew
      rw [hW1] at k0 k3
      have HW1 := Lib.hid hW1
      clear hnew hW1 hblk hcel D M bR
      go_wp2_with fail
      refine (K40.out _).mono ?_
      rintro e y1 ⟨rfl, rfl⟩
      rw [← HW1.out] at k0 k3 ⊢
      clear r0 r1 r2 r3 r4 r5
      by_cases t1 : tk = 1
      case' pos =>
        subst t1
        have HP := Lib.hid (fun W D => bput_any k f c m os A s40 s60 tn W D)
        go_wp2_with fail
        go_region_held3 (fun W => W.cell? ⟨wr.heap.size, 1, none⟩ = some (.int .i64 tn) ∧ W.cell? ⟨wr.heap.size, 4, none⟩ = some (.string tb)) (first | exact ⟨k1, k4⟩ | assumption)
          (first
            | (go_at_call 18; refine (K60.out _).mono ?_; rintro e y5 ⟨rfl, rfl⟩)
            | (go_at_call 19; refine (HP.out _ (D1.below (Below.refl _ W1).drew)).mono ?_; rintro e y6 ⟨er, os5, A5, rfl, D6, hs6, hl6, t6⟩; have d6 := And.intro ((World.cell?_of_block (w := W1) (a := ⟨wr.heap.size, 1, none⟩) (HNEW.out y6 ((Turn.refl _ W1).drew.trans t6))).trans k1) ((World.cell?_of_block (w := W1) (a := ⟨wr.heap.size, 4, none⟩) (HNEW.out y6 ((Turn.refl _ W1).drew.trans t6))).trans k4)))
        have M6 : MapIs mp es ck y6 := M1.turn (w := W1.drew) t6 (by rintro (e | e | e) <;> omega)
        obtain ⟨cv, hcv1, hcv2⟩ := count_val L (kb s40 s60)
        have HL := Lib.hid (L.put (os' := os5) s40 s60 ck hs6 h40 h60)
        obtain ⟨cn, hcn⟩ : ∃ cn, cn = countE (kb s40 s60) es := ⟨_, rfl⟩
        rw [← hcn] at cv hcv1 HL
        have hl0 := run_look (P := Try.prog) (w := y6) Try.underlying48 Try.underlying9 (.int .i64 0) zero_int M6 (kb s40 s60) false
        have hst := run_store (P := Try.prog) (w := y6) Try.underlying48 Try.underlying9 M6 (kb s40 s60) (.int .i64 ((cn : Int) + 1))
        rw [cv] at hl0
        simp only [Bool.false_eq_true, if_false] at hl0
        obtain ⟨ck5, hck5⟩ : ∃ ck5, ck5 = if (lookE (kb s40 s60) es).isSome then ck else ck + 1 := ⟨_, rfl⟩
        rw [← hck5] at hst
        obtain ⟨W5, hW5⟩ : ∃ W5, W5 = World.putMap y6 mp (setE (kb s40 s60) (.int .i64 ((cn : Int) + 1)) ck es) ck5 := ⟨_, rfl⟩
        rw [← hW5] at hst
        have hmpl : mp < y6.heap.size := (Array.getElem?_eq_some_iff.1 M6).1
        have M5 : MapIs mp (setE (kb s40 s60) (.int .i64 ((cn : Int) + 1)) ck es) ck5 W5 := by rw [hW5]; exact mapIs_put hmpl _ _
        have t5 : Turn (fun j => j = mp) y6 W5 := by rw [hW5]; exact turn_put (S := fun j => j = mp) rfl _ _
        unfold kb at hl0 hst
        have g4 := d6.2
        have e1 : ¬ maxLen < s40.size + 1 := by unfold maxLen; omega
        have HW5 := Lib.hid hW5; have HCK5 := Lib.hid hck5; have HCN := Lib.hid hcn
        clear HNEW K40 hW5 hck5 hcn cv hcv2 L
        go_wp2_with fail
        refine (K60.out _).mono ?_
        rintro e y7 ⟨rfl, rfl⟩
        have D5 : Bk k f c m os5 A5 W5 := D6.other t5 hmp.2.2.2 hmp.1 hmp.2.1 hmp.2.2.1
        have b5 : Below w.heap.size w W5 := (bA1.trans (D1.turned hH ((Turn.refl _ W1).drew.trans t6))).trans (t5.below (by have := bA1.size; have := t6.size; have := (show W1.drew.heap.size = W1.heap.size from rfl); omega) (fun j hj => by omega))
        have l5 : os5.length ≤ i + 1 := by omega
        obtain ⟨es5, hes5⟩ : ∃ es5, es5 = setE (kb s40 s60) (.int .i64 ((cn : Int) + 1)) ck es := ⟨_, rfl⟩
        have L5' := HL.out
        rw [← hes5] at L5'
        rw [← hes5] at M5
        have HL5 := Lib.hid L5'
        clear L5' hes5 HL
        go_wp2_with fail
      case' neg =>
        have y1 : (tk == 1) = false := by simpa using t1
        have HL5 := Lib.hid (L.more (Nat.le_succ i))
        by_cases t2 : tk = 2
        case' pos =>
          subst t2
          have HP := Lib.hid (bdelete_any k f c m os A s40 W1 D1)
          go_wp2_with fail
          refine HP.out.mono ?_
          rintro e W5 ⟨er, os5, A5, rfl, D5, hs6, hl6, t6⟩
          have M5 : MapIs mp es ck W5 := M1.turn t6 (by rintro (e | e | e) <;> omega)
          have b5 : Below w.heap.size w W5 := bA1.trans (D1.turned hH t6)
          have l5 : os5.length ≤ i + 1 := by omega
          have HL6 := Lib.hid (HL5.out.fewer hs6)
          obtain ⟨es5, hes5⟩ : ∃ es5, es5 = es := ⟨_, rfl⟩
          obtain ⟨ck5, hck5⟩ : ∃ ck5, ck5 = ck := ⟨_, rfl⟩
          rw [← hes5] at M5 HL6
          rw [← hck5] at M5
          clear HL5 hes5 hck5
          have HL5 := HL6
          clear HL6
          go_wp2_with fail
        case' neg =>
          have y2 : (tk == 2) = false := by simpa using t2
          by_cases t6 : tk = 6
          case' pos =>
            subst t6
            have hd0 := D1.c0
            have hft : Ft.Fits (tn, td) := by unfold Ft.Fits; exact ⟨HFit.out.n0, HFit.out.n1⟩
            have HP := Lib.hid (fun W D => barm_any k f c m os A tn td W D hft)
            go_wp2_with fail
            go_region_held3 (fun W => W.cell? ⟨k, 0, none⟩ = some (.pointer (some ⟨f, 0, none⟩)) ∧ W.cell? ⟨wr.heap.size, 1, none⟩ = some (.int .i64 tn) ∧ W.cell? ⟨wr.heap.size, 5, none⟩ = some (.bool td)) (first | exact ⟨hd0, k1, k5⟩ | assumption)
              (first
                | (go_at_call 21; refine (HP.out _ (D1.below (Below.refl _ W1).drew)).mono ?_; rintro e W5 ⟨er, A5, rfl, D5, t6⟩; have d6 := And.intro D5.c0 (And.intro ((World.cell?_of_block (w := W1) (a := ⟨wr.heap.size, 1, none⟩) (HNEW.out W5 ((Turn.refl _ W1).drew.trans t6))).trans k1) ((World.cell?_of_block (w := W1) (a := ⟨wr.heap.size, 5, none⟩) (HNEW.out W5 ((Turn.refl _ W1).drew.trans t6))).trans k5))))
            have M5 : MapIs mp es ck W5 := M1.turn (w := W1.drew) t6 (by rintro (e | e | e) <;> omega)
            have b5 : Below w.heap.size w W5 := bA1.trans (D1.turned hH ((Turn.refl _ W1).drew.trans t6))
            have l5 : os.length ≤ i + 1 := by omega
            obtain ⟨es5, hes5⟩ : ∃ es5, es5 = es := ⟨_, rfl⟩
            obtain ⟨ck5, hck5⟩ : ∃ ck5, ck5 = ck := ⟨_, rfl⟩
            obtain ⟨os5, hos5⟩ : ∃ os5, os5 = os := ⟨_, rfl⟩
            rw [← hes5] at M5 HL5
            rw [← hck5] at M5
            rw [← hos5] at D5 HL5 l5
            clear hes5 hck5 hos5 d6
            go_wp2_with fail
          case' neg =>
            have y6 : (tk == 6) = false := by simpa using t6
            obtain ⟨W5, hW5⟩ : ∃ W5, W5 = W1 := ⟨_, rfl⟩
            have D5 := D1
            have M5 := M1
            have b5 := bA1
            have l5 : os.length ≤ i + 1 := by omega
            obtain ⟨es5, hes5⟩ : ∃ es5, es5 = es := ⟨_, rfl⟩
            obtain ⟨ck5, hck5⟩ : ∃ ck5, ck5 = ck := ⟨_, rfl⟩
            obtain ⟨os5, hos5⟩ : ∃ os5, os5 = os := ⟨_, rfl⟩
            obtain ⟨A5, hA5⟩ : ∃ A5, A5 = A := ⟨_, rfl⟩
            go_wp2_with fail
            rw [← hes5] at M5 HL5
            rw [← hck5] at M5
            rw [← hos5] at D5 HL5 l5
            rw [← hA5] at D5
            rw [← hW5] at D5 M5 b5 ⊢
            clear hes5 hck5 hos5 hA5 hW5
      all_goals
        clear D1 M1 bA1 HFit K60 HW1
        have C := Lib.hid (blooks k f c m os5 A5 ⟨#[]⟩ W5 D5 (by omega))
        refine C.out.mono ?_
        rintro e W6 ⟨v, ds, rfl, hp, hso, hsl, b6⟩
        obtain ⟨a2, cap2, gl, ol, rfl, hlp, hcl⟩ := sl_open3 hsl
        rw [infs_all] at hp
        obtain ⟨n, hn⟩ : ∃ n, n = ds.length := ⟨_, rfl⟩
        rw [← hn] at hlp hcl
        rw [← hn]
        have hnb : n ≤ 1000 := by rw [hn, hp.length_eq, List.length_map]; omega
        have HN5 := Lib.hid hn
        clear hn hsl hso C
        try clear HNEW
        go_wp2_with fail
        go_loopw [84] (fun vj wr2 => ∃ j : Nat, vj = .int .i64 j ∧ j ≤ n ∧ Below W6.heap.size W6 wr2) (fun vj _ => n - (RowKit.intOf vj).toNat)
        case atStart => exact ⟨0, rfl, by omega, Below.refl _ _⟩
        case round =>
          obtain ⟨j, rfl, hj, b7⟩ := hrel
          by_cases hjn : j < n
          · obtain ⟨rfl, hlg, hgl⟩ := hlp (by omega)
            obtain ⟨x, hx⟩ : ∃ x, ds[j]? = some x := ⟨ds[j]'(by have := HN5.out; omega), List.getElem?_eq_getElem (by have := HN5.out; omega)⟩
            obtain ⟨o, ho, hox⟩ := List.mem_map.1 (hp.mem_iff.1 (List.mem_of_getElem? hx))
            obtain ⟨v0, v1, v2⟩ := inf_at ds j x hx
            have q0 := ((b7.cell (p := ⟨gl, ol + j * 3, none⟩) hgl).trans (hcl (j * 3) (by omega))).trans v0
            have q1 := ((b7.cell (p := ⟨gl, ol + (j * 3 + 1), none⟩) hgl).trans (hcl (j * 3 + 1) (by omega))).trans v1
            have q2 := ((b7.cell (p := ⟨gl, ol + (j * 3 + 2), none⟩) hgl).trans (hcl (j * 3 + 2) (by omega))).trans v2
            rw [← hox] at q0 q1 q2
            simp only [Ob.inf] at q0 q1 q2
            rw [← Nat.add_assoc] at q1 q2
            have hjn' : (j : Int) < n := by omega
            obtain ⟨X, hX⟩ : ∃ X, X = wr.alloc (.cells #[.string o.name, .int .i64 o.data.size, .int .i64 o.tm] 55) := ⟨_, rfl⟩
            have hXb := heap_alloc_new wr (.cells #[.string o.name, .int .i64 o.data.size, .int .i64 o.tm] 55)
            rw [← hX] at hXb
            have bX : Below wr.heap.size wr X := by rw [hX]; exact (Below.refl _ _).alloc (Nat.le_refl _) _
            have zX : wr.heap.size < X.heap.size := by rw [hX]; simp
            have b56 : Below W5.heap.size W5 X := b6.trans ((b7.mono b6.size).trans (bX.mono (by have := b6.size; have := b7.size; omega)))
            have DX := D5.below b56
            have xc : X.cell? ⟨wr.heap.size, 0, none⟩ = some (.string o.name) := by rw [cell_of_row _ _ 0 _ _ _ hXb]; rfl
            have xc2 := xc
            rw [hX] at xc2
            have HP := Lib.hid (bpeek k f c m os5 A5 o.name X DX)
            have hlo := look_ofO os5 D5.names o ho
            have hpk : peekO o.name os5 = o.data := by unfold peekO; rw [hlo]; rfl
            rw [hpk, hlo] at HP
            obtain ⟨cv, hcv1, hcv2⟩ := count_val HL5.out (kb o.name o.data)
            have hcv3 := hcv2 (HL5.out.keys o ho)
            obtain ⟨hsm1, hsm2⟩ := HL5.out.small o ho
            obtain ⟨cn, hcn⟩ : ∃ cn, cn = countE (kb o.name o.data) es5 := ⟨_, rfl⟩
            rw [← hcn] at cv hcv1 hcv3
            have hMX : ∀ W, Below X.heap.size X W → MapIs mp es5 ck5 W := fun W b => (M5.turn (S := fun _ => False) (Turn.of_below b56) (fun h => h)).turn (S := fun _ => False) (Turn.of_below b) (fun h => h)
            have HMX := Lib.hid hMX
            have HX := Lib.hid hX
            clear hMX hX hXb hcn hcv2 hpk hlo hox v0 v1 v2 hx ho hp hcl hlp
            go_wp2_with fail
            rw [← HX.out]
            refine HP.out.mono ?_
            rintro e X2 ⟨rfl, b8⟩
            have hl0 := run_look (P := Try.prog) (w := X2) Try.underlying48 Try.underlying9 (.int .i64 0) zero_int (HMX.out X2 b8) (kb o.name o.data) false
            rw [cv] at hl0
            simp only [Bool.false_eq_true, if_false] at hl0
            unfold kb at hl0
            have yc := (b8.cell (p := ⟨wr.heap.size, 0, none⟩) zX).trans xc
            have e1 : ¬ maxLen < o.name.size + 1 := by unfold maxLen; omega
            have e2 : ((cn : Int) == 0) = false := by simp; omega
            clear cv xc xc2
            go_wp2_with fail
            all_goals exact ⟨⟨j + 1, by go_num, by omega, (b7.trans (bX.mono b7.size)).trans (b8.mono (by have := b7.size; omega))⟩, by simp [RowKit.intOf]; omega⟩
          · have hjj : j = n := by omega
            subst hjj
            have b57 : Below W5.heap.size W5 wr := b6.trans (b7.mono b6.size)
            have D7 := D5.below b57
            have M7 : MapIs mp es5 ck5 wr := M5.turn (S := fun _ => False) (Turn.of_below b57) (fun h => h)
            have bE := below_step b5 b57
            clear hp hcl hlp
            go_wp2_with fail
            exact ⟨⟨i + 1, os5, A5, es5, ck5, by go_num, by omega, D7, M7, HL5.out, l5, bE⟩, by simp [RowKit.intOf]; omega⟩
    · clear hza hzf hzl
      by_cases h3 : i < len0
      all_goals
        first
          | (have i20 : i = 30 := by omega
             subst i20)
          | skip
        clear hlt
        go_wp2_with fail
        go_ret
        exact ⟨rfl, bR⟩
end Go.Proofs.Ytfjihookoilnnaa
