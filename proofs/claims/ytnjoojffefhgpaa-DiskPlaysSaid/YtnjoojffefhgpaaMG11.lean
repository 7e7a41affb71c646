/- Acts of layer 5 opened; BucketWhole. BucketWhole: what was handed in is kept in a map of counts. -/
import Derived.Test.YtnjoojffefhgpaaMG6
import Derived.Deep.SlicePairs
namespace Go.Proofs.Ytnjoojffefhgpaa
open Go.RowKit Go.Lib Go.Deep Go.ChangeShapes Go.WideShapes

/-- An act of layer 5. -/
structure Bc where
  k : Int
  n : Int
  m : Int
  a : ByteArray
  b : ByteArray
  dn : Bool
structure Bc.Fits (t : Bc) : Prop where
  k0 : -9223372036854775808 ≤ t.k
  k1 : t.k ≤ 9223372036854775807
  n0 : -9223372036854775808 ≤ t.n
  n1 : t.n ≤ 9223372036854775807
  m0 : -9223372036854775808 ≤ t.m
  m1 : t.m ≤ 9223372036854775807
  a1 : t.a.size ≤ maxLen
  b1 : t.b.size ≤ maxLen
instance : Inhabited Bc := ⟨⟨0, 0, 0, ByteArray.empty, ByteArray.empty, false⟩⟩
/-- Acts read from cells: the first 40. -/
def BctsAt (w : World) (ao : Option Addr) (len : Nat) (ts : List Bc) : Prop :=
  ts.length = min len 40 ∧ (∀ t ∈ ts, t.Fits) ∧ (0 < len → ∃ b off, ao = some ⟨b, off, none⟩ ∧ b < w.heap.size ∧ ∀ i t, ts[i]? = some t →
    w.cell? ⟨b, off + i * 6, none⟩ = some (.int .i64 t.k) ∧ w.cell? ⟨b, off + i * 6 + 1, none⟩ = some (.int .i64 t.n) ∧ w.cell? ⟨b, off + i * 6 + 2, none⟩ = some (.int .i64 t.m) ∧
    w.cell? ⟨b, off + i * 6 + 3, none⟩ = some (.string t.a) ∧ w.cell? ⟨b, off + i * 6 + 4, none⟩ = some (.string t.b) ∧ w.cell? ⟨b, off + i * 6 + 5, none⟩ = some (.bool t.dn))
theorem six5 {α : Type} (l : List α) (h : l.length = 6) : ∃ a b c d e f, l = [a, b, c, d, e, f] := by
  match l, h with
  | [a, b, c, d, e, f], _ => exact ⟨a, b, c, d, e, f, rfl⟩

theorem bcts_open {H : Type} {enc : TypeId × Value → H} {W : World} {base : Nat} {spare : Nat → Bool} {held : Bool} {fuel : Nat} {ao : Option Addr} {len cap : Nat} {x : DataW H × List MemPlace}
    (h : DataW.trod enc Try.prog W base spare held fuel 47 [.slice ao len cap] = some x) : ∃ ts, len ≤ maxLen ∧ BctsAt W ao len ts := by
  rcases open_slice Try.underlying47 h with ⟨hcs, _⟩ | ⟨a, len', cap', m, n, D, Pl, hcs, hb, hl, hm, hmm, _, hi⟩
  · simp only [List.cons.injEq, Value.slice.injEq, and_true] at hcs
    obtain ⟨rfl, rfl, rfl⟩ := hcs
    exact ⟨[], Nat.zero_le _, by simp, by simp, fun h => absurd h (Nat.lt_irrefl 0)⟩
  · simp only [List.cons.injEq, Value.slice.injEq, and_true] at hcs
    obtain ⟨rfl, rfl, rfl⟩ := hcs
    have hlm : len ≤ m := by rw [hmm]; split <;> omega
    have ce : Try.prog.cellsOf 59 = 6 := by kernel_rfl
    have each : ∀ i, i < m → ∃ t : Bc, t.Fits ∧ W.cell? (a.add (i * 6)) = some (.int .i64 t.k) ∧ W.cell? ((a.add (i * 6)).add 1) = some (.int .i64 t.n) ∧ W.cell? ((a.add (i * 6)).add 2) = some (.int .i64 t.m) ∧ W.cell? ((a.add (i * 6)).add 3) = some (.string t.a) ∧ W.cell? ((a.add (i * 6)).add 4) = some (.string t.b) ∧ W.cell? ((a.add (i * 6)).add 5) = some (.bool t.dn) := by
      intro i him
      obtain ⟨cs', h1, h2⟩ := hi i him
      rw [ce] at h1
      obtain ⟨_, hlen, hcell⟩ := World.cells?_some h1
      obtain ⟨c0, c1, c2, c3, c4, c5, rfl⟩ := six5 cs' hlen
      obtain ⟨xs, k, hk, hxy, _, hxl, hf⟩ := DataW.trod_struct Try.underlying59 h2
      obtain ⟨y0, y1, y2, y3, y4, y5, rfl⟩ := six5 xs hxl
      have e0 := hcell 0 (by omega); have e1 := hcell 1 (by omega); have e2 := hcell 2 (by omega); have e3 := hcell 3 (by omega); have e4 := hcell 4 (by omega); have e5 := hcell 5 (by omega)
      have ci : Try.prog.cellsOf 3 = 1 := by kernel_rfl
      have cs : Try.prog.cellsOf 9 = 1 := by kernel_rfl
      have cb : Try.prog.cellsOf 4 = 1 := by kernel_rfl
      have g0 := hf 0 _ rfl; have g1 := hf 1 _ rfl; have g2 := hf 2 _ rfl; have g3 := hf 3 _ rfl; have g4 := hf 4 _ rfl; have g5 := hf 5 _ rfl
      simp [ci, cs, cb] at g0 g1 g2 g3 g4 g5
      obtain ⟨z0, q0, _, w0⟩ := DataW.trod_int Try.underlying3 g0
      obtain ⟨z1, q1, _, w1⟩ := DataW.trod_int Try.underlying3 g1
      obtain ⟨z2, q2, _, w2⟩ := DataW.trod_int Try.underlying3 g2
      obtain ⟨z3, q3, _, w3⟩ := DataW.trod_string Try.underlying9 g3
      obtain ⟨z4, q4, _, w4⟩ := DataW.trod_string Try.underlying9 g4
      obtain ⟨z5, q5, _⟩ := DataW.trod_bool Try.underlying4 g5
      simp only [List.cons.injEq, and_true] at q0 q1 q2 q3 q4 q5
      have b0 := bd_i64 w0; have b1 := bd_i64 w1; have b2 := bd_i64 w2
      subst q0 q1 q2 q3 q4 q5
      exact ⟨⟨z0, z1, z2, z3, z4, z5⟩, ⟨b0.1, b0.2, b1.1, b1.2, b2.1, b2.2, w3, w4⟩, by rw [add_add, Nat.add_zero] at e0; simpa using e0, by simpa using e1, by simpa using e2, by simpa using e3, by simpa using e4, by simpa using e5⟩
    obtain ⟨T, hT⟩ := choose_lt each
    refine ⟨(List.range (min len 40)).map T, Nat.le_trans hl hm, by simp, fun t ht => ?_, fun h0 => ?_⟩
    · obtain ⟨i, hi2, rfl⟩ := List.mem_map.1 ht
      have := List.mem_range.1 hi2
      exact (hT i (by omega)).1
    · obtain ⟨b, off, spot⟩ := a
      have hspot : spot = none := by
        have := World.cell?_spot (hT 0 (by omega)).2.1
        simpa [Addr.add] using this
      subst hspot
      have hc0 := (hT 0 (by omega)).2.1
      refine ⟨b, off, rfl, ?_, fun i t hit => ?_⟩
      · have := World.block_lt_of_cell? W _ hc0
        rwa [add_plain] at this
      · have hlt : i < min len 40 := by
          have := (List.getElem?_eq_some_iff.1 hit).1
          simpa using this
        simp only [List.getElem?_map, List.getElem?_range hlt, Option.map_some, Option.some.injEq] at hit
        subst hit
        obtain ⟨_, d0, d1, d2, d3, d4, d5⟩ := hT i (by omega)
        simp only [add_plain] at d0 d1 d2 d3 d4 d5
        exact ⟨d0, d1, d2, d3, d4, d5⟩
end Go.Proofs.Ytnjoojffefhgpaa

namespace Go.Proofs.Ytnjoojffefhgpaa
open Go.Conc Go.RowKit
set_option linter.unusedVariables false

/-- A name and bytes, as BucketWhole keeps them. -/
def kb (n d : ByteArray) : ByteArray := (n ++ (⟨#[124]⟩ : ByteArray)) ++ d
/-- Counts of at least one, at most i; of each object its key is there. -/
structure Logged (es : List En) (os : List Ob) (i : Nat) : Prop where
  vals : ∀ e ∈ es, ∃ c : Nat, e.val = .int .i64 c ∧ 1 ≤ c ∧ c ≤ i
  keys : ∀ x ∈ os, (lookE (kb x.name x.data) es).isSome = true
  small : ∀ x ∈ os, x.name.size ≤ 40 ∧ x.data.size ≤ 60
theorem look_memE (k : ByteArray) : ∀ (es : List En) (x : En), lookE k es = some x → x ∈ es ∧ x.name = k
  | [], x, h => by cases h
  | e :: es, x, h => by
    unfold lookE at h
    by_cases hk : k = e.name
    · rw [if_pos hk] at h
      cases h
      exact ⟨List.mem_cons_self, hk.symm⟩
    · rw [if_neg hk] at h
      have := look_memE k es x h
      exact ⟨List.mem_cons_of_mem _ this.1, this.2⟩
theorem set_memE (k : ByteArray) (v : Value) (b : Nat) : ∀ (es : List En) (x : En), x ∈ setE k v b es → x ∈ es ∨ x.val = v
  | [], x, h => by simp [setE] at h; subst h; exact .inr rfl
  | e :: es, x, h => by
    unfold setE at h
    by_cases hk : k = e.name
    · rw [if_pos hk, List.mem_cons] at h
      rcases h with rfl | h
      · exact .inr rfl
      · exact .inl (List.mem_cons_of_mem _ h)
    · rw [if_neg hk, List.mem_cons] at h
      rcases h with rfl | h
      · exact .inl List.mem_cons_self
      · rcases set_memE k v b es x h with h | h
        · exact .inl (List.mem_cons_of_mem _ h)
        · exact .inr h
theorem look_setE (k n : ByteArray) (v : Value) (b : Nat) : ∀ es : List En, (lookE n (setE k v b es)).isSome = (decide (n = k) || (lookE n es).isSome)
  | [] => by by_cases h : n = k <;> simp [setE, lookE, h]
  | e :: es => by
    have ih := look_setE k n v b es
    unfold setE
    by_cases hk : k = e.name
    · rw [if_pos hk]
      simp only [lookE]
      by_cases hn : n = e.name
      · rw [if_pos hn, if_pos hn]; simp
      · rw [if_neg hn, if_neg hn]
        have : n ≠ k := fun h => hn (h.trans hk)
        simp [this]
    · rw [if_neg hk]
      simp only [lookE]
      by_cases hn : n = e.name
      · rw [if_pos hn, if_pos hn]; simp
      · rw [if_neg hn, if_neg hn, ih]
theorem set_memO (k d : ByteArray) (t : Int) (b : Nat) : ∀ (os : List Ob) (x : Ob), x ∈ setO k d t b os → x ∈ os ∨ (x.name = k ∧ x.data = d)
  | [], x, h => by simp [setO] at h; subst h; exact .inr ⟨rfl, rfl⟩
  | e :: es, x, h => by
    unfold setO at h
    by_cases hk : k = e.name
    · rw [if_pos hk, List.mem_cons] at h
      rcases h with rfl | h
      · exact .inr ⟨hk.symm, rfl⟩
      · exact .inl (List.mem_cons_of_mem _ h)
    · rw [if_neg hk, List.mem_cons] at h
      rcases h with rfl | h
      · exact .inl List.mem_cons_self
      · rcases set_memO k d t b es x h with h | h
        · exact .inl (List.mem_cons_of_mem _ h)
        · exact .inr h
theorem set_lenO (k d : ByteArray) (t : Int) (b : Nat) : ∀ os : List Ob, (setO k d t b os).length ≤ os.length + 1
  | [] => by simp [setO]
  | e :: es => by
    have := set_lenO k d t b es
    unfold setO
    split <;> simp <;> omega
theorem Logged.more {es : List En} {os : List Ob} {i j : Nat} (h : Logged es os i) (hij : i ≤ j) : Logged es os j :=
  ⟨fun e he => by obtain ⟨c, h1, h2, h3⟩ := h.vals e he; exact ⟨c, h1, h2, by omega⟩, h.keys, h.small⟩
theorem Logged.fewer {es : List En} {os os' : List Ob} {i : Nat} (h : Logged es os i) (hs : ∀ x ∈ os', x ∈ os) : Logged es os' i :=
  ⟨h.vals, fun x hx => h.keys x (hs x hx), fun x hx => h.small x (hs x hx)⟩
/-- The count of a key. -/
def countE (k : ByteArray) (es : List En) : Nat := match lookE k es with | none => 0 | some e => match e.val with | .int .i64 c => c.toNat | _ => 0
theorem count_val {es : List En} {os : List Ob} {i : Nat} (h : Logged es os i) (k : ByteArray) : ((lookE k es).map (·.val)).getD (.int .i64 0) = .int .i64 (countE k es) ∧ countE k es ≤ i ∧ ((lookE k es).isSome = true → 1 ≤ countE k es) := by
  unfold countE
  cases hl : lookE k es with
  | none => exact ⟨rfl, Nat.zero_le _, fun h => by cases h⟩
  | some e =>
    obtain ⟨c, h1, h2, h3⟩ := h.vals e (look_memE k es e hl).1
    simp only [Option.map_some, Option.getD_some, h1, Int.toNat_natCast]
    exact ⟨trivial, h3, fun _ => h2⟩
/-- A Put, done or not, and its count. -/
theorem Logged.put {es : List En} {os os' : List Ob} {i : Nat} (h : Logged es os i) (n d : ByteArray) (b : Nat) (hs : ∀ x ∈ os', x ∈ os ∨ (x.name = n ∧ x.data = d)) (hn : n.size ≤ 40) (hd : d.size ≤ 60) : Logged (setE (kb n d) (.int .i64 ((countE (kb n d) es : Nat) + 1)) b es) os' (i + 1) := by
  have hc := count_val h (kb n d)
  refine ⟨fun e he => ?_, fun x hx => ?_, fun x hx => ?_⟩
  · rcases set_memE _ _ _ _ _ he with h1 | h1
    · obtain ⟨c, h2, h3, h4⟩ := h.vals e h1
      exact ⟨c, h2, h3, by omega⟩
    · exact ⟨countE (kb n d) es + 1, by rw [h1]; simp, by omega, by omega⟩
  · rw [look_setE]
    rcases hs x hx with h1 | ⟨h1, h2⟩
    · rw [h.keys x h1]; simp
    · rw [h1, h2]; simp
  · rcases hs x hx with h1 | ⟨h1, h2⟩
    · exact h.small x h1
    · rw [h1, h2]; exact ⟨hn, hd⟩
theorem look_ofO : ∀ (os : List Ob), (os.map (·.name)).Nodup → ∀ x ∈ os, lookO x.name os = some x
  | [], _, x, hx => by cases hx
  | e :: es, hn, x, hx => by
    rw [List.map_cons, List.nodup_cons] at hn
    unfold lookO
    rcases List.mem_cons.1 hx with rfl | hx
    · rw [if_pos rfl]
    · by_cases h : x.name = e.name
      · exact absurd (List.mem_map.2 ⟨x, hx, h⟩) hn.1
      · rw [if_neg h]
        exact look_ofO es hn.2 x hx
theorem Bk.other {k f c m mp : Nat} {os : List Ob} {A : List Ft} {w w' : World} (h : Bk k f c m os A w) (t : Turn (fun j => j = mp) w w') (h1 : k ≠ mp) (h2 : f ≠ mp) (h3 : c ≠ mp) (h4 : m ≠ mp) : Bk k f c m os A w' := by
  obtain ⟨ck, h⟩ := h
  exact ⟨ck, Nat.lt_of_lt_of_le h.klt t.size, Nat.lt_of_lt_of_le h.mlt t.size, h.kf, h.kc, h.km, h.fm, h.cm, (t.cell (p := ⟨k, 0, none⟩) h.klt h1).trans h.c0, (t.cell (p := ⟨k, 1, none⟩) h.klt h1).trans h.c1,
    h.fuse.turn t h2 h3, h.map.turn t h4, h.names, h.stamps⟩
theorem infs_all (os : List Ob) : infsO ⟨#[]⟩ os = os.map Ob.inf := by
  unfold infsO
  congr 1
  rw [List.filter_eq_self]
  intro x _
  unfold pre
  rw [decide_eq_true_iff]
  exact List.nil_prefix
theorem zero_int (w : World) : (zeroValue 3).run Try.prog w = .ok (.int .i64 0) w := by kernel_rfl
theorem kb_size (n d : ByteArray) : (kb n d).size = n.size + 1 + d.size := by
  unfold kb
  rw [ByteArray.size_append, ByteArray.size_append]
  rfl

theorem Bk.turned {B k f c m : Nat} {os : List Ob} {A : List Ft} {w w' : World} (h : Bk k f c m os A w) (hB : BHome B k f c m) (t : Turn (Mb f c m) w w') : Below B w w' := by
  obtain ⟨ck, h⟩ := h
  have h0 := hB.k; have h1 := hB.f; have h2 := hB.c; have h3 := hB.m
  exact t.below (Nat.le_trans hB.k (Nat.le_of_lt h.klt)) fun i hi => by rcases hi with e | e | e <;> omega
theorem bput_any (k f c m : Nat) (os : List Ob) (A : List Ft) (name data : ByteArray) (tm : Int) (w : World) (h : Bk k f c m os A w) :
    Calls Try.prog 35 #[.pointer (some ⟨k, 0, none⟩), .string name, .string data, .int .i64 tm] w fun e w' => ∃ er os' A', e = .returned (.int .i64 er) ∧
      Bk k f c m os' A' w' ∧ (∀ x ∈ os', x ∈ os ∨ (x.name = name ∧ x.data = data)) ∧ os'.length ≤ os.length + 1 ∧ Turn (Mb f c m) w w' := by
  obtain ⟨ck, h⟩ := h
  by_cases hn : 0 < name.size ∧ name.size ≤ 40
  · refine (put_go k f c m os A ck name data tm w h hn).mono ?_
    rintro e w' ⟨rfl, n⟩
    refine ⟨_, _, _, rfl, n.1, ?_, ?_, n.2⟩
    · split
      · exact set_memO _ _ _ _ _
      · exact fun x hx => .inl hx
    · split
      · exact set_lenO _ _ _ _ _
      · omega
  · refine (put_bad k f c m os A ck name data tm w h hn).mono ?_
    rintro e w' ⟨rfl, n⟩
    exact ⟨_, _, _, rfl, n.1, fun x hx => .inl hx, by omega, n.2⟩
theorem bdelete_any (k f c m : Nat) (os : List Ob) (A : List Ft) (name : ByteArray) (w : World) (h : Bk k f c m os A w) :
    Calls Try.prog 37 #[.pointer (some ⟨k, 0, none⟩), .string name] w fun e w' => ∃ er os' A', e = .returned (.int .i64 er) ∧
      Bk k f c m os' A' w' ∧ (∀ x ∈ os', x ∈ os) ∧ os'.length ≤ os.length ∧ Turn (Mb f c m) w w' := by
  obtain ⟨ck, h⟩ := h
  refine (delete_go k f c m os A ck name w h).mono ?_
  rintro e w' ⟨rfl, n⟩
  refine ⟨_, _, _, rfl, n.1, ?_, ?_, n.2⟩
  · split
    · exact fun x hx => (del_subO name os).subset hx
    · exact fun x hx => hx
  · split
    · exact (del_subO name os).length_le
    · omega
theorem barm_any (k f c m : Nat) (os : List Ob) (A : List Ft) (a : Int) (dn : Bool) (w : World) (h : Bk k f c m os A w) (ha : Ft.Fits (a, dn)) :
    Calls Try.prog 21 #[.pointer (some ⟨f, 0, none⟩), .int .i64 a, .bool dn] w fun e w' => ∃ er A', e = .returned (.int .i64 er) ∧ Bk k f c m os A' w' ∧ Turn (Mb f c m) w w' := by
  obtain ⟨ck, h⟩ := h
  refine (arm_any f c A a dn w h.fuse ha).mono ?_
  rintro e w' (⟨rfl, hA, t⟩ | ⟨rfl, rfl⟩)
  · have n := BNow.tried h (Below.refl _ w) t hA
    exact ⟨_, _, rfl, n.1, n.2⟩
  · exact ⟨_, _, rfl, ⟨ck, h⟩, Turn.refl _ _⟩

theorem sl_open3 {w : World} {base n : Nat} {v : Value} {xs : List Value} (hs : Sl w base 3 v n xs) : ∃ a cap gl offl, v = .slice a n cap ∧ (0 < n → a = some ⟨gl, offl, none⟩ ∧ base ≤ gl ∧ gl < w.heap.size) ∧ ∀ j, j < n * 3 → w.cell? ⟨gl, offl + j, none⟩ = xs[j]? := by
  rcases hs.2 with ⟨rfl, rfl⟩ | ⟨g, off, cap, rfl, h1, h2, _, _, _, h3⟩
  · exact ⟨none, 0, 0, 0, rfl, fun h => absurd h (by omega), fun j hj => absurd hj (by omega)⟩
  · exact ⟨_, cap, g, off, rfl, fun _ => ⟨rfl, h1, h2⟩, fun j hj => h3 j (by omega)⟩
theorem inf_at (ds : List Inf) (j : Nat) (x : Inf) (h : ds[j]? = some x) : (infc ds)[j * 3]? = some (.string x.name) ∧ (infc ds)[j * 3 + 1]? = some (.int .i64 x.size) ∧ (infc ds)[j * 3 + 2]? = some (.int .i64 x.tm) := by
  obtain ⟨hj, he⟩ := List.getElem?_eq_some_iff.1 h
  have hx : ds.toArray[j]! = x := by simp [hj, he]
  refine ⟨?_, ?_, ?_⟩
  · rw [infc_get ds _ (by omega), show j * 3 / 3 = j by omega, show j * 3 % 3 = 0 by omega, hx]; rfl
  · rw [infc_get ds _ (by omega), show (j * 3 + 1) / 3 = j by omega, show (j * 3 + 1) % 3 = 1 by omega, hx]; rfl
  · rw [infc_get ds _ (by omega), show (j * 3 + 2) / 3 = j by omega, show (j * 3 + 2) % 3 = 2 by omega, hx]; rfl

/-- BucketWhole's loop. -/
def Wholly (k f c m mp : Nat) (w0 : World) (vi : Value) (wr : World) : Prop :=
  ∃ (i : Nat) (os : List Ob) (A : List Ft) (es : List En) (ck : Nat), vi = .int .i64 i ∧ i ≤ 30 ∧ Bk k f c m os A wr ∧ MapIs mp es ck wr ∧ Logged es os i ∧ os.length ≤ i ∧ Below w0.heap.size w0 wr

end Go.Proofs.Ytnjoojffefhgpaa
