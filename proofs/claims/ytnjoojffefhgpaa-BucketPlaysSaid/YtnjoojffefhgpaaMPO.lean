/- Layer 5: a call on both, whatever its kind. Layer 5: BucketPlays. -/
import Derived.Test.YtnjoojffefhgpaaMPN
import Derived.Deep.CutRange
namespace Go.Proofs.Ytnjoojffefhgpaa
open Go.Conc Go.RowKit
set_option linter.unusedVariables false

theorem tryL_few : ∀ A : List Ft, (tryL A).2.length ≤ A.length
  | [] => Nat.le_refl _
  | x :: A => by
    simp only [tryL]
    split <;> simp
theorem tryL_fit (A : List Ft) (h : ∀ x ∈ A, Ft.Fits x) : ∀ x ∈ (tryL A).2, Ft.Fits x := by
  match A, h with
  | [], _ => intro x hx; cases hx
  | y :: A, h =>
    intro x hx
    simp only [tryL] at hx
    split at hx
    · rename_i hy
      rcases List.mem_cons.1 hx with rfl | hx
      · have := h y (by simp)
        unfold Ft.Fits at this ⊢
        simp only
        omega
      · exact h x (by simp [hx])
    · exact h x (by simp at hx; simp [hx])
theorem ch_A (x : Rj) (put : Bool) (xs : List Rj) (A : List Ft) : (chR x put xs A).2.1 = A ∨ (chR x put xs A).2.1 = (tryL A).2 := by
  unfold chR
  split
  · exact .inl rfl
  · exact .inr rfl

/-- What is there of both behind a call. -/
structure Done (base k f c m : Nat) (v u : Value) (n l : Nat) (w : World) (v' u' : Value) (os' : List Ob) (xs' : List Rj) (A' : List Ft) (w' : World) : Prop where
  bk : Bk k f c m os' A' w'
  rel : RelB os' xs'
  len : xs'.length ≤ n + 1
  few : A'.length ≤ l + 1
  fit : ∀ x ∈ A', Ft.Fits x
  data : ∀ x ∈ xs', x.data.size ≤ 60
  s : Sl w' base 3 v' xs'.length (rjc xs')
  t : Sl w' base 2 u' A'.length (ftc A')
  ov : ∀ k, v'.ownBlock = some k → v.ownBlock = some k ∨ w.heap.size ≤ k
  ou : ∀ k, u'.ownBlock = some k → u.ownBlock = some k ∨ w.heap.size ≤ k
  turn : Turn (Mb f c m) w w'

theorem data_os {os : List Ob} {xs : List Rj} (h : RelB os xs) (hd : ∀ x ∈ xs, x.data.size ≤ 60) : ∀ o ∈ os, o.data.size ≤ 1000 := fun o ho => by
  have h1 : o.toR ∈ xs := h.2.mem_iff.1 (List.mem_map_of_mem ho)
  have h2 : o.data.size ≤ 60 := hd _ h1
  omega

theorem does_any (base k f c m ck : Nat) (os : List Ob) (v u : Value) (xs : List Rj) (A : List Ft) (kd an am : Int) (ta tb : ByteArray) (dd : Bool) (w : World) (hbk : BucketAt k f c m os A ck w) (hrel : RelB os xs) (hs : Sl w base 3 v xs.length (rjc xs)) (hlen : xs.length ≤ 40) (hu : Sl w base 2 u A.length (ftc A)) (hb : base ≤ w.heap.size) (hM : f < base ∧ c < base ∧ m < base) (hA : A.length ≤ 40) (hf : ∀ x ∈ A, Ft.Fits x) (hd : ∀ x ∈ xs, x.data.size ≤ 60)
    (hN : -9223372036854775808 ≤ an ∧ an ≤ 9223372036854775807) (hm : -9223372036854775808 ≤ am ∧ am ≤ 9223372036854775807) :
    Calls Try.prog 13 #[.pointer (some ⟨k, 0, none⟩), rbv v u, .agg #[.int .i64 kd, .int .i64 an, .int .i64 am, .string ta, .string tb, .bool dd]] w fun e w' => ∃ v' u' os' xs' A', e = .returned (.tuple #[rbv v' u', .bool true]) ∧ Done base k f c m v u xs.length A.length w v' u' os' xs' A' w' := by
  have fewT : (tryL A).2.length ≤ A.length + 1 := Nat.le_trans (tryL_few A) (Nat.le_succ _)
  have hx : xs.length ≤ 900 := by omega
  have hA1 : A.length ≤ 101 := by omega
  by_cases h1 : kd = 1
  · subst h1
    refine (does_put base k f c m ck os v u xs A an am ta tb dd w hbk hrel hs hx hu hb hM hA1 hf).mono ?_
    rintro e w' ⟨v', u', os', rfl, p1, p2, p3, p4, p5, p6, p7⟩
    refine ⟨v', u', os', _, _, rfl, p1, p2, ch_len _ _ _ _, ?_, ?_, fun x hx => ?_, p3, p4, p5, p6, p7⟩
    · rcases ch_A ⟨cutB ta 45, cutB tb 60, an⟩ true xs A with e | e <;> rw [e]
      · exact Nat.le_succ _
      · exact fewT
    · rcases ch_A ⟨cutB ta 45, cutB tb 60, an⟩ true xs A with e | e <;> rw [e]
      · exact hf
      · exact tryL_fit A hf
    · rcases ch_mem _ _ _ _ x hx with h | h
      · exact hd x h
      · rw [h.2]; exact cutB_le tb 60
  by_cases h2 : kd = 2
  · subst h2
    refine (does_del base k f c m ck os v u xs A an am ta tb dd w hbk hrel hs hx hu hb hM hA1 hf).mono ?_
    rintro e w' ⟨v', u', os', xs', rfl, p1, p2, p3, p4, p5, p6, p7, p8, p9⟩
    exact ⟨v', u', os', xs', _, rfl, p1, p2, p3, fewT, tryL_fit A hf, fun x hx => hd x (p4 x hx), p5, p6, p7, p8, p9⟩
  by_cases h3 : kd = 3
  · subst h3
    refine (does_get base k f c m ck os v u xs A an am ta tb dd w hbk hrel hs hx hu hb hM hA1 hf (data_os hrel hd)).mono ?_
    rintro e w' ⟨v', u', os', xs', rfl, p1, p2, p3, p4, p5, p6, p7, p8, p9⟩
    exact ⟨v', u', os', xs', _, rfl, p1, p2, p3, fewT, tryL_fit A hf, fun x hx => hd x (p4 x hx), p5, p6, p7, p8, p9⟩
  by_cases h4 : kd = 4
  · subst h4
    refine (does_range base k f c m ck os v u xs A an am ta tb dd w hbk hrel hs hx hu hb hM hA1 hf hN hm).mono ?_
    rintro e w' ⟨v', u', os', xs', rfl, p1, p2, p3, p4, p5, p6, p7, p8, p9⟩
    exact ⟨v', u', os', xs', _, rfl, p1, p2, p3, fewT, tryL_fit A hf, fun x hx => hd x (p4 x hx), p5, p6, p7, p8, p9⟩
  by_cases h5 : kd = 5
  · subst h5
    refine (does_list base k f c m ck os v u xs A an am ta tb dd w hbk hrel hs hx hu hb hM hA1 hf).mono ?_
    rintro e w' ⟨v', u', os', xs', rfl, p1, p2, p3, p4, p5, p6, p7, p8, p9⟩
    exact ⟨v', u', os', xs', _, rfl, p1, p2, p3, fewT, tryL_fit A hf, fun x hx => hd x (p4 x hx), p5, p6, p7, p8, p9⟩
  by_cases h6 : kd = 6
  · subst h6
    refine (does_arm base k f c m ck os v u xs A an am ta tb dd w hbk hrel hs hx hu hb hM hA1 hf hN).mono ?_
    rintro e w' ⟨v', u', A', rfl, p1, p2, p3, p4, p5, p6, p7⟩
    refine ⟨v', u', os, xs, A', rfl, p1, hrel, Nat.le_succ _, ?_, ?_, hd, p3, p4, p5, p6, p7⟩
    · rcases p2 with e | e <;> rw [e]
      · simp
      · exact Nat.le_succ _
    · rcases p2 with e | e <;> rw [e]
      · intro x hx
        rcases List.mem_append.1 hx with hx | hx
        · exact hf x hx
        · rw [List.mem_singleton] at hx
          rw [hx]
          unfold Ft.Fits
          simp only
          omega
      · exact hf
  · obtain ⟨va, vc, rfl⟩ := hs.slice
    obtain ⟨ua, uc, rfl⟩ := hu.slice
    refine (does_none k vc xs.length uc A.length va ua kd an am ta tb dd w h1 h2 h3 h4 h5 h6).mono ?_
    rintro e w' ⟨rfl, b⟩
    exact ⟨_, _, os, xs, A, rfl, ⟨ck, hbk.below b⟩, hrel, Nat.le_succ _, Nat.le_succ _, hf, hd, hs.on b, hu.on b, fun _ h => .inl h, fun _ h => .inl h, Turn.of_below b⟩
end Go.Proofs.Ytnjoojffefhgpaa

namespace Go.Proofs.Ytnjoojffefhgpaa
open Go.Conc Go.RowKit
set_option linter.unusedVariables false

theorem lookO_mem (o : Ob) : ∀ (os : List Ob), (os.map (·.name)).Nodup → o ∈ os → lookO o.name os = some o
  | [], _, h => by cases h
  | y :: ys, hn, h => by
    rw [List.map_cons, List.nodup_cons] at hn
    rcases List.mem_cons.1 h with rfl | h
    · simp [lookO]
    · have hy : ¬ o.name = y.name := fun e => hn.1 (by rw [← e]; exact List.mem_map_of_mem h)
      simp only [lookO, if_neg hy]
      exact lookO_mem o ys hn.2 h
theorem peek_rel {os : List Ob} {xs : List Rj} (h : RelB os xs) (y : Rj) (hy : y ∈ xs) : peekO y.name os = y.data ∧ (lookO y.name os).isSome = true := by
  obtain ⟨o, ho, rfl⟩ := List.mem_map.1 (h.2.mem_iff.2 hy)
  have e : lookO o.toR.name os = some o := lookO_mem o os (relB_names h) ho
  refine ⟨?_, by rw [e]; rfl⟩
  unfold peekO
  rw [e]
  rfl
theorem preR_all (xs : List Rj) : preR ⟨#[]⟩ xs = xs := by
  unfold preR
  refine List.filter_eq_self.2 fun x _ => ?_
  simp [pre]
theorem look_all (k f c m : Nat) (os : List Ob) (xs : List Rj) (A : List Ft) (w : World) (h : Bk k f c m os A w) (hrel : RelB os xs) (hfew : xs.length ≤ 1000) :
    Calls Try.prog 15 #[.pointer (some ⟨k, 0, none⟩), .string ⟨#[]⟩] w fun e w' => ∃ v, e = .returned v ∧ Sl w' w.heap.size 3 v xs.length (infc (xs.map Rj.inf)) ∧ Below w.heap.size w w' := by
  refine (blooks k f c m os A ⟨#[]⟩ w h (by rw [← relB_len hrel]; omega)).mono ?_
  rintro e w' ⟨v, ds, rfl, hp, hs, hsl, b⟩
  have hds := infs_is hrel ⟨#[]⟩ ds hp hs
  rw [preR_all] at hds
  subst hds
  rw [List.length_map] at hsl
  exact ⟨v, rfl, hsl, b⟩

theorem Done.start {base k f c m : Nat} {v u : Value} {n l : Nat} {w w1 : World} {v' u' : Value} {os' : List Ob} {xs' : List Rj} {A' : List Ft} {w2 : World} (h : Done base k f c m v u n l w1 v' u' os' xs' A' w2) (b : Below w.heap.size w w1) : Done base k f c m v u n l w v' u' os' xs' A' w2 :=
  ⟨h.bk, h.rel, h.len, h.few, h.fit, h.data, h.s, h.t, fun k hk => (h.ov k hk).imp_right (Nat.le_trans b.size), fun k hk => (h.ou k hk).imp_right (Nat.le_trans b.size), (Turn.of_below b).trans h.turn⟩
theorem Done.then {base k f c m : Nat} {v u : Value} {n l : Nat} {w : World} {v' u' : Value} {os' : List Ob} {xs' : List Rj} {A' : List Ft} {w2 w3 : World} {S : Nat → Prop} (h : Done base k f c m v u n l w v' u' os' xs' A' w2) (t : Turn S w2 w3) (hk : ¬ S k) (hf : ¬ S f) (hc : ¬ S c) (hm : ¬ S m)
    (hv : ∀ i, v'.ownBlock = some i → ¬ S i) (hu : ∀ i, u'.ownBlock = some i → ¬ S i) (hw : ∀ i, i < w.heap.size → ¬ S i) : Done base k f c m v u n l w v' u' os' xs' A' w3 :=
  ⟨h.bk.turn t hk hf hc hm, h.rel, h.len, h.few, h.fit, h.data, h.s.same t.size fun i hi => t.block i (h.s.lt i hi).2 (hv i hi), h.t.same t.size fun i hi => t.block i (h.t.lt i hi).2 (hu i hi), h.ov, h.ou,
    ⟨t.os.trans h.turn.os, t.tape.trans h.turn.tape, t.output.trans h.turn.output, Nat.le_trans h.turn.size t.size, fun i hi hn => (t.block i (Nat.lt_of_lt_of_le hi h.turn.size) (hw i hi)).trans (h.turn.block i hi hn)⟩⟩

theorem pt_alloc {f c m : Nat} {w0 W : World} {O : Obj} (t : Turn (Mb f c m) w0 W) : Turn (Mb f c m) w0 (W.alloc O) := t.trans (Turn.of_below ((Below.refl W.heap.size W).alloc (Nat.le_refl _) O))
theorem pt_drew {f c m : Nat} {w0 W : World} (t : Turn (Mb f c m) w0 W) : Turn (Mb f c m) w0 W.drew := t.drew
theorem pt_set {f c m : Nat} {w0 W : World} {p : Addr} {v : Value} (hp : w0.heap.size ≤ p.block) (t : Turn (Mb f c m) w0 W) : Turn (Mb f c m) w0 (W.setCell p v) :=
  ⟨t.os, t.tape, t.output, by simpa [World.setCell] using t.size, fun i hi hn => (Below.heap_setCell _ _ _ _ (by omega)).trans (t.block i hi hn)⟩
/-- Behind i calls. -/
structure Plays (base k f c m X : Nat) (w0 : World) (i : Nat) (os : List Ob) (xs : List Rj) (A : List Ft) (v u : Value) (wr : World) : Prop where
  bk : Bk k f c m os A wr
  rel : RelB os xs
  len : xs.length ≤ i
  few : A.length ≤ i
  fit : ∀ x ∈ A, Ft.Fits x
  data : ∀ x ∈ xs, x.data.size ≤ 60
  s : Sl wr base 3 v xs.length (rjc xs)
  t : Sl wr base 2 u A.length (ftc A)
  x0 : wr.cell? ⟨X, 0, none⟩ = some v
  x1 : wr.cell? ⟨X, 1, none⟩ = some u
  f0 : wr.frozen? ⟨X, 0, none⟩ = false
  f1 : wr.frozen? ⟨X, 1, none⟩ = false
  lt : base ≤ wr.heap.size
  below : Below w0.heap.size w0 wr

theorem Plays.on {base k f c m X i : Nat} {w0 : World} {os : List Ob} {xs : List Rj} {A : List Ft} {v u : Value} {w w' : World} (h : Plays base k f c m X w0 i os xs A v u w) (hX : X < base) (b : Below w.heap.size w w') : Plays base k f c m X w0 i os xs A v u w' :=
  have hl : X < w.heap.size := Nat.lt_of_lt_of_le hX h.lt
  ⟨h.bk.below b, h.rel, h.len, h.few, h.fit, h.data, h.s.on b, h.t.on b, (b.cell (p := ⟨X, 0, none⟩) hl).trans h.x0, (b.cell (p := ⟨X, 1, none⟩) hl).trans h.x1, (b.frozen (p := ⟨X, 0, none⟩) hl).trans h.f0, (b.frozen (p := ⟨X, 1, none⟩) hl).trans h.f1, Nat.le_trans h.lt b.size, h.below.trans (b.mono h.below.size)⟩

set_option maxHeartbeats 2000000 in
set_option maxRecDepth 100000 in
theorem bplays_any (a0 : Option Addr) (len0 cap0 : Nat) (z0 : List Bc) (w : World) (m0 : len0 ≤ maxLen) (w0 : BctsAt w a0 len0 z0) :
    Calls Try.prog 4 #[.slice a0 len0 cap0] w fun e w' => e = .returned (.bool true) ∧ Below w.heap.size w w' := by
  have HN := Lib.hid (fun W => bnew_home W)
  have HA := Lib.hid (fun W => bawake_any W)
  obtain ⟨hzl, hzf, hza⟩ := w0
  go_enter Try.func4, Try.ntmps4
  go_wp2_with fail
  refine (HN.out _).mono ?_
  rintro e x1 ⟨k, f, c, m, rfl, D1, hH, b1⟩
  go_wp2_with fail
  refine (HA.out _).mono ?_
  rintro e x2 ⟨rfl, b2⟩
  obtain ⟨X, hX⟩ : ∃ X, X = x1.heap.size := ⟨_, rfl⟩
  have hbk := heap_alloc_new x1 (.cells #[.slice none 0 0, .slice none 0 0] 52)
  obtain ⟨V, hV⟩ : ∃ V, V = x1.alloc (.cells #[.slice none 0 0, .slice none 0 0] 52) := ⟨_, rfl⟩
  rw [← hV] at b2 hbk
  have zV : V.heap.size = X + 1 := by rw [hV, hX]; simp
  have bV : Below x1.heap.size x1 V := by rw [hV]; exact (Below.refl _ _).alloc (Nat.le_refl _) _
  have hM : f < X ∧ c < X ∧ m < X := by
    obtain ⟨ck, D⟩ := D1
    have h1 := D.fuse.lts; have h2 := D.mlt
    omega
  have hkX : k < X := by
    obtain ⟨ck, D⟩ := D1
    have h1 := D.klt
    omega
  have hwX : w.heap.size ≤ X := by rw [hX]; exact b1.size
  have hbX : x2.heap[X]? = some (.cells #[.slice none 0 0, .slice none 0 0] 52) := by rw [hX]; exact (b2.block x1.heap.size (by omega)).trans hbk
  have D2 : Bk k f c m [] [] x2 := (D1.below bV).below b2
  have e2 := D2.c0
  have hz2 : X + 1 ≤ x2.heap.size := by have := b2.size; omega
  have bB : Below w.heap.size w x2 := (b1.trans (bV.mono b1.size)).trans (b2.mono (by omega))
  have hh1 := hH.f; have hh2 := hH.c; have hh3 := hH.m
  have hA3 : X ≠ f ∧ X ≠ c ∧ X ≠ m := by omega
  have P0 : Plays (X + 1) k f c m X w 0 [] [] [] (.slice none 0 0) (.slice none 0 0) x2 :=
    ⟨D2, ⟨List.Pairwise.nil, List.Perm.refl _⟩, Nat.le_refl _, Nat.le_refl _, by simp, by simp, Sl.nil _ _ _, Sl.nil _ _ _, (cell_of_row _ _ 0 _ _ _ hbX).trans rfl, (cell_of_row _ _ 1 _ _ _ hbX).trans rfl, by simp only [World.frozen?, hbX]; rfl, by simp only [World.frozen?, hbX]; rfl, hz2, bB⟩
  rw [← hX]
  clear hX hV hbk zV bV D1 b1 b2 hbX D2 hz2 bB hH
  go_wp2_with fail
  clear e2
  go_loopw [5] (fun vi wr => ∃ (i : Nat) (os : List Ob) (xs : List Rj) (A : List Ft) (v u : Value), vi = .int .i64 i ∧ i ≤ 40 ∧ Plays (X + 1) k f c m X w i os xs A v u wr) (fun vi _ => 40 - (RowKit.intOf vi).toNat)
  case atStart => exact ⟨0, _, _, _, _, _, rfl, by omega, P0⟩
  case round =>
    obtain ⟨i, os, xs, A, v, u, rfl, hi, P⟩ := hrel
    by_cases hlt : i < len0 ∧ i < 40
    · obtain ⟨h3, h4⟩ := hlt
      obtain ⟨g, off, rfl, hg, hcell⟩ := hza (by omega)
      obtain ⟨t, ht⟩ : ∃ t, z0[i]? = some t := ⟨z0[i]'(by omega), List.getElem?_eq_getElem (by omega)⟩
      have F := hzf t (List.mem_of_getElem? ht)
      obtain ⟨q0, q1, q2, q3, q4, q5⟩ := hcell i t ht
      have bR := P.below
      have r0 := (bR.cell (p := ⟨g, off + i * 6, none⟩) hg).trans q0
      have r1 := (bR.cell (p := ⟨g, off + i * 6 + 1, none⟩) hg).trans q1
      have r2 := (bR.cell (p := ⟨g, off + i * 6 + 2, none⟩) hg).trans q2
      have r3 := (bR.cell (p := ⟨g, off + i * 6 + 3, none⟩) hg).trans q3
      have r4 := (bR.cell (p := ⟨g, off + i * 6 + 4, none⟩) hg).trans q4
      have r5 := (bR.cell (p := ⟨g, off + i * 6 + 5, none⟩) hg).trans q5
      have i3 : (i : Int) < len0 := by omega
      have i4 : (i : Int) < 40 := by omega
      obtain ⟨tk, tn, tm, ta, tb, td⟩ := t
      simp only at r0 r1 r2 r3 r4 r5
      obtain ⟨ck, hbk⟩ := P.bk
      have HD := Lib.hid (fun W (b : Below wr.heap.size wr W) => does_any (X + 1) k f c m ck os v u xs A tk tn tm ta tb td W (hbk.below b) P.rel (P.s.on b) (Nat.le_trans P.len hi) (P.t.on b) (Nat.le_trans P.lt b.size) (by omega) (Nat.le_trans P.few hi) P.fit P.data ⟨F.n0, F.n1⟩ ⟨F.m0, F.m1⟩)
      obtain ⟨va, vc, rfl⟩ := P.s.slice
      obtain ⟨ua, uc, rfl⟩ := P.t.slice
      obtain ⟨vn, hvn⟩ : ∃ n, n = xs.length := ⟨_, rfl⟩
      obtain ⟨un, hun⟩ : ∃ n, n = A.length := ⟨_, rfl⟩
      have x0 := P.x0
      have x1' := P.x1
      rw [← hvn] at HD x0
      rw [← hun] at HD x1'
      unfold rbv at HD
      have HVN := Lib.hid hvn
      have HUN := Lib.hid hun
      have HP := Lib.hid P
      have hXr : X < wr.heap.size := by have := P.lt; omega
      have hgr : g < wr.heap.size := by have := bR.size; omega
      have hgf : g ≠ f ∧ g ≠ c ∧ g ≠ m := by omega
      clear q0 q1 q2 q3 q4 q5 hcell ht F hza hzf hzl P hbk bR hvn hun
      go_upto_region 8 with fail
      have hXn : ¬ Mb f c m X := by rintro (e | e | e) <;> omega
      have hgn : ¬ Mb f c m g := by rintro (e | e | e) <;> omega
      have hwn : ¬ Mb f c m wr.heap.size := by rintro (e | e | e) <;> omega
      have KP := Lib.hid (fun (W' : World) (t : Turn (Mb f c m) wr W') => show W'.cell? ⟨X, 0, none⟩ = some (.slice va vn vc) ∧ W'.cell? ⟨X, 1, none⟩ = some (.slice ua un uc) ∧ W'.cell? ⟨g, off + i * 6, none⟩ = some (.int .i64 tk) ∧ W'.cell? ⟨g, off + i * 6 + 1, none⟩ = some (.int .i64 tn) ∧ W'.cell? ⟨g, off + i * 6 + 2, none⟩ = some (.int .i64 tm) ∧ W'.cell? ⟨g, off + i * 6 + 3, none⟩ = some (.string ta) ∧ W'.cell? ⟨g, off + i * 6 + 4, none⟩ = some (.string tb) ∧ W'.cell? ⟨g, off + i * 6 + 5, none⟩ = some (.bool td) from
        ⟨(t.cell (p := ⟨X, 0, none⟩) hXr hXn).trans x0, (t.cell (p := ⟨X, 1, none⟩) hXr hXn).trans x1', (t.cell (p := ⟨g, off + i * 6, none⟩) hgr hgn).trans r0, (t.cell (p := ⟨g, off + i * 6 + 1, none⟩) hgr hgn).trans r1, (t.cell (p := ⟨g, off + i * 6 + 2, none⟩) hgr hgn).trans r2, (t.cell (p := ⟨g, off + i * 6 + 3, none⟩) hgr hgn).trans r3, (t.cell (p := ⟨g, off + i * 6 + 4, none⟩) hgr hgn).trans r4, (t.cell (p := ⟨g, off + i * 6 + 5, none⟩) hgr hgn).trans r5⟩)
      have T0 : Turn (Mb f c m) wr wr := Turn.refl _ _
      have B0 : Below wr.heap.size wr wr := Below.refl _ _
      go_cut [6, 7] from 38 to 80 (fun p q wc => ∃ y v2 u2 os2 xs2 A2, p = .pointer (some ⟨y, 0, none⟩) ∧ q = .bool true ∧ wc.cell? ⟨y, 0, none⟩ = some v2 ∧ wc.cell? ⟨y, 1, none⟩ = some u2 ∧ Done (X + 1) k f c m (.slice va vn vc) (.slice ua un uc) vn un wr v2 u2 os2 xs2 A2 wc)
      case first =>
        go_region_held3 (fun W => W.cell? ⟨X, 0, none⟩ = some (.slice va vn vc) ∧ W.cell? ⟨X, 1, none⟩ = some (.slice ua un uc) ∧ W.cell? ⟨g, off + i * 6, none⟩ = some (.int .i64 tk) ∧ W.cell? ⟨g, off + i * 6 + 1, none⟩ = some (.int .i64 tn) ∧ W.cell? ⟨g, off + i * 6 + 2, none⟩ = some (.int .i64 tm) ∧ W.cell? ⟨g, off + i * 6 + 3, none⟩ = some (.string ta) ∧ W.cell? ⟨g, off + i * 6 + 4, none⟩ = some (.string tb) ∧ W.cell? ⟨g, off + i * 6 + 5, none⟩ = some (.bool td)) (first | exact ⟨x0, x1', r0, r1, r2, r3, r4, r5⟩ | (refine KP.out _ ?_; repeat (with_reducible (first | assumption | apply pt_drew | apply pt_alloc | (refine pt_set (by dsimp only; omega) ?_)))) | assumption)
          (first
            | (go_at_call 13; refine (HD.out wr.drew B0.drew).mono ?_; rintro e w2 ⟨v2, u2, os2, xs2, A2, rfl, D2⟩; obtain ⟨a2, c2, rfl⟩ := D2.s.slice; obtain ⟨a3, c3, rfl⟩ := D2.t.slice; have t2 : Turn (Mb f c m) wr w2 := T0.drew.trans D2.turn; have z2 := t2.size; have hnb := heap_alloc_new w2 (.cells #[.slice none 0 0, .slice none 0 0] 52); have i0 := (cell_of_row _ _ 0 _ _ _ hnb).trans (show _ = some (Value.slice none 0 0) from rfl); have i1 := (cell_of_row _ _ 1 _ _ _ hnb).trans (show _ = some (Value.slice none 0 0) from rfl); have j0 : (w2.alloc (.cells #[.slice none 0 0, .slice none 0 0] 52)).frozen? ⟨w2.heap.size, 0, none⟩ = false := (by simp only [World.frozen?, hnb]; rfl); have j1 : (w2.alloc (.cells #[.slice none 0 0, .slice none 0 0] 52)).frozen? ⟨w2.heap.size, 1, none⟩ = false := (by simp only [World.frozen?, hnb]; rfl))
            | (go_at_call 13; refine (HD.out (wr.alloc (.cells #[.slice none 0 0, .slice none 0 0] 52)).drew (B0.alloc (Nat.le_refl _) (.cells #[.slice none 0 0, .slice none 0 0] 52)).drew).mono ?_; rintro e w2 ⟨v2, u2, os2, xs2, A2, rfl, D2⟩; obtain ⟨a2, c2, rfl⟩ := D2.s.slice; obtain ⟨a3, c3, rfl⟩ := D2.t.slice; have t2 : Turn (Mb f c m) wr w2 := (pt_alloc T0).drew.trans D2.turn; have z2 := t2.size; have hnb := (D2.turn.block wr.heap.size (by simp) hwn).trans (heap_alloc_new wr (.cells #[.slice none 0 0, .slice none 0 0] 52)); have i0 := (cell_of_row _ _ 0 _ _ _ hnb).trans (show _ = some (Value.slice none 0 0) from rfl); have i1 := (cell_of_row _ _ 1 _ _ _ hnb).trans (show _ = some (Value.slice none 0 0) from rfl); have j0 : w2.frozen? ⟨wr.heap.size, 0, none⟩ = false := (by simp only [World.frozen?, hnb]; rfl); have j1 : w2.frozen? ⟨wr.heap.size, 1, none⟩ = false := (by simp only [World.frozen?, hnb]; rfl))
            | fail)
        all_goals (go_wp2_with fail)
        all_goals go_meet
        all_goals have hP := HP.out
        all_goals have hvl : ∀ i, (Value.slice va vn vc).ownBlock = some i → i < wr.heap.size := fun i hi => by have h := hP.s.lt i (by rw [← HVN.out]; exact hi); exact h.2
        all_goals have hul : ∀ i, (Value.slice ua un uc).ownBlock = some i → i < wr.heap.size := fun i hi => by have h := hP.t.lt i (by rw [← HUN.out]; exact hi); exact h.2
        all_goals first
          | (refine ⟨w2.heap.size, _, _, os2, xs2, A2, rfl, rfl, (cell_of_row _ _ 0 _ _ _ (heap_alloc_new w2 _)).trans rfl, (cell_of_row _ _ 1 _ _ _ (heap_alloc_new w2 _)).trans rfl, (D2.start B0.drew).then (S := fun _ => False) (Turn.of_below ((Below.refl w2.heap.size w2).alloc (Nat.le_refl _) _)) id id id id (fun _ _ => id) (fun _ _ => id) (fun _ _ => id)⟩; done)
          | skip
        all_goals
          have hzz : ∀ k, (wr.alloc (.cells #[.slice none 0 0, .slice none 0 0] 52)).drew.heap.size ≤ k → wr.heap.size + 1 ≤ k := fun k h => by
            have e : (wr.alloc (.cells #[.slice none 0 0, .slice none 0 0] 52)).drew.heap.size = wr.heap.size + 1 := World.size_alloc _ _
            omega
          have T6 : Turn (fun i => i = wr.heap.size) w2 ((w2.setCell ⟨wr.heap.size, 0, none⟩ (.slice a2 xs2.length c2)).setCell ⟨wr.heap.size, 1, none⟩ (.slice a3 A2.length c3)) := Turn.setCell (S := fun i => i = wr.heap.size) (Turn.setCell (S := fun i => i = wr.heap.size) (Turn.refl _ w2) ⟨wr.heap.size, 0, none⟩ _ rfl) ⟨wr.heap.size, 1, none⟩ _ rfl
          refine ⟨wr.heap.size, _, _, os2, xs2, A2, rfl, rfl, ?_, ?_, (D2.start (B0.alloc (Nat.le_refl _) (.cells #[.slice none 0 0, .slice none 0 0] 52)).drew).then T6 (by omega) (by omega) (by omega) (by omega) (fun k hk => ?_) (fun k hk => ?_) (fun k hk => by omega)⟩
          · rw [cell_setCell_other _ _ _ _ _ (.inr (by simp))]; exact cell_setCell_same _ _ _ _ (by rw [i0]; rfl)
          · exact cell_setCell_same _ _ _ _ (by rw [cell_setCell_other _ _ _ _ _ (.inr (by simp)), i1]; rfl)
          · rcases D2.ov k hk with h | h
            · have := hvl k h; omega
            · have := hzz k h; omega
          · rcases D2.ou k hk with h | h
            · have := hul k h; omega
            · have := hzz k h; omega
      case rest =>
        obtain ⟨y, v2, u2, os2, xs2, A2, rfl, rfl, y0, y1, D⟩ := hcut
        obtain ⟨a2, c2, rfl⟩ := D.s.slice
        obtain ⟨a3, c3, rfl⟩ := D.t.slice
        have hP := HP.out
        have f0 := (D.turn.frozen (p := ⟨X, 0, none⟩) hXr hXn).trans hP.f0
        have f1 := (D.turn.frozen (p := ⟨X, 1, none⟩) hXr hXn).trans hP.f1
        obtain ⟨z0', z1', _⟩ := KP.out wc D.turn
        have hl2 : xs2.length ≤ 1000 := by have := D.len; have := HVN.out; have := hP.len; omega
        obtain ⟨L, hL⟩ : ∃ L, L = xs2.length := ⟨_, rfl⟩
        obtain ⟨M, hM2⟩ : ∃ M, M = A2.length := ⟨_, rfl⟩
        rw [← hL] at y0 hl2
        rw [← hM2] at y1
        have HL := Lib.hid hL
        have HM2 := Lib.hid hM2
        have HDn := Lib.hid D
        have hXc : X < wc.heap.size := Nat.lt_of_lt_of_le hXr D.turn.size
        clear x0 x1' r0 r1 r2 r3 r4 r5 KP HD T0 B0 hP hL hM2 D
        go_upto_region 10 with fail
        obtain ⟨W3, hW3⟩ : ∃ W3, W3 = (wc.setCell ⟨X, 0, none⟩ (.slice a2 L c2)).setCell ⟨X, 1, none⟩ (.slice a3 M c3) := ⟨_, rfl⟩
        have T3 : Turn (fun i => i = X) wc W3 := by rw [hW3]; exact Turn.setCell (S := fun i => i = X) (Turn.setCell (S := fun i => i = X) (Turn.refl _ wc) ⟨X, 0, none⟩ _ rfl) ⟨X, 1, none⟩ _ rfl
        have P3 : Plays (X + 1) k f c m X w (i + 1) os2 xs2 A2 (.slice a2 L c2) (.slice a3 M c3) W3 := by
          have D := HDn.out
          have hP := HP.out
          have e1 := HVN.out; have e2 := HUN.out; have e3 := HL.out; have e4 := HM2.out
          refine ⟨D.bk.turn T3 (by omega) (by omega) (by omega) (by omega), D.rel, ?_, ?_, D.fit, D.data, ?_, ?_, ?_, ?_, ?_, ?_, ?_, ?_⟩
          · have := D.len; have := hP.len; omega
          · have := D.few; have := hP.few; omega
          · rw [e3]; exact D.s.same T3.size fun j hj => T3.block j (D.s.lt j hj).2 (by have := (D.s.lt j hj).1; omega)
          · rw [e4]; exact D.t.same T3.size fun j hj => T3.block j (D.t.lt j hj).2 (by have := (D.t.lt j hj).1; omega)
          · rw [hW3, cell_setCell_other _ _ _ _ _ (.inr (by simp))]; exact cell_setCell_same _ _ _ _ (by rw [z0']; rfl)
          · rw [hW3]; exact cell_setCell_same _ _ _ _ (by rw [cell_setCell_other _ _ _ _ _ (.inr (by simp)), z1']; rfl)
          · rw [hW3, frozen_setCell, frozen_setCell]; exact f0
          · rw [hW3, frozen_setCell, frozen_setCell]; exact f1
          · have := hP.lt; have := D.turn.size; have := T3.size; omega
          · have b1 : Below w.heap.size w wc := hP.below.trans (D.turn.below hP.below.size fun j hj => by rcases hj with e | e | e <;> omega)
            rw [hW3]
            exact (b1.setCell (p := ⟨X, 0, none⟩) hwX _).setCell (p := ⟨X, 1, none⟩) hwX _
        rw [← hW3]
        have s0 := P3.x0
        have hRel := HDn.out.rel
        have LK := Lib.hid (fun W D => look_all k f c m os2 xs2 A2 W D hRel (by rw [← HL.out]; exact hl2))
        have HR := Lib.hid hRel
        have hXW : X < W3.heap.size := by have := P3.lt; omega
        have HX3 := Lib.hid hXW
        have P3h := Lib.hid P3
        clear T3 hW3 f0 f1 z0' z1' y0 y1 hRel P3 hXW
        go_region_held3 (fun W => W.cell? ⟨X, 0, none⟩ = some (.slice a2 L c2)) (first | exact s0 | assumption)
          (first
            | (go_at_call 15; refine (LK.out _ (P3h.out.bk.below (Below.refl _ W3).drew)).mono ?_; rintro e w3 ⟨v3, rfl, s3, b3⟩; have b3' := (Below.refl W3.heap.size W3).drew.trans b3; obtain ⟨a9, c9, rfl⟩ := s3.slice; have q3 := (b3'.cell (p := ⟨X, 0, none⟩) HX3.out).trans s0; have hs3 := P3h.out.s.on b3'; rw [← HL.out] at s3)
            | (go_at_call 14; refine (lists_true _ _ _ _ xs2 w3 (by rw [← HL.out]; exact s3) hs3 (by rw [← HL.out]; exact hl2)).mono ?_; rintro e w4 ⟨rfl, b4⟩; have b4' := b3'.trans (b4.mono b3'.size); have q4 := (b4'.cell (p := ⟨X, 0, none⟩) HX3.out).trans s0)
            | fail)
        have P4 := Lib.hid (P3h.out.on (Nat.lt_succ_self X) b4')
        clear s3 hs3 b3 b4 b3' b4' q3
        have HPK := Lib.hid (fun y W D => bpeek k f c m os2 A2 y W D)
        go_wp2_with fail
        go_loopw [61] (fun vj wi => ∃ j : Nat, vj = .int .i64 j ∧ j ≤ L ∧ Plays (X + 1) k f c m X w (i + 1) os2 xs2 A2 (.slice a2 L c2) (.slice a3 M c3) wi) (fun vj _ => L - (RowKit.intOf vj).toNat)
        case atStart => exact ⟨0, rfl, by omega, P4.out⟩
        case round =>
          obtain ⟨j, rfl, hj, P⟩ := hrel
          by_cases hjL : j < L
          · obtain ⟨o, ho⟩ : ∃ o, xs2[j]? = some o := ⟨xs2[j]'(by have := HL.out; omega), List.getElem?_eq_getElem (by have := HL.out; omega)⟩
            obtain ⟨p1, p2⟩ := peek_rel HR.out o (List.mem_of_getElem? ho)
            obtain ⟨r0, r1, r2⟩ := rjc_at xs2 j o ho
            have hU := P.s
            rw [← HL.out] at hU
            obtain ⟨gu, ou, cu, eb, _, _, _⟩ := hU.somewhere (by omega)
            cases eb
            have q0 := hU.cells (j * 3) _ r0
            have q1 := hU.cells (j * 3 + 1) _ r1
            have q2 := hU.cells (j * 3 + 2) _ r2
            rw [Addr.add_lit] at q0 q1 q2
            rw [← Nat.add_assoc] at q1 q2
            have hh := heap_alloc_new wr (.cells #[.string o.name, .string o.data, .int .i64 o.tm] 64)
            obtain ⟨WW, hWW⟩ : ∃ WW, WW = wr.alloc (.cells #[.string o.name, .string o.data, .int .i64 o.tm] 64) := ⟨_, rfl⟩
            rw [← hWW] at hh
            have zW : wr.heap.size < WW.heap.size := by rw [hWW]; simp
            have e0 : WW.cell? ⟨wr.heap.size, 0, none⟩ = some (.string o.name) := (cell_of_row _ _ 0 _ _ _ hh).trans rfl
            have e1 : WW.cell? ⟨wr.heap.size, 1, none⟩ = some (.string o.data) := (cell_of_row _ _ 1 _ _ _ hh).trans rfl
            have bW : Below wr.heap.size wr WW := by rw [hWW]; exact (Below.refl _ _).alloc (Nat.le_refl _) _
            have hjn : (j : Int) < L := by omega
            have PK := HPK.out o.name WW (P.bk.below bW)
            rw [p1, p2] at PK
            have PK1 := Lib.hid PK
            have kk : (o.data.toList == o.data.toList) = true := beq_self_eq_true _
            have HW := Lib.hid hWW
            have HPi := Lib.hid P
            have BW := Lib.hid bW
            have E1 := Lib.hid e1
            clear r0 r1 r2 hU hh hWW P PK bW p1 p2 ho hj e1
            go_upto_region 15 with fail
            rw [← HW.out]
            go_wp2_with fail
            refine PK1.out.mono ?_
            rintro e w5 ⟨rfl, b5⟩
            have e1' := (b5.cell (p := ⟨wr.heap.size, 1, none⟩) zW).trans E1.out
            clear e0 zW
            go_wp2_with fail
            exact ⟨⟨j + 1, by go_num, by omega, HPi.out.on (Nat.lt_succ_self X) (BW.out.trans (b5.mono BW.out.size))⟩, by simp [RowKit.intOf]; omega⟩
          · have hjn : ¬ (j : Int) < L := by omega
            have HPi := Lib.hid P
            clear P
            go_wp2_with fail
            exact ⟨⟨i + 1, os2, xs2, A2, _, _, by go_num, by omega, HPi.out⟩, by simp [RowKit.intOf]; omega⟩
    · have hB := P.below
      clear hza hzf hzl P
      by_cases h3 : i < len0
      all_goals
        first
          | (have i20 : i = 40 := by omega
             subst i20)
          | skip
        clear hlt
        go_wp2_with fail
        go_ret
        exact ⟨rfl, hB⟩
end Go.Proofs.Ytnjoojffefhgpaa
