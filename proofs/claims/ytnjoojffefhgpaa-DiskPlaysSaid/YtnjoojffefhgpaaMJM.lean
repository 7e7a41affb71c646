/- Layer 4: DiskPlays. -/
import Derived.Test.YtnjoojffefhgpaaMJH7
import Derived.Test.YtnjoojffefhgpaaMJK
import Derived.Test.YtnjoojffefhgpaaMD13
import Derived.Deep.CutRange
namespace Go.Proofs.Ytnjoojffefhgpaa
open Go.Conc Go.RowKit Go.Lib
set_option linter.unusedVariables false

theorem DoneD.start {base d f c m : Nat} {rm : Int} {fs : List Fl} {v u : Value} {w w1 : World} {v' u' : Value} {fs' : List Fl} {xs' : List Rj} {A' : List Ft} {w2 : World} (h : DoneD base d f c m rm fs v u w1 v' u' fs' xs' A' w2) (b : Below w.heap.size w w1) : DoneD base d f c m rm fs v u w v' u' fs' xs' A' w2 :=
  ⟨h.at_, h.rel, h.used, h.room, h.s, h.t, h.fv, h.fu, fun k hk => (h.ov k hk).imp_right (Nat.le_trans b.size), fun k hk => (h.ou k hk).imp_right (Nat.le_trans b.size), (Turn.of_below b).trans h.turn, fun k hk => (h.mine k hk).imp_right (Nat.le_trans b.size)⟩
theorem DoneD.then {base d f c m : Nat} {rm : Int} {fs : List Fl} {v u : Value} {w : World} {v' u' : Value} {fs' : List Fl} {xs' : List Rj} {A' : List Ft} {w2 w3 : World} {S : Nat → Prop} (h : DoneD base d f c m rm fs v u w v' u' fs' xs' A' w2) (t : Turn S w2 w3) (hS : ∀ k, S k → ¬ Mine d f c m fs' k)
    (hv : ∀ i, v'.ownBlock = some i → ¬ S i) (hu : ∀ i, u'.ownBlock = some i → ¬ S i) (hw : ∀ i, i < w.heap.size → ¬ S i) : DoneD base d f c m rm fs v u w v' u' fs' xs' A' w3 := by
  obtain ⟨ck, hD⟩ := h.at_
  exact ⟨⟨ck, hD.other t hS⟩, h.rel, h.used, h.room, h.s.same t.size fun i hi => t.block i (h.s.lt i hi).2 (hv i hi), h.t.same t.size fun i hi => t.block i (h.t.lt i hi).2 (hu i hi), h.fv, h.fu, h.ov, h.ou,
    ⟨t.os.trans h.turn.os, t.tape.trans h.turn.tape, t.output.trans h.turn.output, Nat.le_trans h.turn.size t.size, fun i hi hn => (t.block i (Nat.lt_of_lt_of_le hi h.turn.size) (hw i hi)).trans (h.turn.block i hi hn)⟩, h.mine⟩
theorem pd_alloc {S : Nat → Prop} {w0 W : World} {O : Obj} (t : Turn S w0 W) : Turn S w0 (W.alloc O) := t.trans (Turn.of_below ((Below.refl W.heap.size W).alloc (Nat.le_refl _) O))
theorem pd_drew {S : Nat → Prop} {w0 W : World} (t : Turn S w0 W) : Turn S w0 W.drew := t.drew
theorem pd_set {S : Nat → Prop} {w0 W : World} {p : Addr} {v : Value} (hp : w0.heap.size ≤ p.block) (t : Turn S w0 W) : Turn S w0 (W.setCell p v) :=
  ⟨t.os, t.tape, t.output, by simpa [World.setCell] using t.size, fun i hi hn => (Below.heap_setCell _ _ _ _ (by omega)).trans (t.block i hi hn)⟩
/-- Behind i calls. -/
structure P4 (base d f c m X : Nat) (rm : Int) (w0 : World) (i : Nat) (fs : List Fl) (xs : List Rj) (A : List Ft) (v u : Value) (wr : World) : Prop where
  at_ : ∃ ck, DiskAt base d f c m rm fs A ck wr
  rel : RelD fs xs
  len : xs.length ≤ i
  few : A.length ≤ i
  fit : ∀ x ∈ A, Ft.Fits x
  used : usedF fs ≤ 50 * i
  room : (usedF fs : Int) ≤ rm
  s : Sl wr 0 3 v xs.length (rjc xs)
  t : Sl wr 0 2 u A.length (ftc A)
  fv : ∀ k, v.ownBlock = some k → ¬ Mine d f c m fs k ∧ k ≠ X
  fu : ∀ k, u.ownBlock = some k → ¬ Mine d f c m fs k ∧ k ≠ X
  x0 : wr.cell? ⟨X, 0, none⟩ = some v
  x1 : wr.cell? ⟨X, 1, none⟩ = some (.int .i64 rm)
  x2 : wr.cell? ⟨X, 2, none⟩ = some u
  fr : ∀ o, wr.frozen? ⟨X, o, none⟩ = false
  fx : ¬ Mine d f c m fs X
  lt : X < wr.heap.size
  below : Below w0.heap.size w0 wr
  mine : ∀ k, Mine d f c m fs k → w0.heap.size ≤ k
theorem P4.on {base d f c m X : Nat} {rm : Int} {w0 : World} {i : Nat} {fs : List Fl} {xs : List Rj} {A : List Ft} {v u : Value} {w w' : World} (h : P4 base d f c m X rm w0 i fs xs A v u w) (b : Below w.heap.size w w') : P4 base d f c m X rm w0 i fs xs A v u w' := by
  obtain ⟨ck, hD⟩ := h.at_
  exact ⟨⟨ck, hD.below b⟩, h.rel, h.len, h.few, h.fit, h.used, h.room, h.s.on b, h.t.on b, h.fv, h.fu, (b.cell (p := ⟨X, 0, none⟩) h.lt).trans h.x0, (b.cell (p := ⟨X, 1, none⟩) h.lt).trans h.x1, (b.cell (p := ⟨X, 2, none⟩) h.lt).trans h.x2, fun o => (b.frozen (p := ⟨X, o, none⟩) h.lt).trans (h.fr o), h.fx, Nat.lt_of_lt_of_le h.lt b.size, h.below.trans (b.mono h.below.size), h.mine⟩

set_option maxHeartbeats 4000000 in
set_option maxRecDepth 100000 in
theorem dplays_any (room : Int) (a1 : Option Addr) (len1 cap1 : Nat) (z1 : List Ac) (w : World) (h0 : -9223372036854775808 ≤ room ∧ room ≤ 9223372036854775807) (w1 : ActsAt w a1 len1 z1) :
    Calls Try.prog 3 #[.int .i64 room, .slice a1 len1 cap1] w fun e w' => e = .returned (.bool true) ∧ Below w.heap.size w w' := by
  have HN := Lib.hid (fun W => new_home room W h0.2 h0.1)
  have HA := Lib.hid (fun W => dawake_any W)
  obtain ⟨rm, hrm⟩ : ∃ rm, rm = max room 0 := ⟨_, rfl⟩
  have hrm0 : 0 ≤ rm := by omega
  rw [← hrm] at HN
  obtain ⟨hzl, hzf, hza⟩ := w1
  have HZF := Lib.hid hzf
  have HRM := Lib.hid hrm
  clear hzf hrm h0
  go_enter Try.func3, Try.ntmps3
  go_wp2_with fail
  refine (HN.out _).mono ?_
  rintro e x1 ⟨base, d, f, c, m, rfl, D1, hH, b1⟩
  go_wp2_with fail
  rw [← HRM.out]
  refine (HA.out _).mono ?_
  rintro e x2 ⟨rfl, b2⟩
  obtain ⟨X, hX⟩ : ∃ X, X = x1.heap.size := ⟨_, rfl⟩
  have hbk := heap_alloc_new x1 (.cells #[.slice none 0 0, .int .i64 rm, .slice none 0 0] 30)
  obtain ⟨V, hV⟩ : ∃ V, V = x1.alloc (.cells #[.slice none 0 0, .int .i64 rm, .slice none 0 0] 30) := ⟨_, rfl⟩
  rw [← hV] at b2 hbk
  have zV : V.heap.size = X + 1 := by rw [hV, hX]; simp
  have bV : Below x1.heap.size x1 V := by rw [hV]; exact (Below.refl _ _).alloc (Nat.le_refl _) _
  have hml : ∀ k, Mine d f c m [] k → k < X := by rw [hX]; exact Mine.lt D1
  have hbX : x2.heap[X]? = some (.cells #[.slice none 0 0, .int .i64 rm, .slice none 0 0] 30) := by rw [hX]; exact (b2.block x1.heap.size (by omega)).trans hbk
  have D2 : DiskAt base d f c m rm [] [] 0 x2 := (D1.below bV).below b2
  have e2 := D2.c0
  have bB : Below w.heap.size w x2 := (b1.trans (bV.mono b1.size)).trans (b2.mono (by have := b1.size; omega))
  have P0 : P4 base d f c m X rm w 0 [] [] [] (.slice none 0 0) (.slice none 0 0) x2 := by
    refine ⟨⟨0, D2⟩, ⟨List.Pairwise.nil, List.Perm.refl _⟩, Nat.le_refl _, Nat.le_refl _, by simp, by simp [usedF], by simpa [usedF] using hrm0, Sl.nil _ _ _, Sl.nil _ _ _, (fun _ h => nomatch h), (fun _ h => nomatch h), (cell_of_row _ _ 0 _ _ _ hbX).trans rfl, (cell_of_row _ _ 1 _ _ _ hbX).trans rfl, (cell_of_row _ _ 2 _ _ _ hbX).trans rfl, fun o => by simp only [World.frozen?, hbX]; rfl, fun e => Nat.lt_irrefl _ (hml X e), by have := b2.size; omega, bB, ?_⟩
    intro k hk
    have g1 := hH.d; have g2 := hH.f; have g3 := hH.c; have g4 := hH.m
    rcases hk with e | e | e | e | ⟨x, hx, _⟩
    · omega
    · omega
    · omega
    · omega
    · cases hx
  rw [← hX]
  have HWX := Lib.hid (show w.heap.size ≤ X by rw [hX]; exact b1.size)
  clear hX hV hbk zV bV D1 b1 b2 hbX D2 bB hH hml hrm0
  go_wp2_with fail
  clear e2
  go_loopw [7] (fun vi wr => ∃ (i : Nat) (fs : List Fl) (xs : List Rj) (A : List Ft) (v u : Value), vi = .int .i64 i ∧ i ≤ 40 ∧ P4 base d f c m X rm w i fs xs A v u wr) (fun vi _ => 40 - (RowKit.intOf vi).toNat)
  case atStart => exact ⟨0, _, _, _, _, _, rfl, by omega, P0⟩
  case round =>
    obtain ⟨i, fs, xs, A, v, u, rfl, hi, P⟩ := hrel
    by_cases hlt : i < len1 ∧ i < 40
    · obtain ⟨h3, h4⟩ := hlt
      obtain ⟨g, off, rfl, hg, hcell⟩ := hza (by omega)
      obtain ⟨t, ht⟩ : ∃ t, z1[i]? = some t := ⟨z1[i]'(by omega), List.getElem?_eq_getElem (by omega)⟩
      have F := HZF.out t (List.mem_of_getElem? ht)
      obtain ⟨q0, q1, q2, q3, q4, q5⟩ := hcell i t ht
      have bR := P.below
      have r0 := (bR.cell (p := ⟨g, off + i * 6, none⟩) hg).trans q0
      have r1 := (bR.cell (p := ⟨g, off + i * 6 + 1, none⟩) hg).trans q1
      have r2 := (bR.cell (p := ⟨g, off + i * 6 + 2, none⟩) hg).trans q2
      have r3 := (bR.cell (p := ⟨g, off + i * 6 + 3, none⟩) hg).trans q3
      have r4 := (bR.cell (p := ⟨g, off + i * 6 + 4, none⟩) hg).trans q4
      have r5 := (bR.cell (p := ⟨g, off + i * 6 + 5, none⟩) hg).trans q5
      have i3 : (i : Int) < len1 := by omega
      have i4 : (i : Int) < 40 := by omega
      obtain ⟨tk, tn, ta, tb, td, tav, tlv, tcv, tch⟩ := t
      simp only at r0 r1 r2 r3 r4 r5
      obtain ⟨ck, hbk⟩ := P.at_
      obtain ⟨hint1, hint2, hint3, hint4⟩ := F.ints
      simp only at hint1 hint2 hint3 hint4
      have hused : usedF fs ≤ 900000 := by have := P.used; omega
      have HD := Lib.hid (fun W (b : Below wr.heap.size wr W) => ddoes_any base d f c m ck rm fs v u xs A tk tn ta tb td tav tlv tcv tch W (hbk.below b) P.rel (P.s.on b) (by have := P.len; omega) (P.t.on b) (fun k hk => (P.fv k hk).1) (fun k hk => (P.fu k hk).1) (by have := P.few; omega) P.fit hused ⟨F.n0, F.n1⟩
        (hint2.on fun h9 k hk => (b.block k (Nat.lt_of_lt_of_le (hint4 h9 k hk) bR.size)).trans (bR.block k (hint4 h9 k hk))) hint3 (fun h9 k hk => ⟨Nat.lt_of_lt_of_le (hint4 h9 k hk) (Nat.le_trans bR.size b.size), fun e => by have := P.mine k e; have := hint4 h9 k hk; omega⟩))
      obtain ⟨va, vc, rfl⟩ := P.s.slice
      obtain ⟨ua, uc, rfl⟩ := P.t.slice
      obtain ⟨vn, hvn⟩ : ∃ n, n = xs.length := ⟨_, rfl⟩
      obtain ⟨un, hun⟩ : ∃ n, n = A.length := ⟨_, rfl⟩
      have x0 := P.x0
      have x1' := P.x1
      have x2' := P.x2
      rw [← hvn] at HD x0
      rw [← hun] at HD x2'
      unfold rdv at HD
      have HVN := Lib.hid hvn
      have HUN := Lib.hid hun
      have HP := Lib.hid P
      have hXr : X < wr.heap.size := P.lt
      have hgr : g < wr.heap.size := by have := bR.size; omega
      have hXn : ¬ Mine d f c m fs X := P.fx
      have hgn : ¬ Mine d f c m fs g := fun e => by have := P.mine g e; omega
      have hwn : ¬ Mine d f c m fs wr.heap.size := fun e => by have := Mine.lt hbk _ e; omega
      clear q0 q1 q2 q3 q4 q5 hcell ht F hza hzl P hbk bR hvn hun hint1 hint2 hint3 hint4 hused
      go_upto_region 8 with fail
      have KP := Lib.hid (fun (W' : World) (t : Turn (Mine d f c m fs) wr W') => show W'.cell? ⟨X, 0, none⟩ = some (.slice va vn vc) ∧ W'.cell? ⟨X, 1, none⟩ = some (.int .i64 rm) ∧ W'.cell? ⟨X, 2, none⟩ = some (.slice ua un uc) ∧ W'.cell? ⟨g, off + i * 6, none⟩ = some (.int .i64 tk) ∧ W'.cell? ⟨g, off + i * 6 + 1, none⟩ = some (.int .i64 tn) ∧ W'.cell? ⟨g, off + i * 6 + 2, none⟩ = some (.string ta) ∧ W'.cell? ⟨g, off + i * 6 + 3, none⟩ = some (.string tb) ∧ W'.cell? ⟨g, off + i * 6 + 4, none⟩ = some (.bool td) ∧ W'.cell? ⟨g, off + i * 6 + 5, none⟩ = some (.slice tav tlv tcv) from
        ⟨(t.cell (p := ⟨X, 0, none⟩) hXr hXn).trans x0, (t.cell (p := ⟨X, 1, none⟩) hXr hXn).trans x1', (t.cell (p := ⟨X, 2, none⟩) hXr hXn).trans x2', (t.cell (p := ⟨g, off + i * 6, none⟩) hgr hgn).trans r0, (t.cell (p := ⟨g, off + i * 6 + 1, none⟩) hgr hgn).trans r1, (t.cell (p := ⟨g, off + i * 6 + 2, none⟩) hgr hgn).trans r2, (t.cell (p := ⟨g, off + i * 6 + 3, none⟩) hgr hgn).trans r3, (t.cell (p := ⟨g, off + i * 6 + 4, none⟩) hgr hgn).trans r4, (t.cell (p := ⟨g, off + i * 6 + 5, none⟩) hgr hgn).trans r5⟩)
      have T0 : Turn (Mine d f c m fs) wr wr := Turn.refl _ _
      have B0 : Below wr.heap.size wr wr := Below.refl _ _
      go_cut [8, 9] from 30 to 58 (fun p q wc => ∃ y v2 u2 fs2 xs2 A2, p = .pointer (some ⟨y, 0, none⟩) ∧ q = .bool true ∧ wc.cell? ⟨y, 0, none⟩ = some v2 ∧ wc.cell? ⟨y, 1, none⟩ = some (.int .i64 rm) ∧ wc.cell? ⟨y, 2, none⟩ = some u2 ∧ DoneD base d f c m rm fs (.slice va vn vc) (.slice ua un uc) wr v2 u2 fs2 xs2 A2 wc ∧ xs2.length ≤ vn + 1 ∧ A2.length ≤ un + 1 ∧ ∀ x ∈ A2, Ft.Fits x)
      case first =>
        go_region_held3 (fun W => W.cell? ⟨X, 0, none⟩ = some (.slice va vn vc) ∧ W.cell? ⟨X, 1, none⟩ = some (.int .i64 rm) ∧ W.cell? ⟨X, 2, none⟩ = some (.slice ua un uc) ∧ W.cell? ⟨g, off + i * 6, none⟩ = some (.int .i64 tk) ∧ W.cell? ⟨g, off + i * 6 + 1, none⟩ = some (.int .i64 tn) ∧ W.cell? ⟨g, off + i * 6 + 2, none⟩ = some (.string ta) ∧ W.cell? ⟨g, off + i * 6 + 3, none⟩ = some (.string tb) ∧ W.cell? ⟨g, off + i * 6 + 4, none⟩ = some (.bool td) ∧ W.cell? ⟨g, off + i * 6 + 5, none⟩ = some (.slice tav tlv tcv)) (first | exact ⟨x0, x1', x2', r0, r1, r2, r3, r4, r5⟩ | (refine KP.out _ ?_; repeat (with_reducible (first | assumption | apply pd_drew | apply pd_alloc | (refine pd_set (by dsimp only; omega) ?_)))) | assumption)
          (first
            | (go_at_call 7; (with_reducible refine (HD.out wr.drew B0.drew).mono ?_); rintro e w2 ⟨v2, u2, fs2, xs2, A2, rfl, D2, L2, N2, F2⟩; obtain ⟨a2, c2, rfl⟩ := D2.s.slice; obtain ⟨a3, c3, rfl⟩ := D2.t.slice; have t2 : Turn (Mine d f c m fs) wr w2 := T0.drew.trans D2.turn; have z2 := t2.size; have hnb := heap_alloc_new w2 (.cells #[.slice none 0 0, .int .i64 0, .slice none 0 0] 30); have i0 := (cell_of_row _ _ 0 _ _ _ hnb).trans (show _ = some (Value.slice none 0 0) from rfl); have i1 := (cell_of_row _ _ 1 _ _ _ hnb).trans (show _ = some (Value.int .i64 0) from rfl); have i2 := (cell_of_row _ _ 2 _ _ _ hnb).trans (show _ = some (Value.slice none 0 0) from rfl); have j0 : (w2.alloc (.cells #[.slice none 0 0, .int .i64 0, .slice none 0 0] 30)).frozen? ⟨w2.heap.size, 0, none⟩ = false := (by simp only [World.frozen?, hnb]; rfl); have j1 : (w2.alloc (.cells #[.slice none 0 0, .int .i64 0, .slice none 0 0] 30)).frozen? ⟨w2.heap.size, 1, none⟩ = false := (by simp only [World.frozen?, hnb]; rfl); have j2 : (w2.alloc (.cells #[.slice none 0 0, .int .i64 0, .slice none 0 0] 30)).frozen? ⟨w2.heap.size, 2, none⟩ = false := (by simp only [World.frozen?, hnb]; rfl))
            | (go_at_call 7; (with_reducible refine (HD.out (wr.alloc (.cells #[.slice none 0 0, .int .i64 0, .slice none 0 0] 30)).drew (B0.alloc (Nat.le_refl _) (.cells #[.slice none 0 0, .int .i64 0, .slice none 0 0] 30)).drew).mono ?_); rintro e w2 ⟨v2, u2, fs2, xs2, A2, rfl, D2, L2, N2, F2⟩; obtain ⟨a2, c2, rfl⟩ := D2.s.slice; obtain ⟨a3, c3, rfl⟩ := D2.t.slice; have t2 : Turn (Mine d f c m fs) wr w2 := (pd_alloc T0).drew.trans D2.turn; have z2 := t2.size; have hnb := (D2.turn.block wr.heap.size (by simp) hwn).trans (heap_alloc_new wr (.cells #[.slice none 0 0, .int .i64 0, .slice none 0 0] 30)); have i0 := (cell_of_row _ _ 0 _ _ _ hnb).trans (show _ = some (Value.slice none 0 0) from rfl); have i1 := (cell_of_row _ _ 1 _ _ _ hnb).trans (show _ = some (Value.int .i64 0) from rfl); have i2 := (cell_of_row _ _ 2 _ _ _ hnb).trans (show _ = some (Value.slice none 0 0) from rfl); have j0 : w2.frozen? ⟨wr.heap.size, 0, none⟩ = false := (by simp only [World.frozen?, hnb]; rfl); have j1 : w2.frozen? ⟨wr.heap.size, 1, none⟩ = false := (by simp only [World.frozen?, hnb]; rfl); have j2 : w2.frozen? ⟨wr.heap.size, 2, none⟩ = false := (by simp only [World.frozen?, hnb]; rfl))
            | fail)
        all_goals (go_wp2_with fail)
        all_goals go_meet
        all_goals have hP := HP.out
        all_goals have hvl : ∀ i, (Value.slice va vn vc).ownBlock = some i → i < wr.heap.size := fun i hi => by have h := hP.s.lt i (by rw [← HVN.out]; exact hi); exact h.2
        all_goals have hul : ∀ i, (Value.slice ua un uc).ownBlock = some i → i < wr.heap.size := fun i hi => by have h := hP.t.lt i (by rw [← HUN.out]; exact hi); exact h.2
        all_goals first
          | (refine ⟨w2.heap.size, _, _, fs2, xs2, A2, rfl, rfl, (cell_of_row _ _ 0 _ _ _ (heap_alloc_new w2 _)).trans rfl, (cell_of_row _ _ 1 _ _ _ (heap_alloc_new w2 _)).trans rfl, (cell_of_row _ _ 2 _ _ _ (heap_alloc_new w2 _)).trans rfl, (D2.start B0.drew).then (S := fun _ => False) (Turn.of_below ((Below.refl w2.heap.size w2).alloc (Nat.le_refl _) _)) (fun _ h => h.elim) (fun _ _ => id) (fun _ _ => id) (fun _ _ => id), L2, N2, F2⟩; done)
          | skip
        all_goals
          have hzz : ∀ k, (wr.alloc (.cells #[.slice none 0 0, .int .i64 0, .slice none 0 0] 30)).drew.heap.size ≤ k → wr.heap.size + 1 ≤ k := fun k h => by
            have e : (wr.alloc (.cells #[.slice none 0 0, .int .i64 0, .slice none 0 0] 30)).drew.heap.size = wr.heap.size + 1 := World.size_alloc _ _
            omega
          have T6 : Turn (fun i => i = wr.heap.size) w2 (((w2.setCell ⟨wr.heap.size, 0, none⟩ (.slice a2 xs2.length c2)).setCell ⟨wr.heap.size, 1, none⟩ (.int .i64 rm)).setCell ⟨wr.heap.size, 2, none⟩ (.slice a3 A2.length c3)) := Turn.setCell (S := fun i => i = wr.heap.size) (Turn.setCell (S := fun i => i = wr.heap.size) (Turn.setCell (S := fun i => i = wr.heap.size) (Turn.refl _ w2) ⟨wr.heap.size, 0, none⟩ _ rfl) ⟨wr.heap.size, 1, none⟩ _ rfl) ⟨wr.heap.size, 2, none⟩ _ rfl
          refine ⟨wr.heap.size, _, _, fs2, xs2, A2, rfl, rfl, ?_, ?_, ?_, (D2.start (B0.alloc (Nat.le_refl _) (.cells #[.slice none 0 0, .int .i64 0, .slice none 0 0] 30)).drew).then T6 (fun k hk e => ?_) (fun k hk => ?_) (fun k hk => ?_) (fun k hk => by omega), L2, N2, F2⟩
          · rw [cell_setCell_other _ _ _ _ _ (.inr (by simp)), cell_setCell_other _ _ _ _ _ (.inr (by simp))]; exact cell_setCell_same _ _ _ _ (by rw [i0]; rfl)
          · rw [cell_setCell_other _ _ _ _ _ (.inr (by simp))]; exact cell_setCell_same _ _ _ _ (by rw [cell_setCell_other _ _ _ _ _ (.inr (by simp)), i1]; rfl)
          · exact cell_setCell_same _ _ _ _ (by rw [cell_setCell_other _ _ _ _ _ (.inr (by simp)), cell_setCell_other _ _ _ _ _ (.inr (by simp)), i2]; rfl)
          · rcases D2.mine k e with h | h
            · rw [hk] at h; exact hwn h
            · have := hzz k h; omega
          · rcases D2.ov k hk with h | h
            · have := hvl k h; omega
            · have := hzz k h; omega
          · rcases D2.ou k hk with h | h
            · have := hul k h; omega
            · have := hzz k h; omega
      case rest =>
        obtain ⟨y, v2, u2, fs2, xs2, A2, rfl, rfl, y0, y1, y2, D, L2, N2, F2⟩ := hcut
        obtain ⟨a2, c2, rfl⟩ := D.s.slice
        obtain ⟨a3, c3, rfl⟩ := D.t.slice
        have hP := HP.out
        have f0 := (D.turn.frozen (p := ⟨X, 0, none⟩) hXr hXn).trans (hP.fr 0)
        have f1 := (D.turn.frozen (p := ⟨X, 1, none⟩) hXr hXn).trans (hP.fr 1)
        have f2 := (D.turn.frozen (p := ⟨X, 2, none⟩) hXr hXn).trans (hP.fr 2)
        obtain ⟨z0', z1', z2', _⟩ := KP.out wc D.turn
        obtain ⟨L, hL⟩ : ∃ L, L = xs2.length := ⟨_, rfl⟩
        obtain ⟨M, hM2⟩ : ∃ M, M = A2.length := ⟨_, rfl⟩
        rw [← hL] at y0
        rw [← hM2] at y2
        have HL := Lib.hid hL
        have HM2 := Lib.hid hM2
        have HDn := Lib.hid D
        have HL2 := Lib.hid L2
        have HN2 := Lib.hid N2
        have HF2 := Lib.hid F2
        have hXc : X < wc.heap.size := Nat.lt_of_lt_of_le hXr D.turn.size
        clear x0 x1' x2' r0 r1 r2 r3 r4 r5 KP HD T0 B0 hP hL hM2 D L2 N2 F2
        go_upto_region 10 with fail
        obtain ⟨W3, hW3⟩ : ∃ W3, W3 = ((wc.setCell ⟨X, 0, none⟩ (.slice a2 L c2)).setCell ⟨X, 1, none⟩ (.int .i64 rm)).setCell ⟨X, 2, none⟩ (.slice a3 M c3) := ⟨_, rfl⟩
        have T3 : Turn (fun i => i = X) wc W3 := by rw [hW3]; exact Turn.setCell (S := fun i => i = X) (Turn.setCell (S := fun i => i = X) (Turn.setCell (S := fun i => i = X) (Turn.refl _ wc) ⟨X, 0, none⟩ _ rfl) ⟨X, 1, none⟩ _ rfl) ⟨X, 2, none⟩ _ rfl
        have P3 : P4 base d f c m X rm w (i + 1) fs2 xs2 A2 (.slice a2 L c2) (.slice a3 M c3) W3 := by
          have D := HDn.out
          have hP := HP.out
          have e1 := HVN.out; have e2 := HUN.out; have e3 := HL.out; have e4 := HM2.out
          have hX2 : ¬ Mine d f c m fs2 X := fun e => by
            rcases D.mine X e with h | h
            · exact hXn h
            · omega
          have hva : ∀ k, (Value.slice a2 L c2).ownBlock = some k → k ≠ X := fun k hk e => by
            rcases D.ov k (by rw [← e3]; exact hk) with h | h
            · exact (hP.fv k (by rw [← e1]; exact h)).2 e
            · omega
          have hua : ∀ k, (Value.slice a3 M c3).ownBlock = some k → k ≠ X := fun k hk e => by
            rcases D.ou k (by rw [← e4]; exact hk) with h | h
            · exact (hP.fu k (by rw [← e2]; exact h)).2 e
            · omega
          obtain ⟨ck2, hD2⟩ := D.at_
          refine ⟨⟨ck2, hD2.other T3 fun k hk => by rw [hk]; exact hX2⟩, D.rel, ?_, ?_, HF2.out, ?_, D.room hP.room, ?_, ?_, fun k hk => ⟨D.fv k (by rw [← e3]; exact hk), hva k hk⟩, fun k hk => ⟨D.fu k (by rw [← e4]; exact hk), hua k hk⟩, ?_, ?_, ?_, ?_, hX2, ?_, ?_, ?_⟩
          · have := HL2.out; have := hP.len; omega
          · have := HN2.out; have := hP.few; omega
          · have := D.used; have := hP.used; omega
          · rw [e3]; rw [e3] at hva; exact D.s.same T3.size fun j hj => T3.block j (D.s.lt j hj).2 (hva j hj)
          · rw [e4]; rw [e4] at hua; exact D.t.same T3.size fun j hj => T3.block j (D.t.lt j hj).2 (hua j hj)
          · rw [hW3, cell_setCell_other _ _ _ _ _ (.inr (by simp)), cell_setCell_other _ _ _ _ _ (.inr (by simp))]; exact cell_setCell_same _ _ _ _ (by rw [z0']; rfl)
          · rw [hW3, cell_setCell_other _ _ _ _ _ (.inr (by simp))]; exact cell_setCell_same _ _ _ _ (by rw [cell_setCell_other _ _ _ _ _ (.inr (by simp)), z1']; rfl)
          · rw [hW3]; exact cell_setCell_same _ _ _ _ (by rw [cell_setCell_other _ _ _ _ _ (.inr (by simp)), cell_setCell_other _ _ _ _ _ (.inr (by simp)), z2']; rfl)
          · intro o
            rw [hW3, frozen_setCell, frozen_setCell, frozen_setCell]
            exact (D.turn.frozen (p := ⟨X, o, none⟩) hXr hXn).trans (hP.fr o)
          · have := T3.size; omega
          · have hwX : w.heap.size ≤ X := HWX.out
            have b1 : Below w.heap.size w wc := hP.below.trans (D.turn.below hP.below.size fun j hj => hP.mine j hj)
            exact b1.trans (T3.below b1.size fun j hj => by omega)
          · intro k hk
            rcases D.mine k hk with h | h
            · exact hP.mine k h
            · have := hP.below.size; omega
        have x3 := P3.x0
        have x4 := P3.x1
        have x5 := P3.x2
        have IS := Lib.hid (fun W (b : Below W3.heap.size W3 W) => show Calls Try.prog 8 #[.pointer (some ⟨d, 0, none⟩), rdv (.slice a2 L c2) rm (.slice a3 M c3)] W (fun e w' => e = .returned (.int .i64 0) ∧ Below W.heap.size W w') from by
          obtain ⟨ck3, hD3⟩ := P3.at_
          exact dis_any base d f c m ck3 rm fs2 _ _ xs2 A2 W (hD3.below b) P3.rel (P3.s.on b) ⟨_, _, _, rfl⟩ (by have := P3.len; omega) (by have := P3.used; omega) P3.room)
        have HP3 := Lib.hid P3
        unfold rdv at IS
        rw [← hW3]
        clear hW3 T3 P3 f0 f1 f2 z0' z1' z2' y0 y1 y2 hXc
        go_wp2_with fail
        refine (IS.out _ (Below.refl _ _)).mono ?_
        rintro e w5 ⟨rfl, b5⟩
        have P5 := Lib.hid (HP3.out.on b5)
        clear b5 x3 x4 x5 IS
        go_wp2_with fail
        exact ⟨⟨i + 1, fs2, xs2, A2, _, _, by go_num, by omega, P5.out⟩, by simp [RowKit.intOf]; omega⟩
    · have hB := Lib.hid P.below
      have x0 := P.x0
      have x1' := P.x1
      have x2' := P.x2
      obtain ⟨va, vc, rfl⟩ := P.s.slice
      obtain ⟨ua, uc, rfl⟩ := P.t.slice
      obtain ⟨ck, hD⟩ := P.at_
      have RN := Lib.hid (fun W (b : Below wr.heap.size wr W) (k : ByteArray) (h : lookF k fs = none) => read_none base d f c m rm fs A ck k W (hD.below b) h)
      have RG := Lib.hid (fun W (b : Below wr.heap.size wr W) (k : ByteArray) (x : Fl) (h : lookF k fs = some x) => read_go base d f c m rm fs A ck k W (hD.below b) x h)
      have FD := Lib.hid (fun W (b : Below wr.heap.size wr W) (k : ByteArray) => dfind_any 0 _ rm _ xs k W (P.s.on b) (by have := P.len; omega) ⟨ua, A.length, uc, rfl⟩)
      have LK := Lib.hid (fun k => look_D P.rel k)
      have hXr := P.lt
      obtain ⟨vn, hvn⟩ : ∃ n, n = xs.length := ⟨_, rfl⟩
      obtain ⟨un, hun⟩ : ∃ n, n = A.length := ⟨_, rfl⟩
      rw [← hvn] at x0 FD
      rw [← hun] at x2' FD
      unfold rdv at FD
      clear hza hzl P hD hvn hun
      by_cases h3 : i < len1
      all_goals
        first
          | (have i20 : i = 40 := by omega
             subst i20)
          | skip
        clear hlt
        go_upto_region 12 with fail
        rcases LK.out ⟨#[110, 111, 32, 115, 117, 99, 104, 32, 102, 105, 108, 101]⟩ with ⟨hl, _⟩ | ⟨x, hl, _, _, hat⟩
        · have R1 := Lib.hid (RN.out wr (Below.refl _ _) _ hl)
          clear hl
          go_wp2_with fail
          refine R1.out.mono ?_
          rintro e w3 ⟨rfl, b3⟩
          have x3 := (b3.cell (p := ⟨X, 0, none⟩) hXr).trans x0
          have x4 := (b3.cell (p := ⟨X, 1, none⟩) hXr).trans x1'
          have x5 := (b3.cell (p := ⟨X, 2, none⟩) hXr).trans x2'
          have HB3 := Lib.hid b3
          clear x0 x1' x2' R1 b3
          go_wp2_with fail
          go_ret
          exact ⟨rfl, hB.out.trans (HB3.out.mono hB.out.size)⟩
        · have R1 := Lib.hid (RG.out wr (Below.refl _ _) _ x hl)
          have hge : 0 ≤ findR ⟨#[110, 111, 32, 115, 117, 99, 104, 32, 102, 105, 108, 101]⟩ xs := by
            unfold atR at hat
            unfold findR
            cases hi : idxR ⟨#[110, 111, 32, 115, 117, 99, 104, 32, 102, 105, 108, 101]⟩ xs with
            | none => rw [hi] at hat; cases hat
            | some j => simp
          obtain ⟨fv, hfv⟩ : ∃ fv, fv = findR ⟨#[110, 111, 32, 115, 117, 99, 104, 32, 102, 105, 108, 101]⟩ xs := ⟨_, rfl⟩
          have FD1 := Lib.hid (fun W (b : Below wr.heap.size wr W) => FD.out W b ⟨#[110, 111, 32, 115, 117, 99, 104, 32, 102, 105, 108, 101]⟩)
          rw [← hfv] at FD1 hge
          clear hl hat hfv
          go_wp2_with fail
          refine R1.out.mono ?_
          rintro e w3 ⟨rfl, b3⟩
          have x3 := (b3.cell (p := ⟨X, 0, none⟩) hXr).trans x0
          have x4 := (b3.cell (p := ⟨X, 1, none⟩) hXr).trans x1'
          have x5 := (b3.cell (p := ⟨X, 2, none⟩) hXr).trans x2'
          have HB3 := Lib.hid b3
          clear x0 x1' x2' R1 b3
          go_wp2_with fail
          refine (FD1.out _ HB3.out).mono ?_
          rintro e w4 ⟨rfl, b4⟩
          have HB4 := Lib.hid b4
          clear x3 x4 x5 b4
          go_wp2_with fail
          go_ret
          exact ⟨rfl, hB.out.trans ((HB3.out.trans (HB4.out.mono HB3.out.size)).mono hB.out.size)⟩
end Go.Proofs.Ytnjoojffefhgpaa
