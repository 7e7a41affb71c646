/- Layer 4's fuses: calls that try. -/
import Derived.Test.YtiegokjdnlhlcaaMD0
namespace Go.Proofs.Ytiegokjdnlhlcaa
open Go.Conc Go.RowKit

theorem FuseAt.turn {f c : Nat} {L L' : List Ft} {armed : Bool} {now : Ft} {w w' : World} (h : FuseAt f c L armed now w) (t : Turn (fun k => k = c) w w') (hc : ChanAt c L' w') (h16 : L'.length ≤ 16) (hf : ∀ x ∈ L', Ft.Fits x) : FuseAt f c L' armed now w' := by
  have hn : ¬ (fun k => k = c) f := h.ne
  exact ⟨Nat.lt_of_lt_of_le h.lt t.size, Nat.lt_of_lt_of_le h.clt t.size, h.ne, (t.cell (p := ⟨f, 0, none⟩) h.lt hn).trans h.c0, (t.cell (p := ⟨f, 1, none⟩) h.lt hn).trans h.c1, (t.cell (p := ⟨f, 2, none⟩) h.lt hn).trans h.c2, (t.cell (p := ⟨f, 3, none⟩) h.lt hn).trans h.c3,
    (t.frozen (p := ⟨f, 1, none⟩) h.lt hn).trans h.f1, (t.frozen (p := ⟨f, 2, none⟩) h.lt hn).trans h.f2, (t.frozen (p := ⟨f, 3, none⟩) h.lt hn).trans h.f3, hc, h16, hf, h.nfits⟩
theorem FuseAt.same {f c : Nat} {L : List Ft} {armed : Bool} {now : Ft} {w w' : World} (h : FuseAt f c L armed now w) (hs : w.heap.size ≤ w'.heap.size) (hf : w'.heap[f]? = w.heap[f]?) (hc : w'.heap[c]? = w.heap[c]?) : FuseAt f c L armed now w' := by
  obtain ⟨s, r, hch⟩ := h.chan
  exact ⟨Nat.lt_of_lt_of_le h.lt hs, Nat.lt_of_lt_of_le h.clt hs, h.ne, (World.cell?_of_block (a := ⟨f, 0, none⟩) hf).trans h.c0, (World.cell?_of_block (a := ⟨f, 1, none⟩) hf).trans h.c1, (World.cell?_of_block (a := ⟨f, 2, none⟩) hf).trans h.c2, (World.cell?_of_block (a := ⟨f, 3, none⟩) hf).trans h.c3,
    (World.frozen?_of_block (a := ⟨f, 1, none⟩) hf).trans h.f1, (World.frozen?_of_block (a := ⟨f, 2, none⟩) hf).trans h.f2, (World.frozen?_of_block (a := ⟨f, 3, none⟩) hf).trans h.f3, ⟨s, r, hc.trans hch⟩, h.few, h.fits, h.nfits⟩
theorem FuseAt.below {f c : Nat} {L : List Ft} {armed : Bool} {now : Ft} {w w' : World} (h : FuseAt f c L armed now w) (b : Below w.heap.size w w') : FuseAt f c L armed now w' :=
  h.same b.size (b.block f h.lt) (b.block c h.clt)
/-- The fuse's own cells are stored. -/
theorem FuseAt.set {f c : Nat} {L : List Ft} {armed : Bool} {now : Ft} {w : World} (h : FuseAt f c L armed now w) (a' : Bool) (n' : Ft) (w' : World) (hn : Ft.Fits n') (hs : w.heap.size ≤ w'.heap.size) (hc : w'.heap[c]? = w.heap[c]?)
    (c0 : w'.cell? ⟨f, 0, none⟩ = w.cell? ⟨f, 0, none⟩) (c1 : w'.cell? ⟨f, 1, none⟩ = some (.bool a')) (c2 : w'.cell? ⟨f, 2, none⟩ = some (.int .i64 n'.1)) (c3 : w'.cell? ⟨f, 3, none⟩ = some (.bool n'.2))
    (f1 : w'.frozen? ⟨f, 1, none⟩ = w.frozen? ⟨f, 1, none⟩) (f2 : w'.frozen? ⟨f, 2, none⟩ = w.frozen? ⟨f, 2, none⟩) (f3 : w'.frozen? ⟨f, 3, none⟩ = w.frozen? ⟨f, 3, none⟩) : FuseAt f c L a' n' w' := by
  obtain ⟨s, r, hch⟩ := h.chan
  exact ⟨Nat.lt_of_lt_of_le h.lt hs, Nat.lt_of_lt_of_le h.clt hs, h.ne, c0.trans h.c0, c1, c2, c3, f1.trans h.f1, f2.trans h.f2, f3.trans h.f3, ⟨s, r, hc.trans hch⟩, h.few, h.fits, hn⟩

theorem FuseAt.store3 {f c : Nat} {L : List Ft} {armed : Bool} {now : Ft} {w : World} (h : FuseAt f c L armed now w) (x : Int) (y z : Bool) (hx : Ft.Fits (x, y)) :
    FuseAt f c L z (x, y) (((w.setCell ⟨f, 2, none⟩ (.int .i64 x)).setCell ⟨f, 3, none⟩ (.bool y)).setCell ⟨f, 1, none⟩ (.bool z)) := by
  have hne := h.ne
  refine h.set z (x, y) _ hx (by simp [World.setCell]) ?_ ?_ ?_ ?_ ?_ ?_ ?_ ?_
  · rw [Below.heap_setCell _ _ _ _ (Ne.symm hne), Below.heap_setCell _ _ _ _ (Ne.symm hne), Below.heap_setCell _ _ _ _ (Ne.symm hne)]
  · rw [cell_setCell_other _ _ _ _ _ (.inr (by simp)), cell_setCell_other _ _ _ _ _ (.inr (by simp)), cell_setCell_other _ _ _ _ _ (.inr (by simp))]
  · exact cell_setCell_same _ _ _ _ (by rw [cell_setCell_other _ _ _ _ _ (.inr (by simp)), cell_setCell_other _ _ _ _ _ (.inr (by simp)), h.c1]; rfl)
  · rw [cell_setCell_other _ _ _ _ _ (.inr (by simp)), cell_setCell_other _ _ _ _ _ (.inr (by simp)), cell_setCell_same _ _ _ _ (by rw [h.c2]; rfl)]
  · rw [cell_setCell_other _ _ _ _ _ (.inr (by simp)), cell_setCell_same _ _ _ _ (by rw [cell_setCell_other _ _ _ _ _ (.inr (by simp)), h.c3]; rfl)]
  · rw [frozen_setCell, frozen_setCell, frozen_setCell]
  · rw [frozen_setCell, frozen_setCell, frozen_setCell]
  · rw [frozen_setCell, frozen_setCell, frozen_setCell]
theorem FuseAt.store2 {f c : Nat} {L : List Ft} {armed : Bool} {now : Ft} {w : World} (h : FuseAt f c L armed now w) (x : Int) (hx : Ft.Fits (x, now.2)) :
    FuseAt f c L armed (x, now.2) (w.setCell ⟨f, 2, none⟩ (.int .i64 x)) := by
  have hne := h.ne
  refine h.set armed (x, now.2) _ hx (by simp [World.setCell]) ?_ ?_ ?_ ?_ ?_ ?_ ?_ ?_
  · rw [Below.heap_setCell _ _ _ _ (Ne.symm hne)]
  · rw [cell_setCell_other _ _ _ _ _ (.inr (by simp))]
  · rw [cell_setCell_other _ _ _ _ _ (.inr (by simp))]; exact h.c1
  · exact cell_setCell_same _ _ _ _ (by rw [h.c2]; rfl)
  · rw [cell_setCell_other _ _ _ _ _ (.inr (by simp))]; exact h.c3
  · rw [frozen_setCell]
  · rw [frozen_setCell]
  · rw [frozen_setCell]

def chanLen (c : Nat) (w : World) : Nat := match w.heap[c]? with | some (.chan _ buf _ _ _ _) => buf.size | _ => 0
theorem chanLen_of {c : Nat} {L : List Ft} {w : World} (h : ChanAt c L w) : chanLen c w = L.length := by
  obtain ⟨s, r, hc⟩ := h
  unfold chanLen
  rw [hc]; simp
def boolNat : Value → Nat | .bool true => 1 | _ => 0

/-- What lies in the fuse, in one row: the armed one first. -/
def view (L : List Ft) (armed : Bool) (now : Ft) : List Ft := (if armed then now :: L else L).map fun x => (max x.1 0, x.2)
def tryL : List Ft → (Bool × Bool) × List Ft
  | [] => ((true, true), [])
  | x :: A => if x.1 > 0 then ((true, true), (x.1 - 1, x.2) :: A) else ((false, x.2), A)
/-- A fuse that holds these faults. -/
def Holds (f c : Nat) (A : List Ft) (w : World) : Prop := ∃ L armed now, FuseAt f c L armed now w ∧ view L armed now = A
abbrev Own (f c : Nat) : Nat → Prop := fun k => k = f ∨ k = c

set_option maxRecDepth 100000 in
theorem clear_any (f c : Nat) (L : List Ft) (armed : Bool) (now : Ft) (w : World) (h : FuseAt f c L armed now w) :
    Calls Try.prog 15 #[.pointer (some ⟨f, 0, none⟩)] w fun e w' => e = .returned (.tuple #[]) ∧ FuseAt f c [] false (0, false) w' ∧ Turn (Own f c) w w' := by
  go_enter Try.func15, Try.ntmps15
  go_wp2_with fail
  go_loopw [2] (fun t' wr => ∃ (t : Bool) (L' : List Ft), t' = .bool t ∧ FuseAt f c L' armed now wr ∧ (t = false → L' = []) ∧ Turn (Own f c) w wr) (fun t' wr => chanLen c wr + boolNat t')
  case atStart => exact ⟨true, L, rfl, h, (fun h => by cases h), Turn.refl _ _⟩
  case round =>
    obtain ⟨t, L', rfl, hF, hL, ht⟩ := hrel
    cases t
    · have hL0 := hL rfl
      subst hL0
      obtain ⟨c0, c1⟩ := And.intro hF.c0 hF.c1
      obtain ⟨c2, c3⟩ := And.intro hF.c2 hF.c3
      obtain ⟨f1, f2⟩ := And.intro hF.f1 hF.f2
      have f3 := hF.f3
      go_wp2_with fail
      go_returns
      exact ⟨rfl, hF.store3 0 false false (by unfold Ft.Fits; decide), ((ht.setCell ⟨f, 2, none⟩ _ (.inl rfl)).setCell ⟨f, 3, none⟩ _ (.inl rfl)).setCell ⟨f, 1, none⟩ _ (.inl rfl)⟩
    · match L', hF with
      | [], hF =>
        go_wp2_with fail
        refine (take_none f c armed now _ hF).mono ?_
        rintro e w1 ⟨rfl, b1⟩
        have hF1 := hF.below b1
        go_wp2
        refine ⟨⟨false, [], rfl, hF1, (fun _ => rfl), ht.trans (Turn.of_below b1)⟩, ?_⟩
        rw [chanLen_of hF.chan, chanLen_of hF1.chan]
        simp [boolNat]
      | x :: L', hF =>
        go_wp2_with fail
        refine (take_some f c x L' armed now _ hF).mono ?_
        rintro e w1 ⟨rfl, ch1, t1⟩
        have hF1 := hF.turn t1 ch1 (by have := hF.few; simp at this; omega) (fun y hy => hF.fits y (List.mem_cons_of_mem _ hy))
        go_wp2
        refine ⟨⟨true, L', rfl, hF1, (fun h => by cases h), ht.trans (t1.mono fun k hk => .inr hk)⟩, ?_⟩
        rw [chanLen_of hF.chan, chanLen_of hF1.chan]
        simp

/-- What a call that tries does with the fuse as it lies: armed. -/
theorem try_armed (f c : Nat) (L : List Ft) (now : Ft) (w : World) (h : FuseAt f c L true now w) :
    Calls Try.prog 68 #[.pointer (some ⟨f, 0, none⟩)] w fun e w' => e = .returned (.tuple #[.bool (tryL (view L true now)).1.1, .bool (tryL (view L true now)).1.2]) ∧ Holds f c (tryL (view L true now)).2 w' ∧ Turn (Own f c) w w' := by
  obtain ⟨c0, c1⟩ := And.intro h.c0 h.c1
  obtain ⟨c2, c3⟩ := And.intro h.c2 h.c3
  obtain ⟨f1, f2⟩ := And.intro h.f1 h.f2
  have f3 := h.f3
  obtain ⟨n, d⟩ := now
  have hn := h.nfits
  unfold Ft.Fits at hn
  simp only at c2 c3 hn
  by_cases hp : 0 < n
  · have hv : tryL (view L true (n, d)) = ((true, true), view L true (n - 1, d)) := by
      simp only [view, tryL, if_true, List.map_cons]
      rw [if_pos (by omega)]
      congr 3; omega
    rw [hv]
    go_enter Try.func68, Try.ntmps68
    go_wp2
    go_ret2
    exact ⟨rfl, ⟨L, true, (n - 1, d), h.store2 (n - 1) (by unfold Ft.Fits; simp only; omega), rfl⟩, (Turn.refl _ w).setCell ⟨f, 2, none⟩ _ (.inl rfl)⟩
  · have hv : tryL (view L true (n, d)) = ((false, d), view L false (0, false)) := by
      simp only [view, tryL, if_true, List.map_cons]
      rw [if_neg (by omega)]
      rfl
    rw [hv]
    go_enter Try.func68, Try.ntmps68
    go_wp2
    go_ret2
    exact ⟨rfl, ⟨L, false, (0, false), h.store3 0 false false (by unfold Ft.Fits; decide), rfl⟩, (((Turn.refl _ w).setCell ⟨f, 2, none⟩ _ (.inl rfl)).setCell ⟨f, 3, none⟩ _ (.inl rfl)).setCell ⟨f, 1, none⟩ _ (.inl rfl)⟩

theorem try_idle (f c : Nat) (now : Ft) (w : World) (h : FuseAt f c [] false now w) :
    Calls Try.prog 68 #[.pointer (some ⟨f, 0, none⟩)] w fun e w' => e = .returned (.tuple #[.bool true, .bool true]) ∧ Holds f c [] w' ∧ Turn (Own f c) w w' := by
  have c1 := h.c1
  go_enter Try.func68, Try.ntmps68
  go_wp2_with fail
  refine (take_none f c false now _ h).mono ?_
  rintro e w1 ⟨rfl, b1⟩
  have h1 := h.below b1
  obtain ⟨d0, d1⟩ := And.intro h1.c0 h1.c1
  obtain ⟨d2, d3⟩ := And.intro h1.c2 h1.c3
  obtain ⟨f1, f2⟩ := And.intro h1.f1 h1.f2
  have f3 := h1.f3
  simp only [ftv]
  go_wp2
  go_ret2
  exact ⟨rfl, ⟨[], false, (0, false), h1.store3 0 false false (by unfold Ft.Fits; decide), rfl⟩, (((Turn.of_below b1).setCell ⟨f, 2, none⟩ _ (.inl rfl)).setCell ⟨f, 3, none⟩ _ (.inl rfl)).setCell ⟨f, 1, none⟩ _ (.inl rfl)⟩

theorem try_first (f c : Nat) (x : Ft) (L : List Ft) (now : Ft) (w : World) (h : FuseAt f c (x :: L) false now w) :
    Calls Try.prog 68 #[.pointer (some ⟨f, 0, none⟩)] w fun e w' => e = .returned (.tuple #[.bool (tryL (view L true x)).1.1, .bool (tryL (view L true x)).1.2]) ∧ Holds f c (tryL (view L true x)).2 w' ∧ Turn (Own f c) w w' := by
  have c1 := h.c1
  have hn := h.fits x (by simp)
  obtain ⟨n, d⟩ := x
  unfold Ft.Fits at hn
  simp only at hn
  have TK := take_some f c (n, d) L false now w h
  have HTK := Lib.hid TK
  clear TK
  have key : ∀ w1, ChanAt c L w1 → Turn (fun k => k = c) w w1 → FuseAt f c L false now w1 := fun w1 ch1 t1 => h.turn t1 ch1 (by have := h.few; simp at this; omega) (fun y hy => h.fits y (List.mem_cons_of_mem _ hy))
  have HK := Lib.hid key
  clear key h
  by_cases hp : 0 < n
  · have hv : tryL (view L true (n, d)) = ((true, true), view L true (n - 1, d)) := by
      simp only [view, tryL, if_true, List.map_cons]
      rw [if_pos (by omega)]
      congr 3; omega
    rw [hv]
    clear hv
    go_enter Try.func68, Try.ntmps68
    go_wp2_with fail
    refine HTK.out.mono ?_
    rintro e w1 ⟨rfl, ch1, t1⟩
    have h1 := HK.out w1 ch1 t1
    obtain ⟨d0, d1⟩ := And.intro h1.c0 h1.c1
    obtain ⟨d2, d3⟩ := And.intro h1.c2 h1.c3
    obtain ⟨f1, f2⟩ := And.intro h1.f1 h1.f2
    have f3 := h1.f3
    simp only [ftv]
    go_wp2
    go_ret2
    have h2 := h1.store3 n d true (by unfold Ft.Fits; exact hn)
    exact ⟨rfl, ⟨L, true, (n - 1, d), h2.store2 (n - 1) (by unfold Ft.Fits; simp only; omega), rfl⟩, ((((t1.mono fun k hk => Or.inr hk : Turn (Own f c) w w1).setCell ⟨f, 2, none⟩ _ (.inl rfl)).setCell ⟨f, 3, none⟩ _ (.inl rfl)).setCell ⟨f, 1, none⟩ _ (.inl rfl)).setCell ⟨f, 2, none⟩ _ (.inl rfl)⟩
  · have hv : tryL (view L true (n, d)) = ((false, d), view L false (0, false)) := by
      simp only [view, tryL, if_true, List.map_cons]
      rw [if_neg (by omega)]
      rfl
    rw [hv]
    clear hv
    go_enter Try.func68, Try.ntmps68
    go_wp2_with fail
    refine HTK.out.mono ?_
    rintro e w1 ⟨rfl, ch1, t1⟩
    have h1 := HK.out w1 ch1 t1
    obtain ⟨d0, d1⟩ := And.intro h1.c0 h1.c1
    obtain ⟨d2, d3⟩ := And.intro h1.c2 h1.c3
    obtain ⟨f1, f2⟩ := And.intro h1.f1 h1.f2
    have f3 := h1.f3
    simp only [ftv]
    go_wp2
    go_ret2
    have h2 := h1.store3 n d true (by unfold Ft.Fits; exact hn)
    exact ⟨rfl, ⟨L, false, (0, false), h2.store3 0 false false (by unfold Ft.Fits; decide), rfl⟩, ((((((t1.mono fun k hk => Or.inr hk : Turn (Own f c) w w1).setCell ⟨f, 2, none⟩ _ (.inl rfl)).setCell ⟨f, 3, none⟩ _ (.inl rfl)).setCell ⟨f, 1, none⟩ _ (.inl rfl)).setCell ⟨f, 2, none⟩ _ (.inl rfl)).setCell ⟨f, 3, none⟩ _ (.inl rfl)).setCell ⟨f, 1, none⟩ _ (.inl rfl)⟩

theorem try_any (f c : Nat) (A : List Ft) (w : World) (h : Holds f c A w) :
    Calls Try.prog 68 #[.pointer (some ⟨f, 0, none⟩)] w fun e w' => e = .returned (.tuple #[.bool (tryL A).1.1, .bool (tryL A).1.2]) ∧ Holds f c (tryL A).2 w' ∧ Turn (Own f c) w w' := by
  obtain ⟨L, armed, now, hF, rfl⟩ := h
  cases armed
  · match L, hF with
    | [], hF => exact try_idle f c now w hF
    | x :: L, hF => exact try_first f c x L now w hF
  · exact try_armed f c L now w hF

/-- What Do leaves: the fuse has been tried (world W); then, if it is done, the act. -/
def Did (f c : Nat) (A : List Ft) (w : World) (Q : World → Int → World → Prop) (e : Ending) (w' : World) : Prop :=
  ∃ W, Holds f c (tryL A).2 W ∧ Turn (Own f c) w W ∧
    (if (tryL A).1.2 then ∃ er, Q W er w' ∧ e = .returned (.int .i64 (if er = 0 then (if (tryL A).1.1 then 0 else 8) else er)) else e = .returned (.int .i64 (if (tryL A).1.1 then 0 else 8)) ∧ W = w')


set_option maxRecDepth 100000 in
theorem do_append (f c : Nat) (caps : Array Value) (A : List Ft) (w : World) (Q : World → Int → World → Prop) (h : Holds f c A w)
    (act : ∀ W, Holds f c (tryL A).2 W → Turn (Own f c) w W → Calls Try.prog 53 caps W fun e w' => ∃ er, e = .returned (.int .i64 er) ∧ Q W er w') :
    Calls Try.prog 49 #[.pointer (some ⟨f, 0, none⟩), .func (.func 53) #[] caps] w (Did f c A w Q) := by
  have HT := Lib.hid (try_any f c A w h)
  have HA := Lib.hid act
  clear act
  unfold Did
  rcases hr : (tryL A) with ⟨⟨works, done⟩, A'⟩
  rw [hr] at HT HA
  simp only
  cases done
  · cases works
    all_goals
      go_enter Try.func49, Try.ntmps49
      go_wp2_with fail
      refine HT.out.mono ?_
      rintro e w1 ⟨rfl, h1, t1⟩
      go_wp2
      go_ret
      exact ⟨w1, h1, t1, rfl, rfl⟩
  · cases works
    all_goals
      go_enter Try.func49, Try.ntmps49
      go_wp2_with fail
      refine HT.out.mono ?_
      rintro e w1 ⟨rfl, h1, t1⟩
      have C := Lib.hid (HA.out w1 h1 t1)
      go_wp2_with fail
      refine C.out.mono ?_
      rintro e w2 ⟨er, rfl, hq⟩
      by_cases h0 : er = 0
      · subst h0
        go_wp2
        go_ret
        exact ⟨w1, h1, t1, 0, hq, rfl⟩
      · have hd : (er != 0) = true := by simpa using h0
        go_wp2
        go_ret
        refine ⟨w1, h1, t1, er, hq, ?_⟩
        rw [if_neg h0]
        rfl

set_option maxRecDepth 100000 in
theorem do_sync (f c : Nat) (caps : Array Value) (A : List Ft) (w : World) (Q : World → Int → World → Prop) (h : Holds f c A w)
    (act : ∀ W, Holds f c (tryL A).2 W → Turn (Own f c) w W → Calls Try.prog 54 caps W fun e w' => ∃ er, e = .returned (.int .i64 er) ∧ Q W er w') :
    Calls Try.prog 49 #[.pointer (some ⟨f, 0, none⟩), .func (.func 54) #[] caps] w (Did f c A w Q) := by
  have HT := Lib.hid (try_any f c A w h)
  have HA := Lib.hid act
  clear act
  unfold Did
  rcases hr : (tryL A) with ⟨⟨works, done⟩, A'⟩
  rw [hr] at HT HA
  simp only
  cases done
  · cases works
    all_goals
      go_enter Try.func49, Try.ntmps49
      go_wp2_with fail
      refine HT.out.mono ?_
      rintro e w1 ⟨rfl, h1, t1⟩
      go_wp2
      go_ret
      exact ⟨w1, h1, t1, rfl, rfl⟩
  · cases works
    all_goals
      go_enter Try.func49, Try.ntmps49
      go_wp2_with fail
      refine HT.out.mono ?_
      rintro e w1 ⟨rfl, h1, t1⟩
      have C := Lib.hid (HA.out w1 h1 t1)
      go_wp2_with fail
      refine C.out.mono ?_
      rintro e w2 ⟨er, rfl, hq⟩
      by_cases h0 : er = 0
      · subst h0
        go_wp2
        go_ret
        exact ⟨w1, h1, t1, 0, hq, rfl⟩
      · have hd : (er != 0) = true := by simpa using h0
        go_wp2
        go_ret
        refine ⟨w1, h1, t1, er, hq, ?_⟩
        rw [if_neg h0]
        rfl
end Go.Proofs.Ytiegokjdnlhlcaa
