/- Layer 4: a file's beginning; Sync's inner closure. -/
import Derived.Test.YtiegokjdnlhlcaaMD6
import Derived.Deep.RegionHeld3
namespace Go.Proofs.Ytiegokjdnlhlcaa
open Go.Conc Go.RowKit

theorem fcut_any (a : Option Addr) (n cap k : Nat) (s : Int) (w : World) (hk : k ≤ n) (hc : n ≤ cap) :
    Calls Try.prog 18 #[.agg #[.slice a n cap, .int .i64 s], .int .i64 k] w fun e w' => e = .returned (fval (.slice a k cap) k) ∧ Below w.heap.size w w' := by
  go_enter Try.func18, Try.ntmps18
  go_wp2
  go_returns
  exact ⟨rfl, ((Below.refl _ w).alloc (Nat.le_refl _) _).alloc (by simp) _⟩

theorem files_cut {base : Nat} {fs : List Fl} {w : World} (h : Files base fs w) (x : Fl) (hx : x ∈ fs) (a : Option Addr) (n cap k : Nat) (hv : x.v = .slice a n cap) (hk : k ≤ n) :
    Sl w base 1 (.slice a k cap) k (cb (x.data.take k)) ∧ n ≤ cap ∧ n = x.data.length := by
  have hs := h.sl x hx
  have hn : n = x.data.length := by
    obtain ⟨a', cap', he⟩ := hs.slice
    rw [hv] at he
    cases he
    rfl
  rw [hv, ← hn] at hs
  rcases hs.2 with ⟨h0, h1⟩ | ⟨g, off, cap', he, _, _, h2, h3, _⟩
  · cases h0
    have : k = 0 := by omega
    subst this
    exact ⟨by simpa [cb] using Sl.nil w base 1, Nat.le_refl _, hn⟩
  · cases he
    exact ⟨hs.cut hk, h2, hn⟩

theorem look_of {fs : List Fl} (h : (fs.map (·.name)).Nodup) (x : Fl) (hx : x ∈ fs) : lookF x.name fs = some x := by
  cases hl : lookF x.name fs with
  | none => exact absurd rfl (look_none x.name fs hl x hx)
  | some y =>
    have hy := look_mem x.name fs y hl
    rw [name_inj fs h y hy.1 x hx hy.2]

theorem Now.put {base d f c m : Nat} {room : Int} {fs : List Fl} {A : List Ft} {w w2 w4 : World} {name : ByteArray} {v : Value} {data : List UInt8} {s b : Nat} (hn : (fs.map (·.name)).Nodup) (hv : ∀ k, v.ownBlock = some k → Mine d f c m fs k) (k : Below w.heap.size w w2)
    (D : ∃ clock', DiskAt base d f c m room (setF name v data s b fs) A clock' w4) (t : Turn (fun k => k = d ∨ k = m) w2 w4) : Now base d f c m room fs (setF name v data s b fs) A w w4 := by
  refine ⟨D, (Turn.of_below k).trans (t.mono fun k hk => by rcases hk with e | e; exact .inl e; exact .inr (.inr (.inr (.inl e)))), fun k hk => ?_⟩
  rcases hk with e | e | e | e | ⟨x, hxm, hxk⟩
  · exact .inl (.inl e)
  · exact .inl (.inr (.inl e))
  · exact .inl (.inr (.inr (.inl e)))
  · exact .inl (.inr (.inr (.inr (.inl e))))
  · rcases set_mem name _ _ _ _ fs hn x hxm with ⟨h1, _⟩ | ⟨h1, _⟩
    · exact .inl (.inr (.inr (.inr (.inr ⟨x, h1, hxk⟩))))
    · rw [h1] at hxk
      exact .inl (hv k hxk)

set_option maxHeartbeats 1000000 in
set_option maxRecDepth 100000 in
theorem sync1_any (base d f c m : Nat) (room : Int) (fs : List Fl) (A : List Ft) (clock : Nat) (x : Fl) (a : Option Addr) (n cap bd bn bf : Nat) (s : Int) (w : World) (h : DiskAt base d f c m room fs A clock w) (hx : x ∈ fs) (hv : x.v = .slice a n cap)
    (p0 : w.cell? ⟨bd, 0, none⟩ = some (.pointer (some ⟨d, 0, none⟩))) (p1 : w.cell? ⟨bn, 0, none⟩ = some (.string x.name)) (p2 : w.cell? ⟨bf, 0, none⟩ = some (.slice a n cap)) (p3 : w.cell? ⟨bf, 1, none⟩ = some (.int .i64 s))
    (q : ∀ k, k = bd ∨ k = bn ∨ k = bf → k < w.heap.size ∧ ¬ Mine d f c m fs k) :
    Calls Try.prog 54 #[.pointer (some ⟨bd, 0, none⟩), .pointer (some ⟨bn, 0, none⟩), .pointer (some ⟨bf, 0, none⟩)] w fun e w' => ∃ er, e = .returned (.int .i64 er) ∧ er = 0 ∧ Now base d f c m room fs (setF x.name x.v x.data x.data.length clock fs) A w w' := by
  obtain ⟨hsl, hnc, hn⟩ := files_cut h.files x hx a n cap n hv (Nat.le_refl _)
  have hlook := look_of h.files.names x hx
  have hval : valF x.name fs = .slice a n cap := by unfold valF; rw [hlook]; exact hv
  have hlen : lenF x.name fs = n := by unfold lenF; rw [hlook]; exact hn.symm
  have hap : ∀ y ∈ fs, y.name ≠ x.name → ∀ i, (Value.slice a n cap).ownBlock = some i → y.v.ownBlock ≠ some i := by
    rw [← hval]; exact files_apart h.files x.name
  rw [List.take_of_length_le (by omega)] at hsl
  have hsm := h.small
  have C1 := fun W => Lib.hid (fcut_any a n cap n s W (Nat.le_refl _) hnc)
  have C2 := fun W (D : DiskAt base d f c m room fs A clock W) (hs : Sl W base 1 (.slice a n cap) n (cb x.data)) => Lib.hid (dput_any base d f c m room fs A clock x.name a n cap n x.data W D (by omega) hn.symm hs (Nat.le_refl _) hap)
  have H1 := Lib.hid C1; have H2 := Lib.hid C2
  have HN := Lib.hid hn
  have HV := Lib.hid hv
  clear C1 C2 hn hv hap hlen hval hlook
  have nd : ∀ k, k = bd ∨ k = bn ∨ k = bf → ¬ (k = d ∨ k = m) := fun k hk e => (q k hk).2 (by rcases e with e | e; exact .inl e; exact .inr (.inr (.inr (.inl e))))
  have qd := q bd (.inl rfl); have qn := q bn (.inr (.inl rfl)); have qf := q bf (.inr (.inr rfl))
  go_enter Try.func54, Try.ntmps54
  go_wp2_with fail
  go_region_held3 (fun W => W.cell? ⟨bd, 0, none⟩ = some (.pointer (some ⟨d, 0, none⟩)) ∧ W.cell? ⟨bn, 0, none⟩ = some (.string x.name) ∧ W.cell? ⟨bf, 0, none⟩ = some (.slice a n cap) ∧ W.cell? ⟨bf, 1, none⟩ = some (.int .i64 s)) (first | exact ⟨p0, p1, p2, p3⟩ | assumption)
    (first
      | (go_at_call 18; refine (H1.out _).out.mono ?_; rintro e w2 ⟨rfl, b2⟩; unfold fval; have d2 := And.intro ((b2.cell (p := ⟨bd, 0, none⟩) qd.1).trans p0) (And.intro ((b2.cell (p := ⟨bn, 0, none⟩) qn.1).trans p1) (And.intro ((b2.cell (p := ⟨bf, 0, none⟩) qf.1).trans p2) ((b2.cell (p := ⟨bf, 1, none⟩) qf.1).trans p3))))
      | (go_at_call 17; refine (H2.out w2 (h.below ((Below.refl _ w).drew.trans b2)) (hsl.on ((Below.refl _ w).drew.trans b2))).out.mono ?_; rintro e w4 ⟨rfl, D4, t4⟩; have d4 := And.intro ((t4.cell (p := ⟨bd, 0, none⟩) (Nat.lt_of_lt_of_le qd.1 b2.size) (nd bd (.inl rfl))).trans d2.1) (And.intro ((t4.cell (p := ⟨bn, 0, none⟩) (Nat.lt_of_lt_of_le qn.1 b2.size) (nd bn (.inr (.inl rfl)))).trans d2.2.1) (And.intro ((t4.cell (p := ⟨bf, 0, none⟩) (Nat.lt_of_lt_of_le qf.1 b2.size) (nd bf (.inr (.inr rfl)))).trans d2.2.2.1) ((t4.cell (p := ⟨bf, 1, none⟩) (Nat.lt_of_lt_of_le qf.1 b2.size) (nd bf (.inr (.inr rfl)))).trans d2.2.2.2)))))
  go_wp2
  go_ret
  refine ⟨0, rfl, rfl, ?_⟩
  rw [HV.out, ← HN.out]
  exact Now.put h.files.names (fun k hk => .inr (.inr (.inr (.inr ⟨x, hx, by rw [HV.out]; exact hk⟩)))) ((Below.refl _ w).drew.trans b2) D4 t4
end Go.Proofs.Ytiegokjdnlhlcaa
