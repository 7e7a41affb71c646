/- One file that calls on others leave. -/
import Derived.Test.YtfjihookoilnnaaE6
namespace Go.Proofs.Ytfjihookoilnnaa
open Go.Conc Go.RowKit
open Go.Proofs (encStr)

/-- A disk of whose files one is followed: all its bytes are there for sure. -/
def Mn (base d f c m : Nat) (k : ByteArray) (D : List UInt8) (nf : Nat) (w : World) : Prop :=
  ∃ fs A clock x, DiskAt base d f c m 100000 fs A clock w ∧ lookF k fs = some x ∧ x.data = D ∧ x.data.length - x.sure = 0 ∧ fs.length ≤ nf
theorem Mn.below {base d f c m : Nat} {k : ByteArray} {D : List UInt8} {nf : Nat} {w w' : World} (h : Mn base d f c m k D nf w) (b : Below w.heap.size w w') : Mn base d f c m k D nf w' := by
  obtain ⟨fs, A, clock, x, h, r⟩ := h
  exact ⟨fs, A, clock, x, h.below b, r⟩
theorem Mn.more {base d f c m : Nat} {k : ByteArray} {D : List UInt8} {nf nf' : Nat} {w : World} (h : Mn base d f c m k D nf w) (h1 : nf ≤ nf') : Mn base d f c m k D nf' w := by
  obtain ⟨fs, A, clock, x, h, a, b, e, g⟩ := h
  exact ⟨fs, A, clock, x, h, a, b, e, by omega⟩
theorem Mn.c0 {base d f c m : Nat} {k : ByteArray} {D : List UInt8} {nf : Nat} {w : World} (h : Mn base d f c m k D nf w) : w.cell? ⟨d, 0, none⟩ = some (.pointer (some ⟨f, 0, none⟩)) := by
  obtain ⟨fs, A, clock, x, h, _⟩ := h
  exact h.c0

theorem mn_append (B base d f c m : Nat) (k : ByteArray) (D : List UInt8) (nf : Nat) (name s : ByteArray) (w : World) (h : Mn base d f c m k D nf w) (hB : Home B base d f c m) (hk : k ≠ name) :
    Calls Try.prog 37 #[.pointer (some ⟨d, 0, none⟩), .string name, .string s] w fun e w' => ∃ er, e = .returned (.int .i64 er) ∧ Mn base d f c m k D (nf + 1) w' ∧ Below B w w' := by
  obtain ⟨fs, A, clock, x, h, hx, hd, hz, hn⟩ := h
  by_cases h1 : 0 < name.size ∧ name.size ≤ 40
  · by_cases h2 : (100000 : Int) - usedF fs < s.size
    · refine (append_full base d f c m 100000 fs A clock name s w h h1 h2).mono ?_
      rintro e w' ⟨rfl, n⟩
      refine ⟨_, rfl, ?_, n.below h hB⟩
      obtain ⟨⟨ck, D'⟩, _⟩ := n
      exact ⟨fs, A, ck, x, D', hx, hd, hz, by omega⟩
    · refine (append_go base d f c m 100000 fs A clock name s w h h1 h2 (by omega)).mono ?_
      rintro e w' ⟨rfl, v, n⟩
      refine ⟨_, rfl, ?_, n.below h hB⟩
      obtain ⟨⟨ck, D'⟩, _⟩ := n
      refine ⟨_, _, ck, x, D', ?_, hd, hz, ?_⟩
      · split
        · rw [look_set_other _ _ _ _ _ _ hk]; exact hx
        · exact hx
      · split
        · have := set_len name v (dataF name fs ++ s.data.toList) (sureF name fs) clock fs
          omega
        · omega
  · refine (append_bad base d f c m 100000 fs A clock name s w h h1).mono ?_
    rintro e w' ⟨rfl, n⟩
    refine ⟨_, rfl, ?_, n.below h hB⟩
    obtain ⟨⟨ck, D'⟩, _⟩ := n
    exact ⟨fs, A, ck, x, D', hx, hd, hz, by omega⟩

theorem mn_sync (B base d f c m : Nat) (k : ByteArray) (D : List UInt8) (nf : Nat) (name : ByteArray) (w : World) (h : Mn base d f c m k D nf w) (hB : Home B base d f c m) (hk : k ≠ name) :
    Calls Try.prog 38 #[.pointer (some ⟨d, 0, none⟩), .string name] w fun e w' => ∃ er, e = .returned (.int .i64 er) ∧ Mn base d f c m k D (nf + 1) w' ∧ Below B w w' := by
  obtain ⟨fs, A, clock, x, h, hx, hd, hz, hn⟩ := h
  cases hl : lookF name fs with
  | none =>
    refine (sync_none base d f c m 100000 fs A clock name w h hl).mono ?_
    rintro e w' ⟨rfl, n⟩
    refine ⟨_, rfl, ?_, n.below h hB⟩
    obtain ⟨⟨ck, D'⟩, _⟩ := n
    exact ⟨fs, A, ck, x, D', hx, hd, hz, by omega⟩
  | some y =>
    refine (sync_go base d f c m 100000 fs A clock name w h y hl).mono ?_
    rintro e w' ⟨rfl, n⟩
    refine ⟨_, rfl, ?_, n.below h hB⟩
    obtain ⟨⟨ck, D'⟩, _⟩ := n
    refine ⟨_, _, ck, x, D', ?_, hd, hz, ?_⟩
    · split
      · rw [look_set_other _ _ _ _ _ _ hk]; exact hx
      · exact hx
    · split
      · have := set_len name y.v y.data y.data.length clock fs
        omega
      · omega

theorem mn_remove (B base d f c m : Nat) (k : ByteArray) (D : List UInt8) (nf : Nat) (name : ByteArray) (w : World) (h : Mn base d f c m k D nf w) (hB : Home B base d f c m) (hk : k ≠ name) :
    Calls Try.prog 40 #[.pointer (some ⟨d, 0, none⟩), .string name] w fun e w' => ∃ er, e = .returned (.int .i64 er) ∧ Mn base d f c m k D nf w' ∧ Below B w w' := by
  obtain ⟨fs, A, clock, x, h, hx, hd, hz, hn⟩ := h
  cases hl : lookF name fs with
  | none =>
    refine (remove_none base d f c m 100000 fs A clock name w h hl).mono ?_
    rintro e w' ⟨rfl, n⟩
    refine ⟨_, rfl, ?_, n.below h hB⟩
    obtain ⟨⟨ck, D'⟩, _⟩ := n
    exact ⟨fs, A, ck, x, D', hx, hd, hz, by omega⟩
  | some y =>
    refine (remove_go base d f c m 100000 fs A clock name w h y hl).mono ?_
    rintro e w' ⟨rfl, n⟩
    refine ⟨_, rfl, ?_, n.below h hB⟩
    obtain ⟨⟨ck, D'⟩, _⟩ := n
    refine ⟨_, _, ck, x, D', ?_, hd, hz, ?_⟩
    · split
      · rw [look_del_other _ _ hk]; exact hx
      · exact hx
    · split
      · have := (del_sub name fs).length_le
        omega
      · omega

theorem mn_rename (B base d f c m : Nat) (k : ByteArray) (D : List UInt8) (nf : Nat) (name nw : ByteArray) (w : World) (h : Mn base d f c m k D nf w) (hB : Home B base d f c m) (hk : k ≠ name) (hk2 : k ≠ nw) :
    Calls Try.prog 39 #[.pointer (some ⟨d, 0, none⟩), .string name, .string nw] w fun e w' => ∃ er, e = .returned (.int .i64 er) ∧ Mn base d f c m k D (nf + 1) w' ∧ Below B w w' := by
  obtain ⟨fs, A, clock, x, h, hx, hd, hz, hn⟩ := h
  cases hl : lookF name fs with
  | none =>
    refine (rename_none base d f c m 100000 fs A clock name nw w h hl).mono ?_
    rintro e w' ⟨rfl, n⟩
    refine ⟨_, rfl, ?_, n.below h hB⟩
    obtain ⟨⟨ck, D'⟩, _⟩ := n
    exact ⟨fs, A, ck, x, D', hx, hd, hz, by omega⟩
  | some y =>
    by_cases h1 : 0 < nw.size ∧ nw.size ≤ 40
    · refine (rename_go base d f c m 100000 fs A clock name nw w h y hl h1).mono ?_
      rintro e w' ⟨rfl, b, n⟩
      refine ⟨_, rfl, ?_, n.below h hB⟩
      obtain ⟨⟨ck, D'⟩, _⟩ := n
      have hyn := (look_mem name fs y hl).2
      rw [hyn] at D'
      refine ⟨_, _, ck, x, D', ?_, hd, hz, ?_⟩
      · split
        · rw [look_set_other _ _ _ _ _ _ hk2, look_del_other _ _ hk]; exact hx
        · exact hx
      · split
        · have := set_len nw y.v y.data y.sure b (delF name fs)
          have := (del_sub name fs).length_le
          omega
        · omega
    · refine (rename_bad base d f c m 100000 fs A clock name nw w h y hl h1).mono ?_
      rintro e w' ⟨rfl, n⟩
      refine ⟨_, rfl, ?_, n.below h hB⟩
      obtain ⟨⟨ck, D'⟩, _⟩ := n
      exact ⟨fs, A, ck, x, D', hx, hd, hz, by omega⟩

theorem mn_arm (B base d f c m : Nat) (k : ByteArray) (D : List UInt8) (nf : Nat) (a : Int) (dn : Bool) (w : World) (h : Mn base d f c m k D nf w) (hB : Home B base d f c m) (ha : Ft.Fits (a, dn)) :
    Calls Try.prog 21 #[.pointer (some ⟨f, 0, none⟩), .int .i64 a, .bool dn] w fun e w' => ∃ er, e = .returned (.int .i64 er) ∧ Mn base d f c m k D nf w' ∧ Below B w w' := by
  obtain ⟨fs, A, clock, x, h, r⟩ := h
  refine (arm_any f c A a dn w h.fuse ha).mono ?_
  rintro e w' (⟨rfl, hA, t⟩ | ⟨rfl, rfl⟩)
  · have n : Now base d f c m 100000 _ _ _ w w' := Now.tried h (Below.refl _ w) t hA
    exact ⟨_, rfl, ⟨fs, _, clock, x, h.tried t hA, r⟩, n.below h hB⟩
  · exact ⟨_, rfl, ⟨fs, A, clock, x, h, r⟩, Below.refl _ _⟩
theorem mn_crash (B base d f c m : Nat) (k : ByteArray) (D : List UInt8) (nf : Nat) (v : Value) (cs : List Int) (gc : Option Nat) (w0 w : World) (h : Mn base d f c m k D nf w0) (b0 : Below w0.heap.size w0 w) (hB : Home B base d f c m) (hf : nf ≤ 1000)
    (hi : IntsIn w v cs) (hr : Reach cs) (hg : 0 < cs.length → ∀ k, v.ownBlock = some k → gc = some k) (hgc : ∀ k, gc = some k → k < w.heap.size ∧ (k < B ∨ w0.heap.size ≤ k)) :
    Calls Try.prog 41 #[.pointer (some ⟨d, 0, none⟩), v] w fun e w' => e = .returned (.tuple #[]) ∧ Mn base d f c m k D nf w' ∧ Below B w w' := by
  obtain ⟨fs, A, clock, x, h, hx, hd, hz, hn⟩ := h
  have h' := h.below b0
  refine (crash_any base d f c m 100000 _ A clock v cs gc w h' (by omega) hi hr hg fun k hk => ⟨(hgc k hk).1, fun hm => ?_⟩).mono ?_
  · have h1 := Mine.lt h k hm
    rcases (hgc k hk).2 with h2 | h2
    · have h3 := hB.b; have h4 := hB.d; have h5 := hB.f; have h6 := hB.c; have h7 := hB.m
      rcases hm with e | e | e | e | ⟨x, hx, hxk⟩
      · omega
      · omega
      · omega
      · omega
      · have := ((h.files.sl x hx).lt k hxk).1
        omega
    · omega
  · rintro e w' ⟨rfl, n⟩
    refine ⟨rfl, ?_, n.below h' hB⟩
    obtain ⟨⟨ck, D'⟩, _⟩ := n
    refine ⟨_, _, ck, x, D', crash_keeps k x hz _ _ fs hx, hd, hz, ?_⟩
    have := congrArg List.length (crash_len (sortedF fs) cs fs)
    simp only [List.length_map] at this
    omega
theorem mn_read (base d f c m : Nat) (k : ByteArray) (D : List UInt8) (nf : Nat) (w : World) (h : Mn base d f c m k D nf w) :
    Calls Try.prog 29 #[.pointer (some ⟨d, 0, none⟩), .string k] w fun e w' => e = .returned (.tuple #[.string ⟨D.toArray⟩, .int .i64 0]) ∧ Below w.heap.size w w' := by
  obtain ⟨fs, A, clock, x, h, hx, rfl, _⟩ := h
  exact read_go base d f c m 100000 fs A clock k w h x hx
end Go.Proofs.Ytfjihookoilnnaa
