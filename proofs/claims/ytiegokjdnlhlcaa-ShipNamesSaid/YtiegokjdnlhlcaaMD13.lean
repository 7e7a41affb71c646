/- Layer 4: disks with one file, step by step. -/
import Derived.Test.YtiegokjdnlhlcaaMD12
namespace Go.Proofs.Ytiegokjdnlhlcaa
open Go.Conc Go.RowKit
open Go.Proofs (encStr)

/-- All that a disk has lies from block B on. -/
structure Home (B base d f c m : Nat) : Prop where
  b : B ≤ base
  d : B ≤ d
  f : B ≤ f
  c : B ≤ c
  m : B ≤ m
theorem Now.below {B base d f c m : Nat} {room : Int} {fs fs' : List Fl} {A A' : List Ft} {clock : Nat} {w w' : World} (h : DiskAt base d f c m room fs A clock w) (hB : Home B base d f c m) (n : Now base d f c m room fs fs' A' w w') : Below B w w' := by
  have h0 := hB.b; have h1 := hB.d; have h2 := hB.f; have h3 := hB.c; have h4 := hB.m
  refine n.2.1.below (Nat.le_trans hB.b h.hb) fun k hk => ?_
  rcases hk with e | e | e | e | ⟨x, hx, hxk⟩
  · omega
  · omega
  · omega
  · omega
  · have := ((h.files.sl x hx).lt k hxk).1
    omega

theorem new_home (room : Int) (w : World) (h1 : room ≤ 9223372036854775807) (h0 : -9223372036854775808 ≤ room) : Calls Try.prog 4 #[.int .i64 room] w fun e w' =>
    ∃ base d f c m, e = .returned (.pointer (some ⟨d, 0, none⟩)) ∧ DiskAt base d f c m (max room 0) [] [] 0 w' ∧ Home w.heap.size base d f c m ∧ Below w.heap.size w w' := by
  refine (new_any room w h1 h0).mono ?_
  rintro e w' ⟨rfl, D, b⟩
  exact ⟨_, _, _, _, _, rfl, D, ⟨by omega, by omega, by omega, by omega, by omega⟩, b⟩

/-- A disk with one file. -/
def One (base d f c m : Nat) (room : Int) (name : ByteArray) (data : List UInt8) (sure : Nat) (A : List Ft) (w : World) : Prop :=
  ∃ v b clock, DiskAt base d f c m room [⟨name, v, data, sure, b⟩] A clock w
theorem One.below {base d f c m : Nat} {room : Int} {name : ByteArray} {data : List UInt8} {sure : Nat} {A : List Ft} {w w' : World} (h : One base d f c m room name data sure A w) (b : Below w.heap.size w w') : One base d f c m room name data sure A w' := by
  obtain ⟨v, bo, clock, h⟩ := h
  exact ⟨v, bo, clock, h.below b⟩
theorem One.sure {base d f c m : Nat} {room : Int} {name : ByteArray} {data : List UInt8} {sure : Nat} {A : List Ft} {w : World} (h : One base d f c m room name data sure A w) : sure ≤ data.length := by
  obtain ⟨v, bo, clock, h⟩ := h
  exact h.files.sure _ List.mem_cons_self
theorem One.c0 {base d f c m : Nat} {room : Int} {name : ByteArray} {data : List UInt8} {sure : Nat} {A : List Ft} {w : World} (h : One base d f c m room name data sure A w) : w.cell? ⟨d, 0, none⟩ = some (.pointer (some ⟨f, 0, none⟩)) := by
  obtain ⟨v, bo, clock, h⟩ := h
  exact h.c0

theorem one_append0 (B base d f c m : Nat) (room : Int) (clock : Nat) (name s : ByteArray) (w : World) (h : DiskAt base d f c m room [] [] clock w) (hB : Home B base d f c m) (hn : 0 < name.size ∧ name.size ≤ 40) (hs : (s.size : Int) ≤ room) (hu : s.size ≤ 1000000) :
    Calls Try.prog 39 #[.pointer (some ⟨d, 0, none⟩), .string name, .string s] w fun e w' => e = .returned (.int .i64 0) ∧ One base d f c m room name s.data.toList 0 [] w' ∧ Below B w w' := by
  refine (append_go base d f c m room [] [] clock name s w h hn (by simp [usedF]; omega) (by simp [usedF]; omega)).mono ?_
  rintro e w' ⟨rfl, v, n⟩
  refine ⟨rfl, ?_, n.below h hB⟩
  obtain ⟨⟨ck, D⟩, _⟩ := n
  exact ⟨v, clock, ck, D⟩
theorem one_append (B base d f c m : Nat) (room : Int) (name s : ByteArray) (data : List UInt8) (sure : Nat) (A : List Ft) (w : World) (h : One base d f c m room name data sure A w) (hB : Home B base d f c m) (hn : 0 < name.size ∧ name.size ≤ 40) (hs : (data.length : Int) + s.size ≤ room) (hu : data.length + s.size ≤ 1000000) (hd : (tryL A).1.2 = true) :
    Calls Try.prog 39 #[.pointer (some ⟨d, 0, none⟩), .string name, .string s] w fun e w' => e = .returned (.int .i64 (if (tryL A).1.1 then 0 else 8)) ∧ One base d f c m room name (data ++ s.data.toList) sure (tryL A).2 w' ∧ Below B w w' := by
  obtain ⟨v, b, clock, h⟩ := h
  refine (append_go base d f c m room _ A clock name s w h hn (by simp [usedF]; omega) (by simp [usedF]; omega)).mono ?_
  rintro e w' ⟨rfl, v, n⟩
  refine ⟨rfl, ?_, n.below h hB⟩
  obtain ⟨⟨ck, D⟩, _⟩ := n
  rw [if_pos hd] at D
  refine ⟨v, b, ck, ?_⟩
  simpa [setF, dataF, sureF, lookF] using D
theorem one_sync (B base d f c m : Nat) (room : Int) (name : ByteArray) (data : List UInt8) (sure : Nat) (w : World) (h : One base d f c m room name data sure [] w) (hB : Home B base d f c m) :
    Calls Try.prog 40 #[.pointer (some ⟨d, 0, none⟩), .string name] w fun e w' => e = .returned (.int .i64 0) ∧ One base d f c m room name data data.length [] w' ∧ Below B w w' := by
  obtain ⟨v, b, clock, h⟩ := h
  refine (sync_go base d f c m room _ [] clock name w h ⟨name, v, data, sure, b⟩ (by simp [lookF])).mono ?_
  rintro e w' ⟨rfl, n⟩
  refine ⟨rfl, ?_, n.below h hB⟩
  obtain ⟨⟨ck, D⟩, _⟩ := n
  refine ⟨v, b, ck, ?_⟩
  simpa [setF, tryL] using D
/-- So many bytes are left of one file. -/
def left1 (len sure : Nat) (c : Int) : Nat := sure + (c % ((len - sure : Nat) + 1 : Int)).toNat
theorem left1_le (len sure : Nat) (c : Int) (h : sure ≤ len) : left1 len sure c ≤ len ∧ sure ≤ left1 len sure c := by
  unfold left1
  have h1 : 0 ≤ c % ((len - sure : Nat) + 1 : Int) := Int.emod_nonneg _ (by omega)
  have h2 : c % ((len - sure : Nat) + 1 : Int) < ((len - sure : Nat) + 1 : Int) := Int.emod_lt_of_pos _ (by omega)
  omega
theorem crash_one (x : Fl) (cs : List Int) (hs : x.sure ≤ x.data.length) : ∃ v, crashL (sortedF [x]) cs [x] = [⟨x.name, v, x.data.take (left1 x.data.length x.sure (cs.headD 0)), left1 x.data.length x.sure (cs.headD 0), x.born⟩] := by
  have h1 : sortedF [x] = [nm x] := by
    have hf : namesF ⟨#[]⟩ [x] = [nm x] := by simp [namesF, pre]
    unfold sortedF
    rw [hf]
    exact List.mergeSort_singleton _
  have hl : lookF ⟨(nm x).toArray⟩ [x] = some x := by simp [lookF]
  rw [h1]
  by_cases hz : x.data.length - x.sure = 0
  · rw [crashL_same _ _ _ _ x hl hz]
    have hk := left1_le x.data.length x.sure (cs.headD 0) hs
    have he : left1 x.data.length x.sure (cs.headD 0) = x.sure := by omega
    rw [he]
    refine ⟨x.v, ?_⟩
    rw [List.take_of_length_le (by omega)]
    rfl
  · rw [crashL_cut _ _ _ _ x hl hz]
    refine ⟨cutDV x.v (leftN x (cs.headD 0)), ?_⟩
    unfold crashL
    simp only [setF, if_true]
    rfl
theorem one_crash (B base d f c m : Nat) (room : Int) (name : ByteArray) (data : List UInt8) (sure : Nat) (A : List Ft) (v : Value) (cs : List Int) (gc : Option Nat) (w0 w : World) (h : One base d f c m room name data sure A w0) (b0 : Below w0.heap.size w0 w) (hB : Home B base d f c m)
    (hi : IntsIn w v cs) (hr : Reach cs) (hg : 0 < cs.length → ∀ k, v.ownBlock = some k → gc = some k) (hgc : ∀ k, gc = some k → k < w.heap.size ∧ (k < B ∨ w0.heap.size ≤ k)) :
    Calls Try.prog 8 #[.pointer (some ⟨d, 0, none⟩), v] w fun e w' => e = .returned (.tuple #[]) ∧
      One base d f c m room name (data.take (left1 data.length sure (cs.headD 0))) (left1 data.length sure (cs.headD 0)) [] w' ∧ Below B w w' := by
  obtain ⟨vf, b, clock, h⟩ := h
  have h' := h.below b0
  refine (crash_any base d f c m room _ A clock v cs gc w h' (by simp) hi hr hg fun k hk => ⟨(hgc k hk).1, fun hm => ?_⟩).mono ?_
  · have h1 := Mine.lt h k hm
    rcases (hgc k hk).2 with h2 | h2
    · have h3 := hB.b; have h4 := hB.d; have h5 := hB.f; have h6 := hB.c; have h7 := hB.m
      rcases hm with e | e | e | e | ⟨x, hx, hxk⟩
      · omega
      · omega
      · omega
      · omega
      · have := ((h.files.sl x hx).lt k hxk).1
        omega
    · omega
  · rintro e w' ⟨rfl, n⟩
    refine ⟨rfl, ?_, n.below h' hB⟩
    obtain ⟨⟨ck, D⟩, _⟩ := n
    obtain ⟨v', he⟩ := crash_one ⟨name, vf, data, sure, b⟩ cs (h.files.sure _ List.mem_cons_self)
    rw [he] at D
    exact ⟨v', b, ck, D⟩
theorem arm_empty (f c : Nat) (a : Int) (dn : Bool) (w : World) (h : Holds f c [] w) (ha : Ft.Fits (a, dn)) :
    Calls Try.prog 6 #[.pointer (some ⟨f, 0, none⟩), .int .i64 a, .bool dn] w fun e w' => e = .returned (.int .i64 0) ∧ Holds f c [(max a 0, dn)] w' ∧ Turn (Own f c) w w' := by
  obtain ⟨L, armed, now, hF, hv⟩ := h
  have h1 : armed = false ∧ L = [] := by
    unfold view at hv
    cases armed
    · simpa using hv
    · simp at hv
  obtain ⟨rfl, rfl⟩ := h1
  refine (arm_room f c [] false now a dn w hF (by decide)).mono ?_
  rintro e w' ⟨rfl, hc, t⟩
  exact ⟨rfl, ⟨_, false, now, hF.turn t hc (by simp) (by simpa using ha), rfl⟩, t.mono fun k hk => .inr hk⟩
theorem one_arm (B base d f c m : Nat) (room : Int) (name : ByteArray) (data : List UInt8) (sure : Nat) (a : Int) (dn : Bool) (w : World) (h : One base d f c m room name data sure [] w) (hB : Home B base d f c m) (ha : Ft.Fits (a, dn)) :
    Calls Try.prog 6 #[.pointer (some ⟨f, 0, none⟩), .int .i64 a, .bool dn] w fun e w' => e = .returned (.int .i64 0) ∧ One base d f c m room name data sure [(max a 0, dn)] w' ∧ Below B w w' := by
  obtain ⟨v, b, clock, h⟩ := h
  refine (arm_empty f c a dn w h.fuse ha).mono ?_
  rintro e w' ⟨rfl, hA, t⟩
  have n : Now base d f c m room _ _ _ w w' := Now.tried h (Below.refl _ w) t hA
  exact ⟨rfl, ⟨v, b, clock, h.tried t hA⟩, n.below h hB⟩
theorem one_read (base d f c m : Nat) (room : Int) (name : ByteArray) (data : List UInt8) (sure : Nat) (A : List Ft) (w : World) (h : One base d f c m room name data sure A w) :
    Calls Try.prog 21 #[.pointer (some ⟨d, 0, none⟩), .string name] w fun e w' => e = .returned (.tuple #[.string ⟨data.toArray⟩, .int .i64 0]) ∧ Below w.heap.size w w' := by
  obtain ⟨v, b, clock, h⟩ := h
  exact read_go base d f c m room _ A clock name w h ⟨name, v, data, sure, b⟩ (by simp [lookF])
end Go.Proofs.Ytiegokjdnlhlcaa
