/- Layer 1's other readers, walked. Layer 6: a set's key. -/
import Derived.Test.YtfckgcckpfklaaaGreatDoorMY0
import Derived.Test.YtfckgcckpfklaaaGreatDoorMBld
namespace Go.Proofs.YtfckgcckpfklaaaGreatDoor
set_option maxRecDepth 100000
open Go.RowKit Go.Lib

namespace Leb
def takeI (l : List UInt8) : Int × List UInt8 × Nat := if (takeU l).2.2 ≠ 0 then (0, [], (takeU l).2.2) else (unfoldN (takeU l).1, (takeU l).2.1, 0)
theorem takeI_ok {l : List UInt8} {u : Nat} {r : List UInt8} (h : takeU l = (u, r, 0)) : takeI l = (unfoldN u, r, 0) := by unfold takeI; rw [h]; simp
theorem takeI_no {l : List UInt8} {u er : Nat} {r : List UInt8} (h : takeU l = (u, r, er)) (he : er ≠ 0) : takeI l = (0, [], er) := by unfold takeI; rw [h]; simp [he]
theorem takeM_no {l : List UInt8} {most : Int} {u er : Nat} {r : List UInt8} (h : takeU l = (u, r, er)) (he : er ≠ 0) : takeM l most = (0, [], er) := by unfold takeM; rw [h]; simp [he]
theorem takeM_big {l : List UInt8} {most : Int} {u : Nat} {r : List UInt8} (h : takeU l = (u, r, 0)) (he : (u : Int) > max most 0) : takeM l most = (0, [], 16) := by
  unfold takeM; rw [h, if_neg (by simp), if_pos (by simp only; omega)]
theorem takeM_ok {l : List UInt8} {most : Int} {u : Nat} {r : List UInt8} (h : takeU l = (u, r, 0)) (he : ¬ (u : Int) > max most 0) : takeM l most = (u, r, 0) := by
  unfold takeM; rw [h, if_neg (by simp), if_neg (by simp only; omega)]
theorem takeT_no {l : List UInt8} {most : Int} {u er : Nat} {r : List UInt8} (h : takeM l most = (u, r, er)) (he : er ≠ 0) : takeT l most = ([], [], er) := by unfold takeT; rw [h]; simp [he]
theorem takeT_end {l : List UInt8} {most : Int} {u : Nat} {r : List UInt8} (h : takeM l most = (u, r, 0)) (he : u > r.length) : takeT l most = ([], [], 2) := by unfold takeT; rw [h]; simp [he]
theorem takeT_ok {l : List UInt8} {most : Int} {u : Nat} {r : List UInt8} (h : takeM l most = (u, r, 0)) (he : ¬ u > r.length) : takeT l most = (r.take u, r.drop u, 0) := by unfold takeT; rw [h]; simp [he]
theorem takeU_none {l : List UInt8} {u er : Nat} {r : List UInt8} (h : takeU l = (u, r, er)) (he : er ≠ 0) : u = 0 ∧ r = [] := by
  have := dec_err l 0 0 (by show (takeU l).2.2 ≠ 0; rw [h]; exact he)
  have e1 : dec 0 0 l = (u, r, er) := h
  rw [e1] at this
  exact this
theorem takeU_small {l : List UInt8} {u er : Nat} {r : List UInt8} (h : takeU l = (u, r, er)) : er ≤ 3 ∧ u < 18446744073709551616 ∧ r.length ≤ l.length := by
  have h1 := dec_errs l 0 0
  have h2 := takeU_lt l
  have h3 := dec_left l 0 0
  have e1 : dec 0 0 l = (u, r, er) := h
  rw [h] at h2
  rw [e1] at h1 h3
  unfold two64 at h2
  simp only at h1 h2 h3
  omega
theorem takeM_small {l : List UInt8} {most : Int} {u er : Nat} {r : List UInt8} (h : takeM l most = (u, r, er)) (hm : most ≤ 9223372036854775807) : er ≤ 16 ∧ u ≤ 9223372036854775807 ∧ r.length ≤ l.length ∧ (er = 0 → (u : Int) ≤ max most 0) ∧ (er ≠ 0 → u = 0 ∧ r = []) := by
  obtain ⟨u', r', er', hT⟩ : ∃ u' r' er', takeU l = (u', r', er') := ⟨_, _, _, rfl⟩
  obtain ⟨b1, b2, b3⟩ := takeU_small hT
  by_cases he : er' = 0
  · subst he
    by_cases hb : (u' : Int) > max most 0
    · rw [takeM_big hT hb] at h; simp only [Prod.mk.injEq] at h; obtain ⟨rfl, rfl, rfl⟩ := h; simp
    · rw [takeM_ok hT hb] at h; simp only [Prod.mk.injEq] at h; obtain ⟨rfl, rfl, rfl⟩ := h; simp; omega
  · rw [takeM_no hT he] at h; simp only [Prod.mk.injEq] at h; obtain ⟨rfl, rfl, rfl⟩ := h; simp; omega
end Leb

def tupI (r : Int × List UInt8 × Nat) : Value := .tuple #[.int .i64 r.1, .string (bs r.2.1), .int .i64 r.2.2]
def tupM (r : Nat × List UInt8 × Nat) : Value := .tuple #[.int .i64 r.1, .string (bs r.2.1), .int .i64 r.2.2]
def tupT (r : List UInt8 × List UInt8 × Nat) : Value := .tuple #[.string (bs r.1), .string (bs r.2.1), .int .i64 r.2.2]

/-- The answer is a new slice of the bytes xs, n of them. -/
def Made (w : World) (xs : List UInt8) (n : Nat) (e : Ending) (w' : World) : Prop :=
  ∃ a cap, e = .returned (.slice a n cap) ∧ Sl w' w.heap.size 1 (.slice a n cap) n (cb xs) ∧ Below w.heap.size w w'

theorem made_of {w w' : World} {xs : List UInt8} {n : Nat} {e : Ending} (hn : xs.length = n) (h : Wrote w.heap.size w (.slice none 0 0) 0 [] xs e w') : Made w xs n e w' := by
  obtain ⟨v', rfl, hx⟩ := h
  have hb := hx.below (Nat.le_refl _) (Nat.le_refl _)
  have := hx.now
  rw [Nat.zero_add, List.nil_append, hn] at this
  obtain ⟨a, cap, rfl⟩ := this.slice
  exact ⟨a, cap, rfl, this, hb⟩

/-- .. of which there is one at least. -/
def MadeAt (w : World) (xs : List UInt8) (n : Nat) (e : Ending) (w' : World) : Prop :=
  ∃ g off cap, e = .returned (.slice (some ⟨g, off, none⟩) n cap) ∧ n ≤ cap ∧ cap ≤ maxLen ∧ Sl w' w.heap.size 1 (.slice (some ⟨g, off, none⟩) n cap) n (cb xs) ∧ Below w.heap.size w w'
theorem madeAt_of {w w' : World} {xs : List UInt8} {n : Nat} {e : Ending} (hn : 0 < n) (h : Made w xs n e w') : MadeAt w xs n e w' := by
  obtain ⟨a, cap, rfl, h, hb⟩ := h
  rcases h.2 with ⟨h0, h1⟩ | ⟨g', off', cap', he, hbg, hg, hnc, hcm, _⟩
  · omega
  · cases he
    exact ⟨g', off', cap, rfl, hnc, hcm, h, hb⟩

theorem uint_new (x : Int) (v : Nat) (xs : List UInt8) (n : Nat) (hx : x = v) (he : Leb.encU v = xs) (hn : xs.length = n) (w : World) (hv : v < Leb.two64) :
    Calls Tryz.prog 31 #[.slice none 0 0, .int .u64 x] w (Made w xs n) := by
  subst hx
  subst he
  exact (uint_any w.heap.size _ 0 [] v w hv (Sl.nil _ _ _) (by omega) (Nat.le_refl _)).mono fun _ _ => made_of hn
theorem text_new (s : ByteArray) (xs : List UInt8) (n : Nat) (he : Leb.encT s.data.toList = xs) (hn : xs.length = n) (w : World) (hs : s.size ≤ 140737488355000) :
    Calls Tryz.prog 32 #[.slice none 0 0, .string s] w (Made w xs n) := by
  subst he
  exact (text_any w.heap.size _ 0 [] s w (by omega) (Sl.nil _ _ _) (Nat.le_refl _)).mono fun _ _ => made_of hn

end Go.Proofs.YtfckgcckpfklaaaGreatDoor

namespace Go.Proofs.YtfckgcckpfklaaaGreatDoor
open Go.RowKit Go.Lib

def keyP (p : Pr) : List UInt8 := Leb.encT p.n ++ Leb.encT p.v
/-- A set's key. -/
def keyL (ds : List Pr) : List UInt8 := Leb.encU ds.length ++ ds.flatMap keyP
theorem key_take (ds : List Pr) (i : Nat) : (((ds.take i).flatMap keyP)).length ≤ (ds.flatMap keyP).length := by
  conv => rhs; rw [← List.take_append_drop i ds, List.flatMap_append, List.length_append]
  omega

set_option maxHeartbeats 2000000 in
set_option maxRecDepth 100000 in
theorem key_lb (v : Value) (ds : List Pr) (w : World) (h : Rd w 2 v ds.length (prc ds)) (hm : (ds.flatMap keyP).length ≤ 10000000) (hn0 : ds.length ≤ 1000000) :
    Calls Tryz.prog 12 #[v] w fun e w' => e = .returned (.string (bs (keyL ds))) ∧ Below w.heap.size w w' := by
  obtain ⟨_, a, cap, g, off, rfl, hg, hc⟩ := h
  obtain ⟨n, hn⟩ : ∃ n, n = ds.length := ⟨_, rfl⟩
  rw [← hn] at hg hc hn0 ⊢
  have HN := Lib.hid hn
  have HC := Lib.hid hc
  have HG := Lib.hid hg
  have HU := Lib.hid (fun W => uint_any W.heap.size (.slice none 0 0) 0 [] n W (by unfold Leb.two64; omega) (Sl.nil _ _ _) (by omega) (Nat.le_refl _))
  have hul := (Leb.encU_len n).2
  clear hn hc hg
  go_enter Tryz.func12, Tryz.ntmps12
  have wr0 : IntKind.u64.wrap (n : Int) = n := by simp [IntKind.wrap, IntKind.bits, IntKind.signed]; omega
  go_wp2_with fail
  refine (HU.out _).mono ?_
  rintro e w0 ⟨v0, rfl, hx0⟩
  have b0 : Below w.heap.size w w0 := hx0.below (Nat.le_refl _) (Nat.le_refl _)
  have s0 := hx0.now
  rw [Nat.zero_add, List.nil_append] at s0
  clear hx0 HU
  go_wp2_with fail
  go_loopw [3, 12] (fun b' i' wr => ∃ (i : Nat), i' = .int .i64 i ∧ i ≤ n ∧ Sl wr w.heap.size 1 b' (Leb.encU n ++ (ds.take i).flatMap keyP).length (cb (Leb.encU n ++ (ds.take i).flatMap keyP)) ∧ Below w.heap.size w wr) (fun _ i' _ => n - (intOf i').toNat)
  case atStart => exact ⟨0, rfl, by omega, by simpa using s0, b0⟩
  case round =>
    obtain ⟨i, rfl, hi, hs, hb⟩ := hrel
    clear s0 b0
    have hbz := hb.size
    by_cases hlt : i < n
    · obtain ⟨rfl, hgl⟩ := HG.out (by omega)
      obtain ⟨x, hx⟩ : ∃ x, ds[i]? = some x := ⟨ds[i]'(by have := HN.out; omega), List.getElem?_eq_getElem (by have := HN.out; omega)⟩
      obtain ⟨v0, v1⟩ := prc_at ds i x hx
      have q0 := ((hb.cell (p := ⟨g, off + i * 2, none⟩) hgl).trans (HC.out (i * 2) (by omega))).trans v0
      have q1 := ((hb.cell (p := ⟨g, off + (i * 2 + 1), none⟩) hgl).trans (HC.out (i * 2 + 1) (by omega))).trans v1
      rw [← Nat.add_assoc] at q1
      have hgw : g ≠ wr.heap.size := by omega
      have hil : (i : Int) < n := by omega
      have ht : ds.take (i + 1) = ds.take i ++ [x] := by rw [List.take_add_one, hx]; rfl
      have hle := key_take ds (i + 1)
      rw [ht, List.flatMap_append, List.length_append] at hle
      have hke : ([x].flatMap keyP).length = (Leb.encT x.n).length + (Leb.encT x.v).length := by simp [keyP]
      have hen : x.n.length ≤ (Leb.encT x.n).length := by unfold Leb.encT; rw [List.length_append]; omega
      have hev : x.v.length ≤ (Leb.encT x.v).length := by unfold Leb.encT; rw [List.length_append]; omega
      have hl0 : (Leb.encU n ++ (ds.take i).flatMap keyP).length = (Leb.encU n).length + ((ds.take i).flatMap keyP).length := List.length_append
      have HT := Lib.hid ht
      have hacc : (Leb.encU n ++ (ds.take i).flatMap keyP).length + x.n.length ≤ 140737488355000 := by omega
      have hacc2 : (Leb.encU n ++ (ds.take i).flatMap keyP).length + (Leb.encT x.n).length + x.v.length ≤ 140737488355000 := by omega
      obtain ⟨acc, hacce⟩ : ∃ acc, acc = Leb.encU n ++ (ds.take i).flatMap keyP := ⟨_, rfl⟩
      rw [← hacce] at hs hacc hacc2
      have HA := Lib.hid hacce
      obtain ⟨P, hP⟩ : ∃ P, P = wr.heap.size := ⟨_, rfl⟩
      have hpb0 := PB.new wr x
      have hsa : Sl (wr.alloc (.cells #[.string (bs x.n), .string (bs x.v)] 74)) w.heap.size 1 u3 acc.length (cb acc) := hs.alloc _
      have hba : Below w.heap.size w (wr.alloc (.cells #[.string (bs x.n), .string (bs x.v)] 74)) := hb.alloc hbz _
      have hP2 : u3.ownBlock ≠ some wr.heap.size := fun e => by have := (hs.lt _ e).2; omega
      clear v0 v1 hx hle hke hen hev hl0 hacce hP
      go_wp2_with fail
      refine (text_any w.heap.size u3 acc.length (cb acc) (bs x.n) _ (by rw [bs_size]; exact hacc) hsa (by simp; omega)).mono ?_
      rintro e w1 ⟨v1, rfl, hx1⟩
      rw [bs_list] at hx1
      have hpb1 : PB wr.heap.size x w1 := (hx1.grown.block wr.heap.size (by simp) (fun e => hP2 e.symm)).trans hpb0
      have c0 := hpb1.c0; have c1 := hpb1.c1
      have s1 := hx1.now
      have b1 : Below w.heap.size w w1 := hba.trans (hx1.below (Nat.le_refl _) (by simp; omega))
      have hz1 := b1.size
      rw [← cb_append] at s1
      rw [← List.length_append] at s1 hacc2
      go_wp2_with fail
      refine (text_any w.heap.size v1 (acc ++ Leb.encT x.n).length (cb (acc ++ Leb.encT x.n)) (bs x.v) _ (by rw [bs_size]; exact hacc2) s1 (by omega)).mono ?_
      rintro e w2 ⟨v2, rfl, hx2⟩
      rw [bs_list] at hx2
      have s2 := hx2.now
      rw [← cb_append, ← List.length_append] at s2
      have b2 : Below w.heap.size w w2 := b1.trans (hx2.below (Nat.le_refl _) (by omega))
      have HS2 := Lib.hid s2
      clear s2 hx2 s1 hx1
      go_wp2
      refine ⟨⟨i + 1, by simp, by omega, ?_, b2⟩, by simp [intOf]; omega⟩
      have he : Leb.encU n ++ (ds.take (i + 1)).flatMap keyP = acc ++ Leb.encT x.n ++ Leb.encT x.v := by rw [HT.out, HA.out]; simp [keyP]
      rw [he]
      exact HS2.out
    · have hin : ds.take i = ds := List.take_of_length_le (by have := HN.out; omega)
      rw [hin] at hs
      have he := Lib.hid (show Leb.encU n ++ ds.flatMap keyP = keyL ds by rw [keyL, ← HN.out])
      have hil : ¬ (i : Int) < n := by omega
      clear hin
      have hc1 := text_conv hs
      go_wp2
      go_ret
      exact ⟨by rw [← he.out]; rfl, hb⟩
end Go.Proofs.YtfckgcckpfklaaaGreatDoor
