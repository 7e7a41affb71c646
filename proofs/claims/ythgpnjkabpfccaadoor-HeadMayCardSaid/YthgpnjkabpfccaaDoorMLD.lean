/- Layer 6: a set's key. -/
import Derived.Test.YthgpnjkabpfccaaDoorMLB
import Derived.Test.YthgpnjkabpfccaaDoorMY2
namespace Go.Proofs.YthgpnjkabpfccaaDoor
open Go.RowKit Go.Lib

def keyP (p : Pr) : List UInt8 := Leb.encT p.n ++ Leb.encT p.v
/-- A set's key. -/
def keyL (ds : List Pr) : List UInt8 := Leb.encU ds.length ++ ds.flatMap keyP
theorem key_take (ds : List Pr) (i : Nat) : (((ds.take i).flatMap keyP)).length ≤ (ds.flatMap keyP).length := by
  conv => rhs; rw [← List.take_append_drop i ds, List.flatMap_append, List.length_append]
  omega

set_option maxHeartbeats 2000000 in
set_option maxRecDepth 100000 in
theorem key_lb (v : Value) (ds : List Pr) (w : World) (h : Rd w 2 v ds.length (prc ds)) (hm : (ds.flatMap keyP).length ≤ 10000000) (hn0 : ds.length ≤ 1000000) :
    Calls Tryd.prog 26 #[v] w fun e w' => e = .returned (.string (bs (keyL ds))) ∧ Below w.heap.size w w' := by
  obtain ⟨_, a, cap, g, off, rfl, hg, hc⟩ := h
  obtain ⟨n, hn⟩ : ∃ n, n = ds.length := ⟨_, rfl⟩
  rw [← hn] at hg hc hn0 ⊢
  have HN := Lib.hid hn
  have HC := Lib.hid hc
  have HG := Lib.hid hg
  have HU := Lib.hid (fun W => uint_any W.heap.size (.slice none 0 0) 0 [] n W (by unfold Leb.two64; omega) (Sl.nil _ _ _) (by omega) (Nat.le_refl _))
  have hul := (Leb.encU_len n).2
  clear hn hc hg
  go_enter Tryd.func26, Tryd.ntmps26
  have wr0 : IntKind.u64.wrap (n : Int) = n := by simp [IntKind.wrap, IntKind.bits, IntKind.signed]; omega
  go_wp2_with fail
  refine (HU.out _).mono ?_
  rintro e w0 ⟨v0, rfl, hx0⟩
  have b0 : Below w.heap.size w w0 := hx0.below (Nat.le_refl _) (Nat.le_refl _)
  have s0 := hx0.now
  rw [Nat.zero_add, List.nil_append] at s0
  clear hx0 HU
  go_wp2_with fail
  go_loopw [3, 12] (fun b' i' wr => ∃ (i : Nat), i' = .int .i64 i ∧ i ≤ n ∧ Sl wr w.heap.size 1 b' (Leb.encU n ++ (ds.take i).flatMap keyP).length (cb (Leb.encU n ++ (ds.take i).flatMap keyP)) ∧ Below w.heap.size w wr) (fun _ i' _ => n - (intOf i').toNat)
  case atStart => exact ⟨0, rfl, by omega, by simpa using s0, b0⟩
  case round =>
    obtain ⟨i, rfl, hi, hs, hb⟩ := hrel
    clear s0 b0
    have hbz := hb.size
    by_cases hlt : i < n
    · obtain ⟨rfl, hgl⟩ := HG.out (by omega)
      obtain ⟨x, hx⟩ : ∃ x, ds[i]? = some x := ⟨ds[i]'(by have := HN.out; omega), List.getElem?_eq_getElem (by have := HN.out; omega)⟩
      obtain ⟨v0, v1⟩ := prc_at ds i x hx
      have q0 := ((hb.cell (p := ⟨g, off + i * 2, none⟩) hgl).trans (HC.out (i * 2) (by omega))).trans v0
      have q1 := ((hb.cell (p := ⟨g, off + (i * 2 + 1), none⟩) hgl).trans (HC.out (i * 2 + 1) (by omega))).trans v1
      rw [← Nat.add_assoc] at q1
      have hgw : g ≠ wr.heap.size := by omega
      have hil : (i : Int) < n := by omega
      have ht : ds.take (i + 1) = ds.take i ++ [x] := by rw [List.take_add_one, hx]; rfl
      have hle := key_take ds (i + 1)
      rw [ht, List.flatMap_append, List.length_append] at hle
      have hke : ([x].flatMap keyP).length = (Leb.encT x.n).length + (Leb.encT x.v).length := by simp [keyP]
      have hen : x.n.length ≤ (Leb.encT x.n).length := by unfold Leb.encT; rw [List.length_append]; omega
      have hev : x.v.length ≤ (Leb.encT x.v).length := by unfold Leb.encT; rw [List.length_append]; omega
      have hl0 : (Leb.encU n ++ (ds.take i).flatMap keyP).length = (Leb.encU n).length + ((ds.take i).flatMap keyP).length := List.length_append
      have HT := Lib.hid ht
      have hacc : (Leb.encU n ++ (ds.take i).flatMap keyP).length + x.n.length ≤ 140737488355000 := by omega
      have hacc2 : (Leb.encU n ++ (ds.take i).flatMap keyP).length + (Leb.encT x.n).length + x.v.length ≤ 140737488355000 := by omega
      obtain ⟨acc, hacce⟩ : ∃ acc, acc = Leb.encU n ++ (ds.take i).flatMap keyP := ⟨_, rfl⟩
      rw [← hacce] at hs hacc hacc2
      have HA := Lib.hid hacce
      obtain ⟨P, hP⟩ : ∃ P, P = wr.heap.size := ⟨_, rfl⟩
      have hpb0 := PB.new wr x
      have hsa : Sl (wr.alloc (.cells #[.string (bs x.n), .string (bs x.v)] 65)) w.heap.size 1 u3 acc.length (cb acc) := hs.alloc _
      have hba : Below w.heap.size w (wr.alloc (.cells #[.string (bs x.n), .string (bs x.v)] 65)) := hb.alloc hbz _
      have hP2 : u3.ownBlock ≠ some wr.heap.size := fun e => by have := (hs.lt _ e).2; omega
      clear v0 v1 hx hle hke hen hev hl0 hacce hP
      go_wp2_with fail
      refine (text_any w.heap.size u3 acc.length (cb acc) (bs x.n) _ (by rw [bs_size]; exact hacc) hsa (by simp; omega)).mono ?_
      rintro e w1 ⟨v1, rfl, hx1⟩
      rw [bs_list] at hx1
      have hpb1 : PB wr.heap.size x w1 := (hx1.grown.block wr.heap.size (by simp) (fun e => hP2 e.symm)).trans hpb0
      have c0 := hpb1.c0; have c1 := hpb1.c1
      have s1 := hx1.now
      have b1 : Below w.heap.size w w1 := hba.trans (hx1.below (Nat.le_refl _) (by simp; omega))
      have hz1 := b1.size
      rw [← cb_append] at s1
      rw [← List.length_append] at s1 hacc2
      go_wp2_with fail
      refine (text_any w.heap.size v1 (acc ++ Leb.encT x.n).length (cb (acc ++ Leb.encT x.n)) (bs x.v) _ (by rw [bs_size]; exact hacc2) s1 (by omega)).mono ?_
      rintro e w2 ⟨v2, rfl, hx2⟩
      rw [bs_list] at hx2
      have s2 := hx2.now
      rw [← cb_append, ← List.length_append] at s2
      have b2 : Below w.heap.size w w2 := b1.trans (hx2.below (Nat.le_refl _) (by omega))
      have HS2 := Lib.hid s2
      clear s2 hx2 s1 hx1
      go_wp2
      refine ⟨⟨i + 1, by simp, by omega, ?_, b2⟩, by simp [intOf]; omega⟩
      have he : Leb.encU n ++ (ds.take (i + 1)).flatMap keyP = acc ++ Leb.encT x.n ++ Leb.encT x.v := by rw [HT.out, HA.out]; simp [keyP]
      rw [he]
      exact HS2.out
    · have hin : ds.take i = ds := List.take_of_length_le (by have := HN.out; omega)
      rw [hin] at hs
      have he := Lib.hid (show Leb.encU n ++ ds.flatMap keyP = keyL ds by rw [keyL, ← HN.out])
      have hil : ¬ (i : Int) < n := by omega
      clear hin
      have hc1 := text_conv hs
      go_wp2
      go_ret
      exact ⟨by rw [← he.out]; rfl, hb⟩
end Go.Proofs.YthgpnjkabpfccaaDoor
