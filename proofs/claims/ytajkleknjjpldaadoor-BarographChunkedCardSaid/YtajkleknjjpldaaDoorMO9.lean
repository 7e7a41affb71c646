/- Layer 7's chunk as bytes. -/
import Derived.Test.YtajkleknjjpldaaDoorMO8
import Derived.Test.YtajkleknjjpldaaDoorMY2
namespace Go.Proofs.YtajkleknjjpldaaDoor
open Go.RowKit Go.Lib

theorem RowV.grownX {B r : Nat} {v : Value} {l : List Bool} {w w' : World} {row : Option Nat} (h : RowV B r v l w) (g : w.grownBy w' row) (hr : row ≠ some r) (hv : ∀ k, v.ownBlock = some k → row ≠ some k) : RowV B r v l w' := by
  have hlt : r < w.heap.size := Nat.lt_of_lt_of_le h.lt h.hB
  have hb := g.block r hlt (Ne.symm hr)
  exact ⟨h.lt, Nat.le_trans h.hB g.size, h.bytes.same g.size fun k hk => g.block k (h.bytes.lt k hk).2 (Ne.symm (hv k hk)),
    (World.cell?_of_block (a := ⟨r, 0, none⟩) hb).trans h.c0, (World.cell?_of_block (a := ⟨r, 1, none⟩) hb).trans h.len, (World.frozen?_of_block (a := ⟨r, 0, none⟩) hb).trans h.f0, (World.frozen?_of_block (a := ⟨r, 1, none⟩) hb).trans h.f1⟩

theorem trail_new (C : Nat) (w : World) (tr tt : TypeId) (hT : Tabs C w) :
    Pt C (w.heap.size + 2) w.heap.size (w.heap.size + 1) (.slice none 0 0) [] Xo.tr0 ((w.alloc (.cells #[.slice none 0 0, .int .i64 0] tr)).alloc (.cells #[.int .i64 0, .int .u64 0, .int .i64 0, .int .i64 0, .int .i64 0] tt)) := by
  obtain ⟨W, hW⟩ : ∃ W, W = (w.alloc (.cells #[.slice none 0 0, .int .i64 0] tr)).alloc (.cells #[.int .i64 0, .int .u64 0, .int .i64 0, .int .i64 0, .int .i64 0] tt) := ⟨_, rfl⟩
  have h0 : W.heap[w.heap.size]? = some (.cells #[.slice none 0 0, .int .i64 0] tr) := by rw [hW]; exact heap_alloc2_old _ _ _
  have h1 : W.heap[w.heap.size + 1]? = some (.cells #[.int .i64 0, .int .u64 0, .int .i64 0, .int .i64 0, .int .i64 0] tt) := by rw [hW]; exact heap_alloc2_new _ _ _
  have hz : W.heap.size = w.heap.size + 2 := by rw [hW]; simp
  have hC := hT.hB
  rw [← hW]
  refine ⟨⟨by omega, by omega, Sl.nil _ _ _, ?_, ?_, ?_, ?_⟩, ?_, by omega, by omega, by omega, by omega, fun j hj => ?_, fun j hj => ?_⟩
  · rw [cell_of_row _ _ 0 _ _ _ h0]; rfl
  · rw [cell_of_row _ _ 1 _ _ _ h0]; rfl
  · exact frozen_of_row _ _ _ _ _ h0
  · exact frozen_of_row _ _ _ _ _ h0
  · rw [hW]; exact hT.below (((Below.refl _ _).alloc (Nat.le_refl _) _).alloc (by simp) _) hC
  · rw [cell_of_row _ _ j _ _ _ h1]
    match j, hj with
    | 0, _ => rfl
    | 1, _ => rfl
    | 2, _ => rfl
    | 3, _ => rfl
    | 4, _ => rfl
  · exact frozen_of_row _ _ _ _ _ h1

set_option maxRecDepth 100000 in
theorem text_chunk (C c : Nat) (A : Array Value) (l : List Xo.Sm) (w : World) (h : ChAt c A l w) (hT : Tabs C w) :
    Calls Tryd.prog 14 #[.pointer (.some ⟨c, 0, none⟩)] w fun e w' => e = .returned (.string (bs (Xo.text l))) ∧ Below w.heap.size w w' := by
  have hn := h.n
  have hlt := h.lt
  have hg := h.ch.good
  have hl := hg.1
  have hl1 : (l.length : Int) ≤ 120 := by omega
  have P0 := Lib.hid (trail_new C w 68 72 hT)
  have b0 : Below w.heap.size w ((w.alloc (.cells #[.slice none 0 0, .int .i64 0] 68)).alloc (.cells #[.int .i64 0, .int .u64 0, .int .i64 0, .int .i64 0, .int .i64 0] 72)) := ((Below.refl _ _).alloc (Nat.le_refl _) _).alloc (by simp) _
  have hcs := Lib.hid (fun W (b : Below w.heap.size w W) => h.keep (b.block c hlt))
  have HB0 := Lib.hid b0
  go_enter Tryd.func14, Tryd.ntmps14
  go_wp2_with fail
  go_region
  go_wp2_with fail
  go_loopw [17] (fun i' wr => ∃ (i : Nat) (v : Value), i' = .int .i64 i ∧ i ≤ l.length ∧ Pt C (w.heap.size + 2) w.heap.size (w.heap.size + 1) v (Xo.bitsL (l.take i)) (Xo.trL (l.take i)) wr ∧ Below w.heap.size w wr) (fun i' _ => l.length - (RowKit.intOf i').toNat)
  case atStart => exact ⟨0, _, rfl, by omega, P0.out.grow (Below.refl _ _).drew, HB0.out.drew⟩
  case round =>
    obtain ⟨i, v, rfl, hi, P, hb⟩ := hrel
    by_cases hlt2 : i < l.length
    · obtain ⟨s, hs⟩ : ∃ s, l[i]? = some s := ⟨l[i], List.getElem?_eq_getElem hlt2⟩
      have hmem : s ∈ l := List.mem_of_getElem? hs
      have htk : l.take (i + 1) = l.take i ++ [s] := by rw [List.take_add_one, hs]; rfl
      have hgi : Xo.Good (l.take i) := Xo.good_prefix (m := l.drop i) (by rw [List.take_append_drop]; exact hg)
      have hsb := hg.2.1 s hmem
      obtain ⟨s1, s2⟩ := s
      simp only at hsb
      have hC := hcs.out wr hb
      have c0 := (hC.cell (i * 2)).trans (hC.ch.at' i _ hs).1
      have c1 := (hC.cell (i * 2 + 1)).trans (hC.ch.at' i _ hs).2
      simp only at c0 c1
      have P1 := P.grow ((Below.refl _ _).alloc (Nat.le_refl _) (.cells #[.int .i64 s1, .int .u64 s2] 27))
      have hlen := Xo.bitsL_len _ hgi
      have hlen2 : (l.take i).length ≤ 120 := hgi.1
      have hz := hb.size
      have b1 : Below w.heap.size w (wr.alloc (.cells #[.int .i64 s1, .int .u64 s2] 27)) := hb.alloc hb.size _
      have HTK := Lib.hid htk
      by_cases h0 : i = 0
      · subst h0
        have e0 : l.take 0 = [] := rfl
        rw [e0] at P1 HTK
        rw [Xo.bitsL_nil, Xo.trL_nil] at P1
        have PF := Lib.hid (putfirst_any _ _ _ _ _ _ _ s1 s2 _ P1 (by simp) hsb.1 hsb.2.1 hsb.2.2)
        clear htk hs hmem hgi hC P1 hlen hlen2 hcs P hz
        go_wp2_with (go_at_call 25; refine PF.out.mono ?_; rintro e w1 ⟨rfl, v1, P2, u1⟩)
        refine ⟨⟨1, v1, rfl, hlt2, ?_, b1.trans (u1.turn.below b1.size (fun k hk => by rcases hk with hk | hk | hk <;> omega))⟩, by simp [RowKit.intOf]; omega⟩
        rw [HTK.out, List.nil_append, Xo.bitsL_one, Xo.trL_one]
        exact P2
      · have hne : l.take i ≠ [] := fun e => by
          have := congrArg List.length e
          rw [List.length_take, List.length_nil] at this
          omega
        have i0 : ((i : Int) == 0) = false := by simp; omega
        have hl7 : (Xo.bitsL (l.take i)).length ≤ 700000 := by omega
        have PN := Lib.hid (putnext_any _ _ _ _ _ _ _ s1 s2 _ P1 (Xo.trL_ok _ hgi) hl7 hsb.1 hsb.2.1 hsb.2.2)
        rw [← Xo.bitsL_snoc _ _ hne, ← Xo.trL_snoc _ _ hne, ← htk] at PN
        clear htk hs hmem hgi hC P1 hlen hlen2 hcs P hz HTK hne
        go_wp2_with (go_at_call 26; refine PN.out.mono ?_; rintro e w1 ⟨rfl, v1, P2, u1⟩)
        exact ⟨⟨i + 1, v1, by go_num, hlt2, P2, b1.trans (u1.turn.below b1.size (fun k hk => by rcases hk with hk | hk | hk <;> omega))⟩, by simp [RowKit.intOf]; omega⟩
    · have hil : i = l.length := by omega
      subst hil
      rw [List.take_length] at P
      have hlen := Xo.bitsL_len _ hg
      have hC := hcs.out wr hb
      have hn2 := hC.n
      obtain ⟨bits, hbits⟩ : ∃ b, b = Xo.bitsL l := ⟨_, rfl⟩
      obtain ⟨n, hnn⟩ : ∃ n, n = l.length := ⟨_, rfl⟩
      have HTX := Lib.hid (show Xo.text l = Leb.encU n ++ Leb.encU bits.length ++ Bt.pack bits by rw [hnn, hbits]; rfl)
      rw [← hbits] at P hlen
      rw [← hnn] at hlen hn2 hl1 hl ⊢
      have e1 := Leb.encU_len n
      have e2 := Leb.encU_len bits.length
      have hb2 : bits.length ≤ 18000 := by omega
      clear hbits hnn hlen hcs hC HB0 P0 hlt2 hi hn h hg
      have U1 := Lib.hid (uint_new n n _ _ rfl rfl rfl wr (by unfold Leb.two64; omega))
      go_wp2_with fail
      refine U1.out.mono ?_
      rintro e w1 ⟨a1, cap1, rfl, sl1, b1⟩
      have P1 := P.grow b1
      have R1 := Lib.hid (rlen_any _ _ _ _ _ P1.row)
      go_wp2_with fail
      refine R1.out.mono ?_
      rintro e w2 ⟨rfl, rfl⟩
      have hbz : w.heap.size ≤ w1.heap.size := Nat.le_trans hb.size b1.size
      have sl1' : Sl w1 w.heap.size 1 (.slice a1 (Leb.encU n).length cap1) (Leb.encU n).length (cb (Leb.encU n)) := sl1.mono hb.size
      have hcv : (IntKind.u64.wrap (bits.length : Int)) = (bits.length : Int) := by rw [IntKind.wrap_u64]; omega
      have U2 := Lib.hid (uint_any w.heap.size _ _ _ bits.length w1 (by unfold Leb.two64; omega) sl1' (by omega) hbz)
      go_wp2_with fail
      refine U2.out.mono ?_
      rintro e w3 ⟨v3, rfl, x3⟩
      have b3 : Below w.heap.size w1 w3 := x3.below (Nat.le_refl _) hbz
      have hrow : RowV (w.heap.size + 2) w.heap.size v bits w3 := by
        refine P1.row.grownX x3.grown (fun e => ?_) (fun k hk e => ?_)
        · have := (sl1.lt _ e).1; have := P.row.lt; have := P.row.hB; omega
        · have := (sl1.lt _ e).1; have := (P.row.bytes.lt _ hk).2; omega
      have bb : Below w.heap.size w w3 := (hb.trans (b1.mono hb.size)).trans b3
      have now := x3.now
      rw [← cb_append] at now
      obtain ⟨L, hL⟩ : ∃ L, L = Leb.encU n ++ Leb.encU bits.length := ⟨_, rfl⟩
      have hLl : L.length ≤ 20 := by rw [hL, List.length_append]; omega
      rw [← List.length_append, ← hL] at now
      rw [← hL] at HTX
      obtain ⟨a3, cap3, rfl⟩ := now.slice
      have hcv3 := fun q => text_conv (w := w3.drewN q) now
      have hA := bs_append
      have hpk : (bs (Bt.pack bits)).size ≤ 3000 := by rw [bs_size, Bt.pack_length]; omega
      have hLs : (bs L).size ≤ 20 := bs_size_le _ _ hLl
      have R3 := Lib.hid (fun q => rtext_any _ _ _ _ (w3.drewN q) ⟨hrow.lt, hrow.hB, hrow.bytes, hrow.c0, hrow.len, hrow.f0, hrow.f1⟩)
      obtain ⟨S1, hS1⟩ : ∃ S, S = bs L := ⟨_, rfl⟩
      obtain ⟨S2, hS2⟩ : ∃ S, S = bs (Bt.pack bits) := ⟨_, rfl⟩
      rw [← hS1] at hLs
      simp only [← hS1] at hcv3
      rw [← hS2] at R3 hpk
      have hjo : ¬ maxLen < S1.size + S2.size := by unfold maxLen; omega
      have HE := Lib.hid (show S1 ++ S2 = bs (Xo.text l) by rw [hS1, hS2, hA, HTX.out])
      have BB := Lib.hid bb
      clear hA hS1 hS2 hL hLl now x3 sl1 sl1' R1 U1 U2 P P1 hrow b3 b1 hb bb hbz e1 e2 hb2 hcv HTX b0 hn2 hl1 hl hT
      go_wp2_with fail
      go_quiet ((go_at_call 28; exact Calls.quiet_of_same ((R3.out _).mono fun _ _ h => ⟨h.1, h.2.symm⟩)))
      go_wp2_with fail
      go_ret
      exact ⟨by rw [← HE.out]; rfl, below_draw BB.out _⟩
end Go.Proofs.YtajkleknjjpldaaDoor
