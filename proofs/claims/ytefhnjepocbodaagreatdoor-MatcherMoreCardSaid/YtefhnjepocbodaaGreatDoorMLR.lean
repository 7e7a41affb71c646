/- Layer 6: the document's order of pairs, in plain words. Layer 6: the document's own pairs: Told, Compare; the statement LabelCompares walked. Layer 6: the document's Sorted, walked. -/
import Derived.Test.YtefhnjepocbodaaGreatDoorMLI
import Derived.Test.YtefhnjepocbodaaGreatDoorMY3
import Derived.Laws.StructEq
namespace Go.Proofs.YtefhnjepocbodaaGreatDoor
open Go.RowKit Go.Lib

/-- Ahead of the first one of a greater name. -/
def insS (p : Pr) : List Pr → List Pr
  | [] => [p]
  | q :: r => if p.n < q.n then p :: q :: r else q :: insS p r
def sortS (ds : List Pr) : List Pr := ds.foldl (fun out p => insS p out) []
theorem sortS_snoc (ds : List Pr) (p : Pr) : sortS (ds ++ [p]) = insS p (sortS ds) := by simp [sortS, List.foldl_append]
theorem insS_perm (p : Pr) : ∀ l, (insS p l).Perm (p :: l)
  | [] => List.Perm.refl _
  | q :: r => by
    unfold insS
    split
    · exact List.Perm.refl _
    · exact ((insS_perm p r).cons q).trans (List.Perm.swap p q r)
theorem insS_len (p : Pr) (l : List Pr) : (insS p l).length = l.length + 1 := (insS_perm p l).length_eq
theorem sortS_go : ∀ (ds acc : List Pr), (ds.foldl (fun out p => insS p out) acc).Perm (acc ++ ds)
  | [], acc => by simp
  | p :: r, acc => by
    rw [List.foldl_cons]
    refine (sortS_go r (insS p acc)).trans ?_
    exact ((insS_perm p acc).append_right r).trans (List.perm_middle.symm)
theorem sortS_perm (ds : List Pr) : (sortS ds).Perm ds := by simpa [sortS] using sortS_go ds []
theorem sortS_len (ds : List Pr) : (sortS ds).length = ds.length := (sortS_perm ds).length_eq
/-- No name falls. -/
def NameUp (l : List Pr) : Prop := l.Pairwise fun x y => ¬ y.n < x.n
theorem insS_mem (p : Pr) (l : List Pr) (y : Pr) (h : y ∈ insS p l) : y = p ∨ y ∈ l := by
  have := (insS_perm p l).subset h
  simpa using this
theorem insS_up (p : Pr) : ∀ l, NameUp l → NameUp (insS p l)
  | [], _ => by simp [insS, NameUp]
  | q :: r, h => by
    obtain ⟨h1, h2⟩ := List.pairwise_cons.1 h
    unfold insS
    split
    · rename_i hlt
      refine List.pairwise_cons.2 ⟨fun y hy hyp => ?_, h⟩
      rcases List.mem_cons.1 hy with rfl | hy
      · exact bytes_lt_irrefl _ (bytes_lt_trans hyp hlt)
      · exact h1 y hy (bytes_lt_trans hyp hlt)
    · rename_i hlt
      refine List.pairwise_cons.2 ⟨fun y hy => ?_, insS_up p r h2⟩
      rcases insS_mem p r y hy with rfl | hy
      · exact hlt
      · exact h1 y hy
theorem sortS_upgo : ∀ (ds acc : List Pr), NameUp acc → NameUp (ds.foldl (fun out p => insS p out) acc)
  | [], _, h => h
  | p :: r, acc, h => by rw [List.foldl_cons]; exact sortS_upgo r _ (insS_up p acc h)
theorem sortS_up (ds : List Pr) : NameUp (sortS ds) := sortS_upgo ds [] List.Pairwise.nil
/-- Each name once. -/
def Diff (l : List Pr) : Prop := l.Pairwise fun x y => x.n ≠ y.n
theorem Diff.perm {a b : List Pr} (h : Diff a) (p : a.Perm b) : Diff b := (p.pairwise_iff fun h => Ne.symm h).1 h
theorem sortS_diff (ds : List Pr) (h : Diff ds) : sortS ds = sortP ds := by
  refine sorted_unique _ _ ((sortS_perm ds).trans (sortP_perm ds).symm) ?_ (sortP_rising ds)
  have h1 := h.perm (sortS_perm ds).symm
  have h2 := sortS_up ds
  refine List.Pairwise.imp₂ (fun x y (hd : x.n ≠ y.n) (hu : ¬ y.n < x.n) => ?_) h1 h2
  rintro (hl | ⟨hl, _⟩)
  · exact hu hl
  · exact hd hl.symm
theorem chk_diff {l : List Pr} (h : chk l = true) : Diff l :=
  (chkR_rising l none (chk_parts h).2.2).imp fun hlt e => by rw [e] at hlt; exact bytes_lt_irrefl _ hlt
theorem chk_sortS (ds : List Pr) : chk (sortS ds) = chk (sortP ds) := by
  cases h1 : chk (sortS ds)
  · cases h2 : chk (sortP ds)
    · rfl
    · rw [sortS_diff ds ((chk_diff h2).perm (sortP_perm ds)), h2] at h1
      cases h1
  · rw [← sortS_diff ds ((chk_diff h1).perm (sortS_perm ds)), h1]

/-- The loop that puts one more in: is it in, what is laid out. -/
def stepI (p : Pr) (r : Bool × List Pr) (q : Pr) : Bool × List Pr := if r.1 = false ∧ p.n < q.n then (true, r.2 ++ [p, q]) else (r.1, r.2 ++ [q])
def insF (p : Pr) (l : List Pr) : Bool × List Pr := l.foldl (stepI p) (false, [])
theorem insF_snoc (p : Pr) (l : List Pr) (q : Pr) : insF p (l ++ [q]) = stepI p (insF p l) q := by simp [insF, List.foldl_append]
theorem insF_in (p : Pr) : ∀ (l acc : List Pr), l.foldl (stepI p) (true, acc) = (true, acc ++ l)
  | [], acc => by simp
  | q :: r, acc => by rw [List.foldl_cons, stepI, if_neg (by simp), insF_in p r]; simp
theorem insF_go (p : Pr) : ∀ (l acc : List Pr), (if (l.foldl (stepI p) (false, acc)).1 = true then (l.foldl (stepI p) (false, acc)).2 else (l.foldl (stepI p) (false, acc)).2 ++ [p]) = acc ++ insS p l
  | [], acc => by simp [insS]
  | q :: r, acc => by
    rw [List.foldl_cons]
    by_cases h : p.n < q.n
    · have e : stepI p (false, acc) q = (true, acc ++ [p, q]) := by unfold stepI; rw [if_pos ⟨rfl, h⟩]
      rw [e, insF_in p r, insS, if_pos h]; simp
    · have e : stepI p (false, acc) q = (false, acc ++ [q]) := by unfold stepI; rw [if_neg (by simp [h])]
      rw [e, insF_go p r, insS, if_neg h]; simp
theorem insF_is (p : Pr) (l : List Pr) : (if (insF p l).1 = true then (insF p l).2 else (insF p l).2 ++ [p]) = insS p l := by
  have h := insF_go p l []
  rw [List.nil_append] at h
  exact h
theorem insF_len (p : Pr) (l : List Pr) : (insF p l).2.length ≤ l.length + 1 := by
  have h := congrArg List.length (insF_is p l)
  rw [insS_len] at h
  split at h
  · omega
  · rw [List.length_append] at h; omega
end Go.Proofs.YtefhnjepocbodaaGreatDoor

namespace Go.Proofs.YtefhnjepocbodaaGreatDoor
open Go.RowKit Go.Lib

theorem zc_rpair : (Tryz.prog.info? 36).map (fun i => (i.zero, i.size, i.bytes)) = some (some (.agg #[.string ⟨#[]⟩, .string ⟨#[]⟩]), 2, 32) := by kernel_rfl

set_option maxHeartbeats 2000000 in
set_option maxRecDepth 100000 in
theorem told_any (v : Value) (ds : List Pr) (w : World) (h : Rd w 2 v ds.length (prc ds)) (hm : ds.length ≤ 1000000) :
    Calls Tryz.prog 13 #[v] w (NewP w ds) := by
  obtain ⟨i0, hi, hz0, hz1, hz2⟩ := info_parts zc_rpair
  have Hz := Lib.hid hz0; have Hs := Lib.hid hz1; have Hb := Lib.hid hz2; have Hi := Lib.hid hi
  clear hz0 hz1 hz2 hi
  obtain ⟨_, a, cap, g, off, rfl, hg, hc⟩ := h
  obtain ⟨n, hn⟩ : ∃ n, n = ds.length := ⟨_, rfl⟩
  rw [← hn] at hg hc hm
  have HN := Lib.hid hn
  have HC := Lib.hid hc
  have HG := Lib.hid hg
  rw [← hn]
  clear hn hc hg
  go_enter Tryz.func13, Tryz.ntmps13
  go_wp2_with fail
  go_loopw [3, 9] (fun o' i' wr => ∃ (i : Nat), i' = .int .i64 i ∧ i ≤ n ∧ Sl wr w.heap.size 2 o' i (prc (ds.take i)) ∧ Below w.heap.size w wr) (fun _ i' _ => n - (intOf i').toNat)
  case atStart => exact ⟨0, rfl, by omega, Sl.lit w w.heap.size 2 0 #[] _ (Nat.le_refl _) (by decide) rfl, (Below.refl _ _).alloc (Nat.le_refl _) _⟩
  case round =>
    obtain ⟨i, rfl, hi, hown, hb⟩ := hrel
    have hbz := hb.size
    by_cases hlt : i < n
    · obtain ⟨rfl, hgl⟩ := HG.out (by omega)
      obtain ⟨x, hx⟩ : ∃ x, ds[i]? = some x := ⟨ds[i]'(by have := HN.out; omega), List.getElem?_eq_getElem (by have := HN.out; omega)⟩
      obtain ⟨v0, v1⟩ := prc_at ds i x hx
      have q0 := ((hb.cell (p := ⟨g, off + i * 2, none⟩) hgl).trans (HC.out (i * 2) (by omega))).trans v0
      have q1 := ((hb.cell (p := ⟨g, off + (i * 2 + 1), none⟩) hgl).trans (HC.out (i * 2 + 1) (by omega))).trans v1
      rw [← Nat.add_assoc] at q1
      have hgw : g ≠ wr.heap.size := by omega
      have hil : (i : Int) < n := by omega
      have ht := Lib.hid (show ds.take (i + 1) = ds.take i ++ [x] by rw [List.take_add_one, hx]; rfl)
      have n1 : i + 1 ≤ maxLen := by unfold maxLen; omega
      have n2 : (i + 1) * 32 ≤ 140737488355328 := by omega
      obtain ⟨oa, oc, rfl⟩ := hown.slice
      obtain ⟨Y, hY⟩ : ∃ Y, Y = (wr.alloc (.cells #[.string (bs x.n), .string (bs x.v)] 53)).alloc (.cells #[.string (bs x.n), .string (bs x.v)] 36) := ⟨_, rfl⟩
      have hownY : Sl Y w.heap.size 2 (.slice oa i oc) i (prc (ds.take i)) := by rw [hY]; exact (hown.alloc _).alloc _
      have hlit : ∀ j u, [Value.string (bs x.n), .string (bs x.v)][j]? = some u → Y.cell? ((⟨wr.heap.size + 1, 0, none⟩ : Addr).add j) = some u := by
        have := (Sl.lit (wr.alloc (.cells #[.string (bs x.n), .string (bs x.v)] 53)) 0 2 1 #[.string (bs x.n), .string (bs x.v)] 36 (Nat.zero_le _) (by decide) rfl).cells
        rw [World.size_alloc] at this
        rw [hY]; exact this
      have hbY : w.heap.size ≤ Y.heap.size := by rw [hY]; simp; omega
      have hbelY : Below w.heap.size w Y := by rw [hY]; exact (hb.alloc hbz _).alloc (by simp; omega) _
      have HY := Lib.hid hY
      clear v0 v1 hx hY
      go_wp2_with (at_builtin; rw [← HY.out]; refine wpList_append_sl _ rfl _ _ 32 rfl w.heap.size 36 i0 (.agg #[.string ⟨#[]⟩, .string ⟨#[]⟩]) 2 32 Tryz.underlying32 Hi.out Hz.out Hs.out Hb.out rfl (by decide) _ i _ rfl hownY ⟨wr.heap.size + 1, 0, none⟩ 1 1 [.string (bs x.n), .string (bs x.v)] rfl rfl hlit (prc_one [x]) n1 n2 hbY ?_; intro v' w3 hx3)
      refine ⟨⟨i + 1, by simp, by omega, ?_, hbelY.trans (hx3.below (Nat.le_refl _) hbY)⟩, by simp [intOf]; omega⟩
      rw [ht.out, prc_append]
      exact hx3.now
    · have hin : i = n := by omega
      subst hin
      have he : ds.take i = ds := List.take_of_length_le (by have := HN.out; omega)
      rw [he] at hown
      clear he
      obtain ⟨oa, oc, rfl⟩ := hown.slice
      have hil : ¬ (i : Int) < i := by omega
      have HO := Lib.hid hown
      clear hown
      go_wp2
      go_ret
      exact ⟨_, rfl, by rw [← HN.out]; exact HO.out, hb⟩

theorem neq_rp (x y : Pr) (w : World) : (binOp BinOp.neq 36 (.agg #[.string (bs x.n), .string (bs x.v)]) (.agg #[.string (bs y.n), .string (bs y.v)])).run Tryz.prog w = .ok (.bool (!decide (x = y))) w := by
  have u9 := Tryz.underlying9
  have a9 := Tryz.isAgg9
  have z9 := Tryz.sizeOf9
  have hT := bs_toList
  rw [run_neq_struct, show (10000 : Nat) = 9999 + 1 from rfl, run_equalIn_agg w 9999 36 _ _ (by kernel_rfl) (by kernel_rfl)]
  simp only [Program.fieldsOf, Tryz.underlying36]
  go_simp
  cases x; cases y
  rename_i xn xv yn yv
  by_cases h1 : xn = yn <;> by_cases h2 : xv = yv <;> simp [h1, h2]
end Go.Proofs.YtefhnjepocbodaaGreatDoor

namespace Go.Proofs.YtefhnjepocbodaaGreatDoor
open Go.RowKit Go.Lib

theorem two_cells0 (w : World) (a b : Value) (t : TypeId) : ∀ j u, [a, b][j]? = some u → (w.alloc (.cells #[a, b] t)).cell? ((⟨w.heap.size, 0, none⟩ : Addr).add j) = some u := by
  intro j u hu
  exact (Sl.lit w w.heap.size 2 1 #[a, b] t (Nat.le_refl _) (by decide) rfl).cells j u hu
theorem two_cells1 (w : World) (o : Obj) (a b : Value) (t : TypeId) : ∀ j u, [a, b][j]? = some u → ((w.alloc o).alloc (.cells #[a, b] t)).cell? ((⟨w.heap.size + 1, 0, none⟩ : Addr).add j) = some u := by
  intro j u hu
  have := two_cells0 (w.alloc o) a b t j u hu
  simpa using this
theorem lessT {a b : List UInt8} (h : a < b) : Op.bytesLess a b = true := (less_lt a b).2 h
theorem lessF {a b : List UInt8} (h : ¬ a < b) : Op.bytesLess a b = false := by
  cases hq : Op.bytesLess a b
  · rfl
  · exact absurd ((less_lt a b).1 hq) h
theorem prc_app (a b : List Pr) : prc (a ++ b) = prc a ++ prc b := by simp [prc]
theorem prc_sl {w : World} {base g off n cap : Nat} {ds : List Pr} (h : Sl w base 2 (.slice (some ⟨g, off, none⟩) n cap) n (prc ds)) (j : Nat) (x : Pr) (hx : ds[j]? = some x) : w.cell? ⟨g, off + j * 2, none⟩ = some (.string (bs x.n)) ∧ w.cell? ⟨g, off + j * 2 + 1, none⟩ = some (.string (bs x.v)) := by
  have hc := prc_at ds j x hx
  have h0 := h.cells _ _ hc.1
  have h1 := h.cells _ _ hc.2
  rw [Addr.add_lit] at h0 h1
  exact ⟨h0, by rw [Nat.add_assoc]; exact h1⟩

set_option maxHeartbeats 4000000 in
set_option maxRecDepth 100000 in
theorem rsorted_any (v : Value) (ds : List Pr) (w : World) (h : Rd w 2 v ds.length (prc ds)) (hm : ds.length ≤ 100000) :
    Calls Tryz.prog 12 #[v] w (NewP w (sortS ds)) := by
  have hT := bs_toList
  obtain ⟨i0, hi, hz0, hz1, hz2⟩ := info_parts zc_rpair
  have Hz := Lib.hid hz0; have Hs := Lib.hid hz1; have Hb := Lib.hid hz2; have Hi := Lib.hid hi
  clear hz0 hz1 hz2 hi
  obtain ⟨_, a, cap, g, off, rfl, hg, hc⟩ := h
  obtain ⟨n, hn⟩ : ∃ n, n = ds.length := ⟨_, rfl⟩
  rw [← hn] at hg hc hm ⊢
  have HN := Lib.hid hn
  have HC := Lib.hid hc
  have HG := Lib.hid hg
  clear hn hc hg
  go_enter Tryz.func12, Tryz.ntmps12
  go_wp2_with fail
  go_loopw [3, 13] (fun o' i' wr => ∃ (i og oo oc : Nat), i' = .int .i64 i ∧ i ≤ n ∧ o' = .slice (some ⟨og, oo, none⟩) i oc ∧ Sl wr w.heap.size 2 (.slice (some ⟨og, oo, none⟩) i oc) i (prc (sortS (ds.take i))) ∧ Below w.heap.size w wr) (fun _ i' _ => n - (intOf i').toNat)
  case atStart => exact ⟨0, _, _, _, rfl, by omega, rfl, Sl.lit w w.heap.size 2 0 #[] _ (Nat.le_refl _) (by decide) rfl, (Below.refl _ _).alloc (Nat.le_refl _) _⟩
  case round =>
    obtain ⟨W0, rfl⟩ : ∃ W0, W0 = wr := ⟨_, rfl⟩
    obtain ⟨i, og, oo, oc, rfl, hi, rfl, hs, hb⟩ := hrel
    by_cases hlt : i < n
    · obtain ⟨rfl, hgl⟩ := HG.out (by omega)
      obtain ⟨x, hx⟩ : ∃ x, ds[i]? = some x := ⟨ds[i]'(by have := HN.out; omega), List.getElem?_eq_getElem (by have := HN.out; omega)⟩
      obtain ⟨v0, v1⟩ := prc_at ds i x hx
      have hbz := hb.size
      have q0 := ((hb.cell (p := ⟨g, off + i * 2, none⟩) hgl).trans (HC.out (i * 2) (by omega))).trans v0
      have q1 := ((hb.cell (p := ⟨g, off + (i * 2 + 1), none⟩) hgl).trans (HC.out (i * 2 + 1) (by omega))).trans v1
      rw [← Nat.add_assoc] at q1
      have ht : ds.take (i + 1) = ds.take i ++ [x] := by rw [List.take_add_one, hx]; rfl
      obtain ⟨O, hO⟩ : ∃ O, O = sortS (ds.take i) := ⟨_, rfl⟩
      have hOl : O.length = i := by rw [hO, sortS_len, List.length_take]; have := HN.out; omega
      have HST := Lib.hid (show sortS (ds.take (i + 1)) = insS x O by rw [ht, sortS_snoc, hO])
      have HIS := Lib.hid (insF_is x O)
      rw [← hO] at hs
      have HOL := Lib.hid hOl
      have hil : (i : Int) < n := by omega
      have HS := Lib.hid hs
      have HB := Lib.hid hb
      clear ht hO hOl hs hb v0 v1 hx
      go_wp2_with fail
      obtain ⟨W, hW⟩ : ∃ W, W = W0.alloc (.cells #[.string (bs x.n), .string (bs x.v)] 36) := ⟨_, rfl⟩
      have g0 : W.cell? ⟨W0.heap.size, 0, none⟩ = some (.string (bs x.n)) := by rw [hW]; simp
      have g1 : W.cell? ⟨W0.heap.size, 1, none⟩ = some (.string (bs x.v)) := by rw [hW]; simp
      have gz : W.heap.size = W0.heap.size + 1 := by rw [hW]; simp
      have BX := Lib.hid (show Below w.heap.size w W by rw [hW]; exact HB.out.alloc hbz _)
      have SX := Lib.hid (show Sl W w.heap.size 2 (.slice (some ⟨og, oo, none⟩) i oc) i (prc O) by rw [hW]; exact HS.out.alloc _)
      have gz2 : W0.heap.size < W.heap.size := by omega
      have hwW : w.heap.size ≤ W.heap.size := BX.out.size
      simp only [← hW]
      have L0 := Lib.hid (show Sl (W.alloc (.cells #[] 36)) W.heap.size 2 (.slice (some ⟨W0.heap.size + 1, 0, none⟩) 0 0) 0 [] by rw [← gz]; exact Sl.lit W W.heap.size 2 0 #[] 36 (Nat.le_refl _) (by decide) rfl)
      clear hW gz q0 q1
      have L1 := Lib.hid (show Below W.heap.size W (W.alloc (.cells #[] 36)) from (Below.refl _ _).alloc (Nat.le_refl _) _)
      go_loopw [6, 7, 20] (fun e' d' j' wr => ∃ (j m ng no nc : Nat) (d : Bool), j' = .int .i64 j ∧ j ≤ i ∧ m ≤ j + 1 ∧ Hid (d = false → m ≤ j) ∧ Hid (m = (insF x (O.take j)).2.length ∧ d = (insF x (O.take j)).1) ∧ d' = .bool d ∧ e' = .slice (some ⟨ng, no, none⟩) m nc ∧ Sl wr W.heap.size 2 (.slice (some ⟨ng, no, none⟩) m nc) m (prc (insF x (O.take j)).2) ∧ Below W.heap.size W wr) (fun _ _ j' _ => i - (intOf j').toNat)
      case atStart => exact ⟨0, 0, _, _, _, false, rfl, by omega, by omega, (fun _ => Nat.le_refl _), ⟨rfl, rfl⟩, rfl, rfl, L0.out, L1.out⟩
      case round =>
        obtain ⟨W2, rfl⟩ : ∃ W2, W2 = wr := ⟨_, rfl⟩
        obtain ⟨j, m, ng, no, nc, d, rfl, hj, hmj, hmj2, hmd, rfl, rfl, hs2, hb2⟩ := hrel
        have hz2 := hb2.size
        have p0 := (hb2.cell (p := ⟨W0.heap.size, 0, none⟩) gz2).trans g0
        have p1 := (hb2.cell (p := ⟨W0.heap.size, 1, none⟩) gz2).trans g1
        have HS2 := Lib.hid hs2; have HB2 := Lib.hid hb2; have HMD := Lib.hid hmd.out; have HMJ := Lib.hid hmj2.out; clear hmj2
        by_cases hji : j < i
        · obtain ⟨y, hy⟩ : ∃ y, O[j]? = some y := ⟨O[j]'(by have := HOL.out; omega), List.getElem?_eq_getElem (by have := HOL.out; omega)⟩
          obtain ⟨u0, u1⟩ := prc_sl SX.out j y hy
          have ogl : og < W.heap.size := (SX.out.lt og rfl).2
          have y0 := (hb2.cell (p := ⟨og, oo + j * 2, none⟩) ogl).trans u0
          have y1 := (hb2.cell (p := ⟨og, oo + j * 2 + 1, none⟩) ogl).trans u1
          have htk : O.take (j + 1) = O.take j ++ [y] := by rw [List.take_add_one, hy]; rfl
          have hsn := insF_snoc x (O.take j) y
          rw [← htk] at hsn
          obtain ⟨F, hF⟩ : ∃ F, F = insF x (O.take j) := ⟨_, rfl⟩
          rw [← hF] at hsn hs2
          have hmd2 := hmd.out
          rw [← hF] at hmd2
          have HS3 := Lib.hid hs2
          have HSN := Lib.hid hsn; have HM2 := Lib.hid hmd2
          have hji2 : (j : Int) < i := by omega
          have hgo : og ≠ W2.heap.size := by omega
          have hg0 : W0.heap.size ≠ W2.heap.size := by omega
          have hneq : W0.heap.size < W2.heap.size := by omega
          clear hs2 hb2 hmd hmd2 hsn htk hF u0 u1 hy HS2
          cases d with
          | true =>
            have HF1 := Lib.hid (show insF x (O.take (j + 1)) = (true, F.2 ++ [y]) by rw [HSN.out]; unfold stepI; rw [← HM2.out.2, if_neg (by simp)])
            go_wp2_with (at_builtin; go_loud (refine wpList_append_sl _ rfl _ _ 32 rfl W.heap.size 36 i0 (.agg #[.string ⟨#[]⟩, .string ⟨#[]⟩]) 2 32 Tryz.underlying32 Hi.out Hz.out Hs.out Hb.out rfl (by decide) _ (m) _ rfl ((HS3.out.alloc _).alloc _) ⟨W2.heap.size + 1, 0, none⟩ 1 1 [_, _] rfl rfl (two_cells1 _ _ _ _ _) (by simp [Value.oneCell']) (by unfold maxLen; omega) (by omega) (by simp; omega) ?_; intro v5 w5 x5; obtain ⟨g5, o5, c5, rfl, -⟩ := x5.now.somewhere (by omega); have bb5 := Lib.hid (((HB2.out.alloc hz2 _).alloc (by simp; omega) _).trans (x5.below (Nat.le_refl _) (by simp; omega))); have zz5 := bb5.out.size; have X5 := Lib.hid x5; clear x5))
            exact ⟨⟨j + 1, m + 1, g5, o5, c5, true, by simp, by omega, by omega, (fun h => by cases h), ⟨by rw [HF1.out, List.length_append, ← HM2.out.1]; rfl, by rw [HF1.out]⟩, rfl, rfl, by rw [HF1.out, prc_app]; exact X5.out.now, bb5.out⟩, by simp [intOf]; omega⟩
          | false =>
            by_cases hxy : x.n < y.n
            · have hcp := lessT hxy
              have HF1 := Lib.hid (show insF x (O.take (j + 1)) = (true, F.2 ++ [x] ++ [y]) by rw [HSN.out]; unfold stepI; rw [← HM2.out.2, if_pos ⟨rfl, hxy⟩]; simp)
              have R0 := Lib.hid (fun (w5 : World) (hg : ((W2.alloc (.cells #[.string (bs y.n), .string (bs y.v)] 36)).alloc (.cells #[.string (bs x.n), .string (bs x.v)] 36)).grownBy w5 (Value.slice (some ⟨ng, no, none⟩) m nc).ownBlock) => show w5.cell? ⟨W2.heap.size, 0, none⟩ = some (.string (bs y.n)) ∧ w5.cell? ⟨W2.heap.size, 1, none⟩ = some (.string (bs y.v)) from by
                have r0 := (hg.block W2.heap.size (by simp; omega) (fun e => by have := (HS3.out.lt _ e.symm).2; omega)).trans ((Below.heap_alloc (W2.alloc (.cells #[.string (bs y.n), .string (bs y.v)] 36)) _ W2.heap.size (by simp)).trans (heap_alloc_new W2 _))
                exact ⟨by rw [Lib.cell_of_heap r0]; rfl, by rw [Lib.cell_of_heap r0]; rfl⟩)
              clear hxy
              go_wp2_with (first
                | (at_builtin; refine wpList_append_sl _ rfl _ _ 32 rfl W.heap.size 36 i0 (.agg #[.string ⟨#[]⟩, .string ⟨#[]⟩]) 2 32 Tryz.underlying32 Hi.out Hz.out Hs.out Hb.out rfl (by decide) _ (m) _ rfl ((HS3.out.alloc _).alloc _) ⟨W2.heap.size + 1, 0, none⟩ 1 1 [_, _] rfl rfl (two_cells1 _ _ _ _ _) (by simp [Value.oneCell']) (by unfold maxLen; omega) (by omega) (by simp; omega) ?_; intro v5 w5 x5; obtain ⟨g5, o5, c5, rfl, -⟩ := x5.now.somewhere (by omega); have bb5 := Lib.hid (((HB2.out.alloc hz2 _).alloc (by simp; omega) _).trans (x5.below (Nat.le_refl _) (by simp; omega))); have zz5 := bb5.out.size; have R12 := R0.out w5 x5.grown; obtain ⟨r1, r2⟩ := R12; have X5 := Lib.hid x5; clear x5)
                | (at_builtin; refine wpList_append_sl _ rfl _ _ 32 rfl W.heap.size 36 i0 (.agg #[.string ⟨#[]⟩, .string ⟨#[]⟩]) 2 32 Tryz.underlying32 Hi.out Hz.out Hs.out Hb.out rfl (by decide) _ (m + 1) _ rfl (X5.out.now.alloc _) ⟨w5.heap.size, 0, none⟩ 1 1 [_, _] rfl rfl (two_cells0 _ _ _ _) (by simp [Value.oneCell']) (by unfold maxLen; omega) (by omega) (by simp; omega) ?_; intro v6 w6 x6; obtain ⟨g6, o6, c6, rfl, -⟩ := x6.now.somewhere (by omega); have bb6 := Lib.hid ((bb5.out.alloc zz5 _).trans (x6.below (Nat.le_refl _) (by simp; omega))); have X6 := Lib.hid x6; clear x6))
              exact ⟨⟨j + 1, m + 1 + 1, g6, o6, c6, true, by simp, by omega, by have := HMJ.out rfl; omega, (fun h => by cases h), ⟨by rw [HF1.out, List.length_append, List.length_append, ← HM2.out.1]; rfl, by rw [HF1.out]⟩, rfl, rfl, by rw [HF1.out, prc_app, prc_app]; exact X6.out.now, bb6.out⟩, by simp [intOf]; omega⟩
            · have hcp := lessF hxy
              have HF1 := Lib.hid (show insF x (O.take (j + 1)) = (false, F.2 ++ [y]) by rw [HSN.out]; unfold stepI; rw [← HM2.out.2, if_neg (by simp [hxy])])
              clear hxy
              go_wp2_with (at_builtin; go_loud (refine wpList_append_sl _ rfl _ _ 32 rfl W.heap.size 36 i0 (.agg #[.string ⟨#[]⟩, .string ⟨#[]⟩]) 2 32 Tryz.underlying32 Hi.out Hz.out Hs.out Hb.out rfl (by decide) _ (m) _ rfl ((HS3.out.alloc _).alloc _) ⟨W2.heap.size + 1, 0, none⟩ 1 1 [_, _] rfl rfl (two_cells1 _ _ _ _ _) (by simp [Value.oneCell']) (by unfold maxLen; omega) (by omega) (by simp; omega) ?_; intro v5 w5 x5; obtain ⟨g5, o5, c5, rfl, -⟩ := x5.now.somewhere (by omega); have bb5 := Lib.hid (((HB2.out.alloc hz2 _).alloc (by simp; omega) _).trans (x5.below (Nat.le_refl _) (by simp; omega))); have zz5 := bb5.out.size; have X5 := Lib.hid x5; clear x5))
              exact ⟨⟨j + 1, m + 1, g5, o5, c5, false, by simp, by omega, by omega, (fun _ => by have := HMJ.out rfl; omega), ⟨by rw [HF1.out, List.length_append, ← HM2.out.1]; rfl, by rw [HF1.out]⟩, rfl, rfl, by rw [HF1.out, prc_app]; exact X5.out.now, bb5.out⟩, by simp [intOf]; omega⟩
        · have hjx : ¬ (j : Int) < i := by omega
          have hall : O.take j = O := List.take_of_length_le (by have := HOL.out; omega)
          have hmd2 := HMD.out
          rw [hall] at hmd2 hs2
          have HM2 := Lib.hid hmd2
          have HS3 := Lib.hid hs2
          have HJ := Lib.hid (show j = i by omega)
          clear hall hmd2 hs2 hmd hb2 HS2
          cases d with
          | true =>
            have HF1 := Lib.hid (show (insF x O).2 = insS x O by have := HIS.out; rw [← HM2.out.2, if_pos rfl] at this; exact this)
            have HMI := Lib.hid (show m = i + 1 by rw [HM2.out.1, HF1.out, insS_len, HOL.out])
            go_wp2_with fail
            exact ⟨⟨i + 1, ng, no, nc, by simp, by omega, by rw [HMI.out], by rw [HST.out, ← HF1.out]; have := HS3.out.mono (base' := w.heap.size) hwW; rw [HMI.out] at this; exact this, BX.out.trans (HB2.out.mono hwW)⟩, by simp [intOf]; omega⟩
          | false =>
            have HF1 := Lib.hid (show (insF x O).2 ++ [x] = insS x O by have := HIS.out; rw [← HM2.out.2, if_neg (by simp)] at this; exact this)
            have HMI := Lib.hid (show m + 1 = i + 1 by have := congrArg List.length HF1.out; rw [List.length_append, ← HM2.out.1, insS_len, HOL.out] at this; exact this)
            go_wp2_with (at_builtin; go_loud (refine wpList_append_sl _ rfl _ _ 32 rfl W.heap.size 36 i0 (.agg #[.string ⟨#[]⟩, .string ⟨#[]⟩]) 2 32 Tryz.underlying32 Hi.out Hz.out Hs.out Hb.out rfl (by decide) _ m _ rfl (HS3.out.alloc _) ⟨W2.heap.size, 0, none⟩ 1 1 [_, _] rfl rfl (two_cells0 _ _ _ _) (by simp [Value.oneCell']) (by unfold maxLen; omega) (by omega) (by simp; omega) ?_; intro v5 w5 x5; obtain ⟨g5, o5, c5, rfl, -⟩ := x5.now.somewhere (by omega); have bb5 := Lib.hid ((HB2.out.alloc hz2 _).trans (x5.below (Nat.le_refl _) (by simp; omega))); have X5 := Lib.hid x5; clear x5))
            exact ⟨⟨i + 1, g5, o5, c5, by simp, by omega, by rw [HMI.out], by rw [HST.out, ← HF1.out, prc_app]; have := X5.out.now.mono (base' := w.heap.size) hwW; rw [HMI.out] at this; exact this, BX.out.trans (bb5.out.mono hwW)⟩, by simp [intOf]; omega⟩
    · have hil : ¬ (i : Int) < n := by omega
      have hin : i = n := by omega
      have he : ds.take i = ds := List.take_of_length_le (by have := HN.out; omega)
      rw [he] at hs
      have hf : Sl W0 w.heap.size 2 (.slice (some ⟨og, oo, none⟩) i oc) (sortS ds).length (prc (sortS ds)) := by rw [sortS_len, ← HN.out, ← hin]; exact hs
      have HF := Lib.hid hf
      clear he hs hf hin
      go_wp2
      go_ret
      exact ⟨_, rfl, HF.out, hb⟩
end Go.Proofs.YtefhnjepocbodaaGreatDoor
