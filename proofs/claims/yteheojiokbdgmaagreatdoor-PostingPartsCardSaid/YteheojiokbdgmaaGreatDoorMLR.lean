/- Layer 6: the document's order of pairs, in plain words. Layer 6: the document's own pairs: Told, Compare; the statement LabelCompares walked. -/
import Derived.Test.YteheojiokbdgmaaGreatDoorMLI
import Derived.Test.YteheojiokbdgmaaGreatDoorMLK
import Derived.Test.YteheojiokbdgmaaGreatDoorMLD
import Derived.Laws.StructEq
namespace Go.Proofs.YteheojiokbdgmaaGreatDoor
open Go.RowKit Go.Lib

/-- Ahead of the first one of a greater name. -/
def insS (p : Pr) : List Pr → List Pr
  | [] => [p]
  | q :: r => if p.n < q.n then p :: q :: r else q :: insS p r
def sortS (ds : List Pr) : List Pr := ds.foldl (fun out p => insS p out) []
theorem sortS_snoc (ds : List Pr) (p : Pr) : sortS (ds ++ [p]) = insS p (sortS ds) := by simp [sortS, List.foldl_append]
theorem insS_perm (p : Pr) : ∀ l, (insS p l).Perm (p :: l)
  | [] => List.Perm.refl _
  | q :: r => by
    unfold insS
    split
    · exact List.Perm.refl _
    · exact ((insS_perm p r).cons q).trans (List.Perm.swap p q r)
theorem insS_len (p : Pr) (l : List Pr) : (insS p l).length = l.length + 1 := (insS_perm p l).length_eq
theorem sortS_go : ∀ (ds acc : List Pr), (ds.foldl (fun out p => insS p out) acc).Perm (acc ++ ds)
  | [], acc => by simp
  | p :: r, acc => by
    rw [List.foldl_cons]
    refine (sortS_go r (insS p acc)).trans ?_
    exact ((insS_perm p acc).append_right r).trans (List.perm_middle.symm)
theorem sortS_perm (ds : List Pr) : (sortS ds).Perm ds := by simpa [sortS] using sortS_go ds []
theorem sortS_len (ds : List Pr) : (sortS ds).length = ds.length := (sortS_perm ds).length_eq
/-- No name falls. -/
def NameUp (l : List Pr) : Prop := l.Pairwise fun x y => ¬ y.n < x.n
theorem insS_mem (p : Pr) (l : List Pr) (y : Pr) (h : y ∈ insS p l) : y = p ∨ y ∈ l := by
  have := (insS_perm p l).subset h
  simpa using this
theorem insS_up (p : Pr) : ∀ l, NameUp l → NameUp (insS p l)
  | [], _ => by simp [insS, NameUp]
  | q :: r, h => by
    obtain ⟨h1, h2⟩ := List.pairwise_cons.1 h
    unfold insS
    split
    · rename_i hlt
      refine List.pairwise_cons.2 ⟨fun y hy hyp => ?_, h⟩
      rcases List.mem_cons.1 hy with rfl | hy
      · exact bytes_lt_irrefl _ (bytes_lt_trans hyp hlt)
      · exact h1 y hy (bytes_lt_trans hyp hlt)
    · rename_i hlt
      refine List.pairwise_cons.2 ⟨fun y hy => ?_, insS_up p r h2⟩
      rcases insS_mem p r y hy with rfl | hy
      · exact hlt
      · exact h1 y hy
theorem sortS_upgo : ∀ (ds acc : List Pr), NameUp acc → NameUp (ds.foldl (fun out p => insS p out) acc)
  | [], _, h => h
  | p :: r, acc, h => by rw [List.foldl_cons]; exact sortS_upgo r _ (insS_up p acc h)
theorem sortS_up (ds : List Pr) : NameUp (sortS ds) := sortS_upgo ds [] List.Pairwise.nil
/-- Each name once. -/
def Diff (l : List Pr) : Prop := l.Pairwise fun x y => x.n ≠ y.n
theorem Diff.perm {a b : List Pr} (h : Diff a) (p : a.Perm b) : Diff b := (p.pairwise_iff fun h => Ne.symm h).1 h
theorem sortS_diff (ds : List Pr) (h : Diff ds) : sortS ds = sortP ds := by
  refine sorted_unique _ _ ((sortS_perm ds).trans (sortP_perm ds).symm) ?_ (sortP_rising ds)
  have h1 := h.perm (sortS_perm ds).symm
  have h2 := sortS_up ds
  refine List.Pairwise.imp₂ (fun x y (hd : x.n ≠ y.n) (hu : ¬ y.n < x.n) => ?_) h1 h2
  rintro (hl | ⟨hl, _⟩)
  · exact hu hl
  · exact hd hl.symm
theorem chk_diff {l : List Pr} (h : chk l = true) : Diff l :=
  (chkR_rising l none (chk_parts h).2.2).imp fun hlt e => by rw [e] at hlt; exact bytes_lt_irrefl _ hlt
theorem chk_sortS (ds : List Pr) : chk (sortS ds) = chk (sortP ds) := by
  cases h1 : chk (sortS ds)
  · cases h2 : chk (sortP ds)
    · rfl
    · rw [sortS_diff ds ((chk_diff h2).perm (sortP_perm ds)), h2] at h1
      cases h1
  · rw [← sortS_diff ds ((chk_diff h1).perm (sortS_perm ds)), h1]

/-- The loop that puts one more in: is it in, what is laid out. -/
def stepI (p : Pr) (r : Bool × List Pr) (q : Pr) : Bool × List Pr := if r.1 = false ∧ p.n < q.n then (true, r.2 ++ [p, q]) else (r.1, r.2 ++ [q])
def insF (p : Pr) (l : List Pr) : Bool × List Pr := l.foldl (stepI p) (false, [])
theorem insF_snoc (p : Pr) (l : List Pr) (q : Pr) : insF p (l ++ [q]) = stepI p (insF p l) q := by simp [insF, List.foldl_append]
theorem insF_in (p : Pr) : ∀ (l acc : List Pr), l.foldl (stepI p) (true, acc) = (true, acc ++ l)
  | [], acc => by simp
  | q :: r, acc => by rw [List.foldl_cons, stepI, if_neg (by simp), insF_in p r]; simp
theorem insF_go (p : Pr) : ∀ (l acc : List Pr), (if (l.foldl (stepI p) (false, acc)).1 = true then (l.foldl (stepI p) (false, acc)).2 else (l.foldl (stepI p) (false, acc)).2 ++ [p]) = acc ++ insS p l
  | [], acc => by simp [insS]
  | q :: r, acc => by
    rw [List.foldl_cons]
    by_cases h : p.n < q.n
    · have e : stepI p (false, acc) q = (true, acc ++ [p, q]) := by unfold stepI; rw [if_pos ⟨rfl, h⟩]
      rw [e, insF_in p r, insS, if_pos h]; simp
    · have e : stepI p (false, acc) q = (false, acc ++ [q]) := by unfold stepI; rw [if_neg (by simp [h])]
      rw [e, insF_go p r, insS, if_neg h]; simp
theorem insF_is (p : Pr) (l : List Pr) : (if (insF p l).1 = true then (insF p l).2 else (insF p l).2 ++ [p]) = insS p l := by
  have h := insF_go p l []
  rw [List.nil_append] at h
  exact h
theorem insF_len (p : Pr) (l : List Pr) : (insF p l).2.length ≤ l.length + 1 := by
  have h := congrArg List.length (insF_is p l)
  rw [insS_len] at h
  split at h
  · omega
  · rw [List.length_append] at h; omega
end Go.Proofs.YteheojiokbdgmaaGreatDoor

namespace Go.Proofs.YteheojiokbdgmaaGreatDoor
open Go.RowKit Go.Lib

theorem zc_rpair : (Tryz.prog.info? 34).map (fun i => (i.zero, i.size, i.bytes)) = some (some (.agg #[.string ⟨#[]⟩, .string ⟨#[]⟩]), 2, 32) := by kernel_rfl

set_option maxHeartbeats 2000000 in
set_option maxRecDepth 100000 in
theorem told_any (v : Value) (ds : List Pr) (w : World) (h : Rd w 2 v ds.length (prc ds)) (hm : ds.length ≤ 1000000) :
    Calls Tryz.prog 19 #[v] w (NewP w ds) := by
  obtain ⟨i0, hi, hz0, hz1, hz2⟩ := info_parts zc_rpair
  have Hz := Lib.hid hz0; have Hs := Lib.hid hz1; have Hb := Lib.hid hz2; have Hi := Lib.hid hi
  clear hz0 hz1 hz2 hi
  obtain ⟨_, a, cap, g, off, rfl, hg, hc⟩ := h
  obtain ⟨n, hn⟩ : ∃ n, n = ds.length := ⟨_, rfl⟩
  rw [← hn] at hg hc hm
  have HN := Lib.hid hn
  have HC := Lib.hid hc
  have HG := Lib.hid hg
  rw [← hn]
  clear hn hc hg
  go_enter Tryz.func19, Tryz.ntmps19
  go_wp2_with fail
  go_loopw [3, 9] (fun o' i' wr => ∃ (i : Nat), i' = .int .i64 i ∧ i ≤ n ∧ Sl wr w.heap.size 2 o' i (prc (ds.take i)) ∧ Below w.heap.size w wr) (fun _ i' _ => n - (intOf i').toNat)
  case atStart => exact ⟨0, rfl, by omega, Sl.lit w w.heap.size 2 0 #[] _ (Nat.le_refl _) (by decide) rfl, (Below.refl _ _).alloc (Nat.le_refl _) _⟩
  case round =>
    obtain ⟨i, rfl, hi, hown, hb⟩ := hrel
    have hbz := hb.size
    by_cases hlt : i < n
    · obtain ⟨rfl, hgl⟩ := HG.out (by omega)
      obtain ⟨x, hx⟩ : ∃ x, ds[i]? = some x := ⟨ds[i]'(by have := HN.out; omega), List.getElem?_eq_getElem (by have := HN.out; omega)⟩
      obtain ⟨v0, v1⟩ := prc_at ds i x hx
      have q0 := ((hb.cell (p := ⟨g, off + i * 2, none⟩) hgl).trans (HC.out (i * 2) (by omega))).trans v0
      have q1 := ((hb.cell (p := ⟨g, off + (i * 2 + 1), none⟩) hgl).trans (HC.out (i * 2 + 1) (by omega))).trans v1
      rw [← Nat.add_assoc] at q1
      have hgw : g ≠ wr.heap.size := by omega
      have hil : (i : Int) < n := by omega
      have ht := Lib.hid (show ds.take (i + 1) = ds.take i ++ [x] by rw [List.take_add_one, hx]; rfl)
      have n1 : i + 1 ≤ maxLen := by unfold maxLen; omega
      have n2 : (i + 1) * 32 ≤ 140737488355328 := by omega
      obtain ⟨oa, oc, rfl⟩ := hown.slice
      obtain ⟨Y, hY⟩ : ∃ Y, Y = (wr.alloc (.cells #[.string (bs x.n), .string (bs x.v)] 58)).alloc (.cells #[.string (bs x.n), .string (bs x.v)] 34) := ⟨_, rfl⟩
      have hownY : Sl Y w.heap.size 2 (.slice oa i oc) i (prc (ds.take i)) := by rw [hY]; exact (hown.alloc _).alloc _
      have hlit : ∀ j u, [Value.string (bs x.n), .string (bs x.v)][j]? = some u → Y.cell? ((⟨wr.heap.size + 1, 0, none⟩ : Addr).add j) = some u := by
        have := (Sl.lit (wr.alloc (.cells #[.string (bs x.n), .string (bs x.v)] 58)) 0 2 1 #[.string (bs x.n), .string (bs x.v)] 34 (Nat.zero_le _) (by decide) rfl).cells
        rw [World.size_alloc] at this
        rw [hY]; exact this
      have hbY : w.heap.size ≤ Y.heap.size := by rw [hY]; simp; omega
      have hbelY : Below w.heap.size w Y := by rw [hY]; exact (hb.alloc hbz _).alloc (by simp; omega) _
      have HY := Lib.hid hY
      clear v0 v1 hx hY
      go_wp2_with (at_builtin; rw [← HY.out]; refine wpList_append_sl _ rfl _ _ 29 rfl w.heap.size 34 i0 (.agg #[.string ⟨#[]⟩, .string ⟨#[]⟩]) 2 32 Tryz.underlying29 Hi.out Hz.out Hs.out Hb.out rfl (by decide) _ i _ rfl hownY ⟨wr.heap.size + 1, 0, none⟩ 1 1 [.string (bs x.n), .string (bs x.v)] rfl rfl hlit (prc_one [x]) n1 n2 hbY ?_; intro v' w3 hx3)
      refine ⟨⟨i + 1, by simp, by omega, ?_, hbelY.trans (hx3.below (Nat.le_refl _) hbY)⟩, by simp [intOf]; omega⟩
      rw [ht.out, prc_append]
      exact hx3.now
    · have hin : i = n := by omega
      subst hin
      have he : ds.take i = ds := List.take_of_length_le (by have := HN.out; omega)
      rw [he] at hown
      clear he
      obtain ⟨oa, oc, rfl⟩ := hown.slice
      have hil : ¬ (i : Int) < i := by omega
      have HO := Lib.hid hown
      clear hown
      go_wp2
      go_ret
      exact ⟨_, rfl, by rw [← HN.out]; exact HO.out, hb⟩

theorem neq_rp (x y : Pr) (w : World) : (binOp BinOp.neq 34 (.agg #[.string (bs x.n), .string (bs x.v)]) (.agg #[.string (bs y.n), .string (bs y.v)])).run Tryz.prog w = .ok (.bool (!decide (x = y))) w := by
  have u9 := Tryz.underlying9
  have a9 := Tryz.isAgg9
  have z9 := Tryz.sizeOf9
  have hT := bs_toList
  rw [run_neq_struct, show (10000 : Nat) = 9999 + 1 from rfl, run_equalIn_agg w 9999 34 _ _ (by kernel_rfl) (by kernel_rfl)]
  simp only [Program.fieldsOf, Tryz.underlying34]
  go_simp
  cases x; cases y
  rename_i xn xv yn yv
  by_cases h1 : xn = yn <;> by_cases h2 : xv = yv <;> simp [h1, h2]
end Go.Proofs.YteheojiokbdgmaaGreatDoor
