/- Layer 6: unlike; the statement LabelAnyOrder walked. Layer 6: a pair, a set taken from bytes. Layer 6: a set taken from bytes. Layer 6: a key and a text come back. Plain maths. -/
import Derived.Test.YtefhnjepocbodaaGreatDoorMY3
import Derived.Deep.RegionHeld3
import Derived.Deep.QuietTactic
import Derived.BigQuiet
namespace Go.Proofs.YtefhnjepocbodaaGreatDoor
open Go.RowKit Go.Lib

/-- A truth, whichever. -/
def SomeB (w : World) (e : Ending) (w' : World) : Prop := ∃ b n, e = .returned (.bool b) ∧ w' = w.drewN n

theorem Sl.upto {w : World} {base size g off n cap : Nat} {xs : List Value} (h : Sl w base size (.slice (some ⟨g, off, none⟩) n cap) n xs) (i : Nat) (hi : i ≤ n) :
    Sl w base size (.slice (some ⟨g, off, none⟩) i cap) i (xs.take (i * size)) := by
  refine ⟨by rw [List.length_take, h.1]; exact Nat.min_eq_left (Nat.mul_le_mul_right _ hi), ?_⟩
  rcases h.2 with ⟨h0, _⟩ | ⟨g', off', cap', he, hb, hg, hnc, hcm, hf, hc⟩
  · cases h0
  · cases he
    refine .inr ⟨g, off, cap, rfl, hb, hg, by omega, hcm, hf, fun j hj => ?_⟩
    rw [List.getElem?_take, if_pos hj]
    exact hc j (Nat.lt_of_lt_of_le hj (Nat.mul_le_mul_right _ hi))
theorem Sl.from {w : World} {base size g off n cap : Nat} {xs : List Value} (h : Sl w base size (.slice (some ⟨g, off, none⟩) n cap) n xs) (i : Nat) (hi : i ≤ n) :
    Sl w base size (.slice (some ⟨g, off + i * size, none⟩) (n - i) (cap - i)) (n - i) (xs.drop (i * size)) := by
  refine ⟨by rw [List.length_drop, h.1, Nat.sub_mul], ?_⟩
  rcases h.2 with ⟨h0, _⟩ | ⟨g', off', cap', he, hb, hg, hnc, hcm, hf, hc⟩
  · cases h0
  · cases he
    refine .inr ⟨g, off + i * size, cap - i, rfl, hb, hg, by omega, by omega, fun j hj => ?_, fun j hj => ?_⟩
    · rw [Nat.add_assoc]
      rw [Nat.sub_mul] at hj
      exact hf _ (by have := Nat.mul_le_mul_right size (show i ≤ cap by omega); omega)
    · rw [Nat.add_assoc, List.getElem?_drop]
      rw [Nat.sub_mul] at hj
      exact hc _ (by have := Nat.mul_le_mul_right size hi; omega)

theorem prc_take : ∀ (ds : List Pr) (k : Nat), (prc ds).take (k * 2) = prc (ds.take k)
  | [], k => by simp [prc]
  | x :: ds, 0 => by simp [prc]
  | x :: ds, k + 1 => by
    rw [show (k + 1) * 2 = k * 2 + 1 + 1 by omega, prc_cons, List.take_succ_cons, prc_cons, ← prc_take ds k]
    rfl
theorem prc_drop : ∀ (ds : List Pr) (k : Nat), (prc ds).drop (k * 2) = prc (ds.drop k)
  | [], k => by simp [prc]
  | x :: ds, 0 => by simp
  | x :: ds, k + 1 => by
    rw [show (k + 1) * 2 = k * 2 + 1 + 1 by omega, prc_cons, List.drop_succ_cons, ← prc_drop ds k]
    rfl
theorem run_cutP (g off N k uc : Nat) (hk : k ≤ uc) (W : World) : (Instr.slice 47 (.slice (some ⟨g, off, none⟩) N uc) none (some (.int .i64 (k : Int))) none).run Tryz.prog W = .ok (.slice (some ⟨g, off, none⟩) k uc) W := by
  have hu := run_underlying Tryz.underlying47
  have hz := Tryz.sizeOf53
  have h1 : (0 : Int) ≤ k := by omega
  have h2 : (k : Int) ≤ uc := by omega
  simp [Instr.slice, Instr.sliceBounds, go_sem, hu, hz, h2, Addr.add]
theorem run_fromP (g off N k uc : Nat) (hk : k ≤ N) (hu' : k < uc) (W : World) : (Instr.slice 47 (.slice (some ⟨g, off, none⟩) N uc) (some (.int .i64 (k : Int))) none none).run Tryz.prog W = .ok (.slice (some ⟨g, off + k * 2, none⟩) (N - k) (uc - k)) W := by
  have hu := run_underlying Tryz.underlying47
  have hz := Tryz.sizeOf53
  have h1 : (0 : Int) ≤ k := by omega
  have h2 : (k : Int) ≤ N := by omega
  have h3 : ¬ uc = k := by omega
  simp [Instr.slice, Instr.sliceBounds, go_sem, hu, hz, h2, h3, Addr.add]
theorem run_tail (w : World) (base g off N k uc : Nat) (xs : List Value) (hk : k ≤ N) (hs : Sl w base 2 (.slice (some ⟨g, off, none⟩) N uc) N xs) :
    ∃ T, (∀ W, (Instr.slice 47 (.slice (some ⟨g, off, none⟩) N uc) (some (.int .i64 (k : Int))) none none).run Tryz.prog W = .ok (.slice (some ⟨g, T, none⟩) (N - k) (uc - k)) W) ∧ Sl w base 2 (.slice (some ⟨g, T, none⟩) (N - k) (uc - k)) (N - k) (xs.drop (k * 2)) := by
  have hnc : N ≤ uc := by
    rcases hs.2 with ⟨h0, _⟩ | ⟨_, _, _, he, _, _, h, _⟩
    · cases h0
    · cases he; exact h
  by_cases hku : k < uc
  · exact ⟨off + k * 2, fun W => run_fromP g off N k uc hk hku W, hs.from k hk⟩
  · have e1 : N - k = 0 := by omega
    have e2 : uc - k = 0 := by omega
    refine ⟨off, fun W => ?_, ?_⟩
    · have hu := run_underlying Tryz.underlying47
      have hz := Tryz.sizeOf53
      have h2 : (k : Int) ≤ N := by omega
      have h3 : uc = k := by omega
      simp [Instr.slice, Instr.sliceBounds, go_sem, hu, hz, h2, h3, Addr.add]
    · have h := hs.from k hk
      refine ⟨h.1, ?_⟩
      rcases h.2 with ⟨h0, _⟩ | ⟨g', off', cap', he, hb, hg, _, hcm, _, _⟩
      · cases h0
      · cases he
        exact .inr ⟨g, off, uc - k, rfl, hb, hg, by omega, hcm, fun j hj => by omega, fun j hj => by omega⟩
/-- 'append(v, x..)', x nil, in a region that draws its order. -/
theorem step_append_nil {P : Program} {ops : Array Oper} {o : Oper} {a : Act} {w : World} {K : Act → World → Prop} {Q : Exit → Act → World → Prop} {E : Prop} (hgd : o.guard = none) (s x : Operand) (t : TypeId)
    (ho : o.op = .call { callee := .builtin .append, args := #[s, x], argTypes := #[t, t] })
    (base : Nat) (e : TypeId) (i : TypeInfo) (size : Nat) (ht : P.underlying t = some (.slice e)) (hi : P.info? e = some i)
    (v : Value) (n : Nat) (xs : List Value) (hs : a.eval s = v) (hown : Sl w base size v n xs) (hx : a.eval x = .slice none 0 0)
    (h : K (a.put o.dst v) w) :
    if Region.wanted o (yielded ops a.tmps) = true then Oper.wp P o a w K Q else E := by
  have hw : Region.wanted o (yielded ops a.tmps) = true := by simp [Region.wanted, hgd]
  rw [if_pos hw]
  have hr := run_append_none_sl (P := P) w base t o.type e i size ht hi v n xs hown
  unfold Oper.wp execOp
  simp only [ho, resolve, invoke, builtin, Sem.run_bind, Sem.run_pure, Result.andThen_ok, List.map_toArray, List.map_cons, List.map_nil, hs, hx, hr]
  exact h
theorem run_nil1 (W : World) : (Instr.slice 47 (.slice none 0 0) (some (.int .i64 0)) none none).run Tryz.prog W = .ok (.slice none 0 0) W := by
  have hu := run_underlying Tryz.underlying47
  have hz := Tryz.sizeOf53
  simp [Instr.slice, Instr.sliceBounds, go_sem, hu, hz]
theorem run_nil2 (W : World) : (Instr.slice 47 (.slice none 0 0) none (some (.int .i64 0)) none).run Tryz.prog W = .ok (.slice none 0 0) W := by
  have hu := run_underlying Tryz.underlying47
  have hz := Tryz.sizeOf53
  simp [Instr.slice, Instr.sliceBounds, go_sem, hu, hz]

theorem made_same (a b : List Pr) (h : a.Perm b) : sortP a = sortP b := (sortP_of ((sortP_perm a).trans h) (sortP_rising a))

end Go.Proofs.YtefhnjepocbodaaGreatDoor

namespace Go.Proofs.YtefhnjepocbodaaGreatDoor
open Go.RowKit Go.Lib

/-- The pair at the beginning of bytes, what is left, the error. -/
def tkP (l : List UInt8) : Pr × List UInt8 × Nat :=
  if (Leb.takeT l 40).2.2 ≠ 0 then (⟨[], []⟩, [], (Leb.takeT l 40).2.2)
  else if (Leb.takeT (Leb.takeT l 40).2.1 40).2.2 ≠ 0 then (⟨[], []⟩, [], (Leb.takeT (Leb.takeT l 40).2.1 40).2.2)
  else (⟨(Leb.takeT l 40).1, (Leb.takeT (Leb.takeT l 40).2.1 40).1⟩, (Leb.takeT (Leb.takeT l 40).2.1 40).2.1, 0)
def TakenP (w : World) (r : Pr × List UInt8 × Nat) (e : Ending) (w' : World) : Prop := e = .returned (.tuple #[prV r.1, .string (bs r.2.1), .int .i64 r.2.2]) ∧ Below w.heap.size w w'

theorem takeT_left (l : List UInt8) (most : Int) : (Leb.takeT l most).2.1.length ≤ l.length := by
  unfold Leb.takeT
  split
  · simp
  · split
    · simp
    · have : (Leb.takeM l most).2.1.length ≤ l.length := by
        unfold Leb.takeM
        split
        · simp
        · split
          · simp
          · exact Leb.dec_left l 0 0
      simp only [List.length_drop]
      omega

theorem box2 (w : World) (x y a b : Value) (t : TypeId) (k : Nat) :
    ((((w.alloc (.cells #[x, y] t)).drewN k).setCell ⟨w.heap.size, 0, none⟩ a).setCell ⟨w.heap.size, 1, none⟩ b).cell? ⟨w.heap.size, 0, none⟩ = some a ∧
    ((((w.alloc (.cells #[x, y] t)).drewN k).setCell ⟨w.heap.size, 0, none⟩ a).setCell ⟨w.heap.size, 1, none⟩ b).cell? ⟨w.heap.size, 1, none⟩ = some b ∧
    Below w.heap.size w ((((w.alloc (.cells #[x, y] t)).drewN k).setCell ⟨w.heap.size, 0, none⟩ a).setCell ⟨w.heap.size, 1, none⟩ b) := by
  have hh : ((w.alloc (.cells #[x, y] t)).drewN k).heap[w.heap.size]? = some (.cells #[x, y] t) := by rw [World.heap_drewN]; exact heap_alloc_new w _
  have c0 : ((w.alloc (.cells #[x, y] t)).drewN k).cell? ⟨w.heap.size, 0, none⟩ = some x := by rw [Lib.cell_of_heap hh]; rfl
  have c1 : ((w.alloc (.cells #[x, y] t)).drewN k).cell? ⟨w.heap.size, 1, none⟩ = some y := by rw [Lib.cell_of_heap hh]; rfl
  refine ⟨?_, ?_, ?_⟩
  · rw [cell_setCell_other _ _ _ _ _ (.inr (by simp))]
    exact cell_setCell_same _ _ _ _ (by rw [c0]; rfl)
  · exact cell_setCell_same _ _ _ _ (by rw [cell_setCell_other _ _ _ _ _ (.inr (by simp)), c1]; rfl)
  · exact (((below_draw ((Below.refl _ _).alloc (Nat.le_refl _) _) _).setCell (Nat.le_refl _) _).setCell (Nat.le_refl _) _)

end Go.Proofs.YtefhnjepocbodaaGreatDoor

namespace Go.Proofs.YtefhnjepocbodaaGreatDoor
open Go.RowKit Go.Lib

/-- So many pairs at the beginning of bytes. -/
def tkN : Nat → List UInt8 → List Pr × List UInt8 × Nat
  | 0, l => ([], l, 0)
  | n + 1, l => if (tkP l).2.2 ≠ 0 then ([], [], (tkP l).2.2) else
    if (tkN n (tkP l).2.1).2.2 ≠ 0 then ([], [], (tkN n (tkP l).2.1).2.2) else ((tkP l).1 :: (tkN n (tkP l).2.1).1, (tkN n (tkP l).2.1).2.1, 0)
/-- Pairs ahead of what is still taken. -/
def glue (ds : List Pr) (q : List Pr × List UInt8 × Nat) : List Pr × List UInt8 × Nat := if q.2.2 ≠ 0 then ([], [], q.2.2) else (ds ++ q.1, q.2.1, 0)
theorem glue_step (ds : List Pr) (n : Nat) (l r : List UInt8) (x : Pr) (h : tkP l = (x, r, 0)) : glue ds (tkN (n + 1) l) = glue (ds ++ [x]) (tkN n r) := by
  simp only [tkN, h, glue]
  by_cases hq : (tkN n r).2.2 = 0 <;> simp [hq]
theorem glue_bad (ds : List Pr) (n : Nat) (l r : List UInt8) (x : Pr) (e : Nat) (h : tkP l = (x, r, e)) (he : e ≠ 0) : glue ds (tkN (n + 1) l) = ([], [], e) := by
  simp [tkN, h, glue, he]
theorem glue_end (ds : List Pr) (l : List UInt8) : glue ds (tkN 0 l) = (ds, l, 0) := by simp [glue, tkN]
/-- The set at the beginning of bytes. -/
def tkS (s : List UInt8) : List Pr × List UInt8 × Nat :=
  if (Leb.takeM s 8).2.2 ≠ 0 then ([], [], (Leb.takeM s 8).2.2)
  else if (glue [] (tkN (Leb.takeM s 8).1 (Leb.takeM s 8).2.1)).2.2 ≠ 0 then ([], [], (glue [] (tkN (Leb.takeM s 8).1 (Leb.takeM s 8).2.1)).2.2)
  else if chk (glue [] (tkN (Leb.takeM s 8).1 (Leb.takeM s 8).2.1)).1 = true then glue [] (tkN (Leb.takeM s 8).1 (Leb.takeM s 8).2.1) else ([], [], 3)
def TookP (w : World) (r : List Pr × List UInt8 × Nat) (e : Ending) (w' : World) : Prop :=
  ∃ v, e = .returned (.tuple #[v, .string (bs r.2.1), .int .i64 r.2.2]) ∧ Below w.heap.size w w' ∧ (r.2.2 ≠ 0 → v = .slice none 0 0) ∧ (r.2.2 = 0 → Sl w' w.heap.size 2 v r.1.length (prc r.1))

theorem tkP_left (l : List UInt8) : (tkP l).2.1.length ≤ l.length := by
  have h1 := takeT_left l 40
  have h2 := takeT_left (Leb.takeT l 40).2.1 40
  unfold tkP
  split
  · simp
  · split
    · simp
    · simp only; omega

/-- 'make([]Pair, n)'. -/
theorem run_mkset (W : World) (n : Nat) (hn : n ≤ 8) : ∃ w', (Instr.makeSlice 51 (.int .i64 n) (.int .i64 n)).run Tryz.prog W = .ok (.slice (some ⟨W.heap.size, 0, none⟩) n n) w' ∧
    w'.heap.size = W.heap.size + 1 ∧ Below W.heap.size W w' ∧ Sl w' W.heap.size 2 (.slice (some ⟨W.heap.size, 0, none⟩) 0 n) 0 [] := by
  obtain ⟨i0, hi, hz0, hz1, hz2⟩ := info_parts zc_pair
  have hr := run_make (P := Tryz.prog) W 51 53 i0 _ Tryz.underlying51 hi hz0 .i64 .i64 n n (by omega) (by omega) (by rw [hz2]; omega) (by omega)
  rw [Int.toNat_natCast] at hr
  have hown := World.ownsRow_made (e := 53) (size := 2) W (madeCells (Value.agg #[.string ⟨#[]⟩, .string ⟨#[]⟩]).cells (n * 2)) n (Nat.le_refl _) (by unfold maxLen; omega) (by rw [size_madeCells])
  rw [hz1] at hr
  have hs := Sl.of_owns hown
  refine ⟨_, hr, by simp, (Below.refl _ _).alloc (Nat.le_refl _) _, hs⟩

theorem free_sl {w : World} {base size g n c : Nat} {xs : List Value} (h : Sl w base size (.slice (some ⟨g, 0, none⟩) n c) n xs) (j : Nat) (hj : j < c * size) : ∃ y, w.cell? ⟨g, j, none⟩ = some y ∧ w.frozen? ⟨g, j, none⟩ = false := by
  rcases h.2 with ⟨h, _⟩ | ⟨g', off', cap', he, _, _, _, _, h5, _⟩
  · cases h
  · cases he
    obtain ⟨p, q⟩ := h5 j hj
    rw [Nat.zero_add] at p q
    obtain ⟨y, hy⟩ := Option.isSome_iff_exists.1 p
    exact ⟨y, hy, q⟩
end Go.Proofs.YtefhnjepocbodaaGreatDoor

namespace Go.Proofs.YtefhnjepocbodaaGreatDoor
open Go.RowKit Go.Lib

theorem tkP_enc (x : Pr) (r : List UInt8) (h1 : x.n.length ≤ 40) (h2 : x.v.length ≤ 40) : tkP (keyP x ++ r) = (x, r, 0) := by
  have e1 := Leb.takeT_enc x.n (Leb.encT x.v ++ r) 40 (by omega) (by unfold Leb.two64; omega)
  have e2 := Leb.takeT_enc x.v r 40 (by omega) (by unfold Leb.two64; omega)
  unfold tkP keyP
  rw [List.append_assoc, e1]
  simp only [ne_eq, not_true, if_false, e2]
theorem tkN_enc : ∀ (ds : List Pr) (t : List UInt8), (∀ x ∈ ds, x.n.length ≤ 40 ∧ x.v.length ≤ 40) → tkN ds.length (ds.flatMap keyP ++ t) = (ds, t, 0)
  | [], t, _ => rfl
  | x :: ds, t, h => by
    have ih := tkN_enc ds t (fun y hy => h y (by simp [hy]))
    obtain ⟨h1, h2⟩ := h x (by simp)
    rw [List.length_cons, List.flatMap_cons, List.append_assoc]
    simp only [tkN, tkP_enc x _ h1 h2, ih, ne_eq, not_true, if_false]
theorem chkR_mem : ∀ (l : List Pr) (o : Option (List UInt8)), chkR o l = true → ∀ x ∈ l, nameB x.n = true ∧ valB x.v = true
  | [], _, _, x, hx => by simp at hx
  | p :: l, o, h, x, hx => by
    rw [chkR_cons] at h
    simp only [Bool.and_eq_true] at h
    rcases List.mem_cons.1 hx with rfl | hx
    · exact ⟨h.1, h.2.1⟩
    · exact chkR_mem l _ h.2.2.2 x hx
theorem chkR_ahead : ∀ (l : List Pr) (q : List UInt8), chkR (some q) l = true → ∀ x ∈ l, q < x.n
  | [], _, _, x, hx => by simp at hx
  | p :: l, q, h, x, hx => by
    rw [chkR_cons] at h
    simp only [Bool.and_eq_true, aheadB, decide_eq_true_eq] at h
    rcases List.mem_cons.1 hx with rfl | hx
    · exact h.2.2.1
    · exact List.lt_trans h.2.2.1 (chkR_ahead l _ h.2.2.2 x hx)
theorem chkR_rising : ∀ (l : List Pr) (o : Option (List UInt8)), chkR o l = true → l.Pairwise fun x y => x.n < y.n
  | [], _, _ => List.Pairwise.nil
  | p :: l, o, h => by
    rw [chkR_cons] at h
    simp only [Bool.and_eq_true] at h
    exact List.pairwise_cons.2 ⟨fun y hy => chkR_ahead l _ h.2.2.2 y hy, chkR_rising l _ h.2.2.2⟩
theorem chk_parts {ds : List Pr} (h : chk ds = true) : 1 ≤ ds.length ∧ ds.length ≤ 8 ∧ chkR none ds = true := by
  unfold chk at h
  simp only [Bool.and_eq_true, decide_eq_true_eq] at h
  exact h
theorem nameB_len {l : List UInt8} (h : nameB l = true) : l.length ≤ 40 := by
  cases l with
  | nil => simp
  | cons c l => simp only [nameB, Bool.and_eq_true, decide_eq_true_eq] at h; simpa using h.1
theorem valB_len {l : List UInt8} (h : valB l = true) : l.length ≤ 40 := by
  simp only [valB, Bool.and_eq_true, decide_eq_true_eq] at h; exact h.2
theorem nameB_all {l : List UInt8} (h : nameB l = true) : ∀ c ∈ l, (begB c || digB c) = true := by
  cases l with
  | nil => simp
  | cons c l =>
    simp only [nameB, Bool.and_eq_true, List.all_eq_true] at h
    intro d hd
    rcases List.mem_cons.1 hd with rfl | hd
    · simp [h.2.1]
    · exact h.2.2 d hd
theorem nameB_not {l : List UInt8} (h : nameB l = true) : 61 ∉ l ∧ 44 ∉ l := by
  have := nameB_all h
  exact ⟨fun hm => by have := this 61 hm; revert this; decide, fun hm => by have := this 44 hm; revert this; decide⟩
/-- The key comes back. -/
theorem tkS_key (ds : List Pr) (t : List UInt8) (h : chk ds = true) : tkS (keyL ds ++ t) = (ds, t, 0) := by
  obtain ⟨h1, h2, h3⟩ := chk_parts h
  have hN := tkN_enc ds t (fun x hx => by obtain ⟨a, b⟩ := chkR_mem ds _ h3 x hx; exact ⟨nameB_len a, valB_len b⟩)
  have hU := Leb.takeU_enc ds.length (by unfold Leb.two64; omega) (ds.flatMap keyP ++ t)
  have hM := Leb.takeM_ok (most := 8) hU (by omega)
  unfold tkS keyL
  rw [List.append_assoc, hM]
  simp only [ne_eq, not_true, if_false, hN, glue, List.nil_append, h, if_true]
theorem sortP_chk (ds : List Pr) (h : chk ds = true) : sortP ds = ds := by
  refine (sortP_of (List.Perm.refl ds) ?_).symm
  refine (chkR_rising ds _ (chk_parts h).2.2).imp ?_
  intro x y hxy hyx
  rcases hyx with h' | ⟨h', _⟩
  · exact absurd (List.lt_trans hxy h') (List.lt_irrefl _)
  · rw [h'] at hxy; exact absurd hxy (List.lt_irrefl _)
theorem index_at (a : List UInt8) (c : UInt8) (b : List UInt8) (h : c ∉ a) : Lib.indexByte (a ++ c :: b) c = a.length := by
  induction a with
  | nil => simp [Lib.indexByte]
  | cons x a ih =>
    have hx : ¬ x = c := fun e => h (by simp [e])
    have ih := ih (fun e => h (by simp [e]))
    rw [List.cons_append, Lib.indexByte, ih, if_neg (by simpa using hx), if_neg (by simp)]
    simp
theorem cutP_pair (p : Pr) (h : 61 ∉ p.n) : cutP (pairT p) = some p := by
  have hi := index_at p.n 61 p.v h
  unfold cutP pairT cutL
  rw [if_pos (by simp), hi]
  simp
theorem pairs_txt : ∀ (ds : List Pr) (p : Pr), (∀ x ∈ p :: ds, 61 ∉ x.n ∧ 44 ∉ x.n ∧ 44 ∉ x.v) → pairsL (parts 44 (txt (p :: ds))) = some (p :: ds)
  | [], p, h => by
    obtain ⟨h1, h2, h3⟩ := h p (by simp)
    have hn : 44 ∉ pairT p := by unfold pairT; simp [h2, h3]
    simp only [txt, txtR, List.append_nil]
    rw [parts_none _ _ hn]
    simp [pairsL, cutP_pair p h1]
  | q :: ds, p, h => by
    obtain ⟨h1, h2, h3⟩ := h p (by simp)
    have hn : 44 ∉ pairT p := by unfold pairT; simp [h2, h3]
    have ih := pairs_txt ds q (fun x hx => h x (by simp at hx ⊢; right; exact hx))
    have e : txt (p :: q :: ds) = pairT p ++ 44 :: txt (q :: ds) := by simp [txt, txtR]
    rw [e, parts_app _ _ _ hn]
    simp only [pairsL, cutP_pair p h1, ih]
end Go.Proofs.YtefhnjepocbodaaGreatDoor
