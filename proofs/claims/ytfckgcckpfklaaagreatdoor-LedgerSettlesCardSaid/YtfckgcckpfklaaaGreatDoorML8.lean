/- Layer 6: Parse. -/
import Derived.Test.YtfckgcckpfklaaaGreatDoorML5
import Derived.Test.YtfckgcckpfklaaaGreatDoorMRng
namespace Go.Proofs.YtfckgcckpfklaaaGreatDoor
open Go.RowKit Go.Lib
attribute [local go_sem] Oper.semAt_some

/-- A part as a pair. -/
def cutP (p : List UInt8) : Option Pr := match cutL p 61 with
  | some (a, b) => some ⟨a, b⟩
  | none => none
def pairsL : List (List UInt8) → Option (List Pr)
  | [] => some []
  | p :: ps => match cutP p, pairsL ps with
    | some x, some xs => some (x :: xs)
    | _, _ => none
theorem pairsL_snoc (ps : List (List UInt8)) (p : List UInt8) : pairsL (ps ++ [p]) = match pairsL ps, cutP p with
    | some xs, some x => some (xs ++ [x])
    | _, _ => none := by
  induction ps with
  | nil => simp only [List.nil_append, pairsL]; cases cutP p <;> rfl
  | cons q ps ih =>
    simp only [List.cons_append, pairsL, ih]
    cases cutP q <;> cases pairsL ps <;> cases cutP p <;> rfl
theorem pairsL_bad (ps : List (List UInt8)) (p : List UInt8) (t : List (List UInt8)) (h : cutP p = none) : pairsL (ps ++ p :: t) = none := by
  induction ps with
  | nil => simp only [List.nil_append, pairsL, h]
  | cons q ps ih =>
    simp only [List.cons_append, pairsL, ih]
    cases cutP q <;> rfl

theorem seq0_any (s sep : ByteArray) (w : World) : Calls Tryz.prog 85 #[.string s, .string sep, .int .i64 0] w fun e w' =>
    e = .returned (.func (.func 100) #[] #[.pointer (some ⟨w.heap.size + 1, 0, none⟩), .pointer (some ⟨w.heap.size, 0, none⟩), .pointer (some ⟨w.heap.size + 2, 0, none⟩)]) ∧
    w' = ((w.alloc (.cells #[.string s] 9)).alloc (.cells #[.string sep] 9)).alloc (.cells #[.int .i64 0] 3) := by
  go_enter Tryz.func85, Tryz.ntmps85
  go_wp2
  go_ret
  exact ⟨rfl, rfl⟩
theorem seq_any (s sep : ByteArray) (w : World) : Calls Tryz.prog 59 #[.string s, .string sep] w fun e w' =>
    e = .returned (.func (.func 100) #[] #[.pointer (some ⟨w.heap.size + 1, 0, none⟩), .pointer (some ⟨w.heap.size, 0, none⟩), .pointer (some ⟨w.heap.size + 2, 0, none⟩)]) ∧
    w' = ((w.alloc (.cells #[.string s] 9)).alloc (.cells #[.string sep] 9)).alloc (.cells #[.int .i64 0] 3) := by
  go_enter Tryz.func59, Tryz.ntmps59
  go_wp2_with fail
  refine (seq0_any _ _ _).mono ?_
  rintro e w1 ⟨rfl, rfl⟩
  go_wp2
  go_ret
  exact ⟨rfl, rfl⟩

def ParsedP (w : World) (s : List UInt8) (e : Ending) (w' : World) : Prop := ∃ v er, e = .returned (.tuple #[v, .int .i64 er]) ∧ Below w.heap.size w w' ∧
  match pairsL (parts 44 s) with
  | none => v = .slice none 0 0 ∧ er = 3
  | some ds => if chk (sortP ds) = true then er = 0 ∧ Sl w' w.heap.size 2 v (sortP ds).length (prc (sortP ds)) else v = .slice none 0 0 ∧ er = 12

theorem alloc_get (w : World) (o : Obj) (k : Nat) : (w.alloc o).heap[k]? = if k = w.heap.size then some o else w.heap[k]? := by
  show (w.heap.push o)[k]? = _
  rw [Array.getElem?_push]

theorem heap6 (w : World) (o0 o1 o2 o3 o4 o5 : Obj) : ((((((w.alloc o0).alloc o1).alloc o2).alloc o3).alloc o4).alloc o5).heap[w.heap.size]? = some o0 ∧ ((((((w.alloc o0).alloc o1).alloc o2).alloc o3).alloc o4).alloc o5).heap[w.heap.size + 1]? = some o1 ∧ ((((((w.alloc o0).alloc o1).alloc o2).alloc o3).alloc o4).alloc o5).heap[w.heap.size + 2]? = some o2 ∧ ((((((w.alloc o0).alloc o1).alloc o2).alloc o3).alloc o4).alloc o5).heap[w.heap.size + 3]? = some o3 ∧ ((((((w.alloc o0).alloc o1).alloc o2).alloc o3).alloc o4).alloc o5).heap[w.heap.size + 4]? = some o4 ∧ ((((((w.alloc o0).alloc o1).alloc o2).alloc o3).alloc o4).alloc o5).heap[w.heap.size + 5]? = some o5 := by
  simp only [alloc_get, World.size_alloc]
  refine ⟨?_, ?_, ?_, ?_, ?_, ?_⟩ <;> repeat (first | exact if_pos trivial | rw [if_neg (by omega)] | rw [if_pos (by omega)])

/-- Parse's own cells between two rounds. -/
def ParI (w : World) (pre : List (List UInt8)) (W : World) : Prop :=
  ∃ ds v, pairsL pre = some ds ∧ ds.length = pre.length ∧ Sl W (w.heap.size + 8) 2 v ds.length (prc ds) ∧
    W.cell? ⟨w.heap.size, 0, none⟩ = some (.slice none 0 0) ∧ W.frozen? ⟨w.heap.size, 0, none⟩ = false ∧
    W.cell? ⟨w.heap.size + 1, 0, none⟩ = some (.int .i64 0) ∧ W.frozen? ⟨w.heap.size + 1, 0, none⟩ = false ∧
    W.cell? ⟨w.heap.size + 2, 0, none⟩ = some v ∧ W.frozen? ⟨w.heap.size + 2, 0, none⟩ = false ∧
    Below w.heap.size w W ∧ w.heap.size + 8 ≤ W.heap.size
/-- Behind a part that is none. -/
def ParX (w : World) (pre : List (List UInt8)) (W : World) : Prop :=
  (∃ q x, pre = q ++ [x] ∧ cutP x = none) ∧ W.cell? ⟨w.heap.size, 0, none⟩ = some (.slice none 0 0) ∧ W.cell? ⟨w.heap.size + 1, 0, none⟩ = some (.int .i64 3) ∧ Below w.heap.size w W ∧ w.heap.size + 8 ≤ W.heap.size

theorem OffB.cell {lo hi : Nat} {W W' : World} (h : OffB lo hi W W') {p : Addr} (h1 : p.block < W.heap.size) (h2 : ¬ (lo ≤ p.block ∧ p.block < hi)) : W'.cell? p = W.cell? p := World.cell?_of_block (w := W) (h.block p.block h1 h2)
theorem OffB.frozen {lo hi : Nat} {W W' : World} (h : OffB lo hi W W') {p : Addr} (h1 : p.block < W.heap.size) (h2 : ¬ (lo ≤ p.block ∧ p.block < hi)) : W'.frozen? p = W.frozen? p := World.frozen?_of_block (w := W) (h.block p.block h1 h2)
theorem OffB.below {lo hi B : Nat} {a W W' : World} (h : OffB lo hi W W') (b : Below B a W) (hB : B ≤ lo) (hW : B ≤ W.heap.size) : Below B a W' :=
  b.trans ⟨h.os, h.tape, h.output, h.size, fun k hk => h.block k (by omega) (by omega)⟩
theorem ParI.off {w W W' : World} {pre : List (List UInt8)} {lo hi : Nat} (h : ParI w pre W) (t : OffB lo hi W W') (hl : lo = w.heap.size + 3) (hh : hi = w.heap.size + 8) : ParI w pre W' := by
  obtain ⟨ds, v, h1, h2, h3, h4, h5, h6, h7, h8, h9, h10, h11⟩ := h
  subst hl; subst hh
  refine ⟨ds, v, h1, h2, h3.same t.size fun k hk => t.block k (h3.lt k hk).2 (by have := (h3.lt k hk).1; omega), ?_, ?_, ?_, ?_, ?_, ?_, t.below h10 (by omega) (by omega), Nat.le_trans h11 t.size⟩
  · exact (t.cell (by show w.heap.size < _; omega) (by show ¬ (_ ≤ w.heap.size ∧ _); omega)).trans h4
  · exact (t.frozen (by show w.heap.size < _; omega) (by show ¬ (_ ≤ w.heap.size ∧ _); omega)).trans h5
  · exact (t.cell (by show w.heap.size + 1 < _; omega) (by show ¬ (_ ≤ w.heap.size + 1 ∧ _); omega)).trans h6
  · exact (t.frozen (by show w.heap.size + 1 < _; omega) (by show ¬ (_ ≤ w.heap.size + 1 ∧ _); omega)).trans h7
  · exact (t.cell (by show w.heap.size + 2 < _; omega) (by show ¬ (_ ≤ w.heap.size + 2 ∧ _); omega)).trans h8
  · exact (t.frozen (by show w.heap.size + 2 < _; omega) (by show ¬ (_ ≤ w.heap.size + 2 ∧ _); omega)).trans h9
theorem ParX.off {w W W' : World} {pre : List (List UInt8)} {lo hi : Nat} (h : ParX w pre W) (t : OffB lo hi W W') (hl : lo = w.heap.size + 3) (hh : hi = w.heap.size + 8) : ParX w pre W' := by
  obtain ⟨h1, h4, h6, h10, h11⟩ := h
  subst hl; subst hh
  refine ⟨h1, ?_, ?_, t.below h10 (by omega) (by omega), Nat.le_trans h11 t.size⟩
  · exact (t.cell (by show w.heap.size < _; omega) (by show ¬ (_ ≤ w.heap.size ∧ _); omega)).trans h4
  · exact (t.cell (by show w.heap.size + 1 < _; omega) (by show ¬ (_ ≤ w.heap.size + 1 ∧ _); omega)).trans h6

theorem ret_par (w W : World) (v : Value) (n : Int) (_hz : w.heap.size + 8 ≤ W.heap.size) (t0 : W.cell? ⟨w.heap.size, 0, none⟩ = some (.slice none 0 0)) (t1 : W.cell? ⟨w.heap.size + 1, 0, none⟩ = some (.int .i64 0))
    (hd : W.heap[w.heap.size + 6]? = some (.deferred (some []))) (hb : Below w.heap.size w W) :
    ((W.setCell ⟨w.heap.size, 0, none⟩ v).setCell ⟨w.heap.size + 1, 0, none⟩ (.int .i64 n)).heap[w.heap.size + 6]? = some (.deferred (some [])) ∧
    (((W.setCell ⟨w.heap.size, 0, none⟩ v).setCell ⟨w.heap.size + 1, 0, none⟩ (.int .i64 n)).putObj (w.heap.size + 6) (.deferred none)).cell? ⟨w.heap.size, 0, none⟩ = some v ∧
    (((W.setCell ⟨w.heap.size, 0, none⟩ v).setCell ⟨w.heap.size + 1, 0, none⟩ (.int .i64 n)).putObj (w.heap.size + 6) (.deferred none)).cell? ⟨w.heap.size + 1, 0, none⟩ = some (.int .i64 n) ∧
    Below w.heap.size w (((W.setCell ⟨w.heap.size, 0, none⟩ v).setCell ⟨w.heap.size + 1, 0, none⟩ (.int .i64 n)).putObj (w.heap.size + 6) (.deferred none)) := by
  refine ⟨?_, ?_, ?_, ?_⟩
  · rw [Below.heap_setCell _ _ _ _ (by show w.heap.size + 6 ≠ w.heap.size + 1; omega), Below.heap_setCell _ _ _ _ (by show w.heap.size + 6 ≠ w.heap.size; omega)]
    exact hd
  · rw [World.cell?_of_block (a := ⟨w.heap.size, 0, none⟩) (World.putObj_heap_other (by show w.heap.size ≠ _; omega)), cell_setCell_other _ _ _ _ _ (.inl (by simp))]
    exact cell_setCell_same _ _ _ _ (by rw [t0]; rfl)
  · rw [World.cell?_of_block (a := ⟨w.heap.size + 1, 0, none⟩) (World.putObj_heap_other (by show w.heap.size + 1 ≠ _; omega))]
    exact cell_setCell_same _ _ _ _ (by rw [cell_setCell_other _ _ _ _ _ (.inl (by simp)), t1]; rfl)
  · exact ((hb.setCell (Nat.le_refl _) _).setCell (by simp) _).trans ⟨rfl, rfl, rfl, by simp, fun k hk => World.putObj_heap_other (by omega)⟩

set_option maxRecDepth 100000 in
set_option maxHeartbeats 4000000 in
theorem parse_lb (s : List UInt8) (w : World) (hl : s.length ≤ 900000) : Calls Tryz.prog 43 #[.string (bs s)] w (ParsedP w s) := by
  obtain ⟨i0, hi, hz0, hz1, hz2⟩ := info_parts zc_pair
  have Hz := Lib.hid hz0; have Hs := Lib.hid hz1; have Hb := Lib.hid hz2; have Hi := Lib.hid hi
  clear hz0 hz1 hz2 hi
  refine (callsIn_wide (n := 5)).1 ?_
  refine callsIn_of_wp_marks Tryz.func43 rfl trivial ?_ rfl
  simp only [Tryz.ntmps43, List.size_toArray, List.length_cons, List.length_nil, Nat.reduceAdd, Nat.reduceSub, Array.replicate_succ, Array.replicate_zero, List.push_toArray, List.append_toArray, List.nil_append, List.cons_append]
  gi_wp2
  refine ⟨trivial, ?_⟩
  refine (callsIn_wide.2 (seq_any _ _ _)).mono ?_
  rintro e w1 ⟨rfl, rfl⟩
  gi_wp2
  obtain ⟨V, hV⟩ : ∃ V, V = ((((((w.alloc (.cells #[.slice none 0 0] 36)).alloc (.cells #[.int .i64 0] 45)).alloc (.cells #[.slice none 0 0] 35)).alloc (.cells #[.string (bs s)] 9)).alloc (.cells #[.string ⟨#[44]⟩] 9)).alloc (.cells #[.int .i64 0] 3)) := ⟨_, rfl⟩
  have hz : V.heap.size = w.heap.size + 6 := by rw [hV]; simp
  obtain ⟨g0, g1, g2, g3, g4, g5⟩ := heap6 w (.cells #[.slice none 0 0] 36) (.cells #[.int .i64 0] 45) (.cells #[.slice none 0 0] 35) (.cells #[.string (bs s)] 9) (.cells #[.string ⟨#[44]⟩] 9) (.cells #[.int .i64 0] 3)
  rw [← hV] at g0 g1 g2 g3 g4 g5
  have bV : Below w.heap.size w V := by rw [hV]; exact ((((((Below.refl _ _).alloc (Nat.le_refl _) _).alloc (by simp only [World.size_alloc]; omega) _).alloc (by simp only [World.size_alloc]; omega) _).alloc (by simp only [World.size_alloc]; omega) _).alloc (by simp only [World.size_alloc]; omega) _).alloc (by simp only [World.size_alloc]; omega) _
  rw [← hV]
  have HV := Lib.hid hV
  clear hV
  have cell1 : ∀ (W : World) k v t, W.heap[k]? = some (.cells #[v] t) → W.cell? ⟨k, 0, none⟩ = some v ∧ W.frozen? ⟨k, 0, none⟩ = false := fun W k v t h => ⟨by simp [World.cell?, h], by simp [World.frozen?, h]⟩
  refine range_split (by omega) (w.heap.size + 3) 44 s rfl (by omega) (cell1 _ _ _ _ g3).1 (cell1 _ _ _ _ g3).2 (show V.cell? ⟨w.heap.size + 4, 0, none⟩ = some (.string (bs [44])) from (cell1 _ _ _ _ g4).1) (cell1 _ _ _ _ g5).1 (by omega) (ParI w) (ParX w)
    (fun pre W W' h t => h.off t rfl (by omega)) (fun pre W W' h t => h.off t rfl (by omega)) ?h0
    (fun x => { tmps := #[.string (bs s), undef, .pointer (some ⟨w.heap.size, 0, none⟩), .pointer (some ⟨w.heap.size + 1, 0, none⟩), .pointer (some ⟨w.heap.size + 1 + 1, 0, none⟩), .string (bs x), undef, undef, undef, undef, undef, .string (bs s), .func (.func 100) #[] #[.pointer (some ⟨w.heap.size + 1 + 1 + 1 + 1, 0, none⟩), .pointer (some ⟨w.heap.size + 1 + 1 + 1, 0, none⟩), .pointer (some ⟨w.heap.size + 1 + 1 + 1 + 2, 0, none⟩)], .string (bs x), undef, undef, undef, undef, undef, undef, undef, undef, undef, undef, undef, undef, undef, undef, undef, undef, undef, undef, undef, undef, undef, undef, undef], defers := [] }) ?assign ?body ?done ?stop
  case h0 =>
    intro o1 o2
    have c0 := cell1 _ _ _ _ g0; have c1 := cell1 _ _ _ _ g1; have c2 := cell1 _ _ _ _ g2
    have b2 : Below V.heap.size V ((V.alloc o1).alloc o2) := ((Below.refl _ _).alloc (Nat.le_refl _) _).alloc (by simp) _
    exact ⟨[], _, rfl, rfl, Sl.nil _ _ _, (b2.cell (p := ⟨w.heap.size, 0, none⟩) (by show w.heap.size < _; omega)).trans c0.1, (b2.frozen (p := ⟨w.heap.size, 0, none⟩) (by show w.heap.size < _; omega)).trans c0.2,
      (b2.cell (p := ⟨w.heap.size + 1, 0, none⟩) (by show w.heap.size + 1 < _; omega)).trans c1.1, (b2.frozen (p := ⟨w.heap.size + 1, 0, none⟩) (by show w.heap.size + 1 < _; omega)).trans c1.2,
      (b2.cell (p := ⟨w.heap.size + 2, 0, none⟩) (by show w.heap.size + 2 < _; omega)).trans c2.1, (b2.frozen (p := ⟨w.heap.size + 2, 0, none⟩) (by show w.heap.size + 2 < _; omega)).trans c2.2, bV.trans (b2.mono (by omega)), by simp; omega⟩
  case assign =>
    intro l x W K hK
    gi_wp2
    exact hK
  case body =>
    intro l pre x t W hI hp hW
    have hxl : x.length ≤ 1000000 := Nat.le_trans (Nat.le_trans (parts_len 44 s x (by rw [hp]; simp)) hl) (by omega)
    have hpl : pre.length ≤ 1000000 := by
      have := parts_count 44 s
      rw [hp] at this
      simp at this
      omega
    obtain ⟨ds, v, h1, h2, h3, h4, h5, h6, h7, h8, h9, h10, h11⟩ := hI
    have k61 : ByteArray.mk #[61] = bs [61] := rfl
    have HC := Lib.hid (fun W => cut1_any (bs x) 61 W (by rw [bs_size]; omega))
    rw [bs_list] at HC
    obtain ⟨q, hq⟩ : ∃ q, q = cutL x 61 := ⟨_, rfl⟩
    rw [← hq] at HC
    have hn1 : w.heap.size + 1 + 1 = w.heap.size + 2 := by omega
    rw [hn1]
    clear hn1
    rcases q with _ | ⟨y, z⟩
    · have hcp : cutP x = none := by unfold cutP; rw [← hq]
      have HCP := Lib.hid hcp
      unfold cutV at HC
      clear hq hcp h2 h3 h1
      gi_wp2
      refine ⟨trivial, ?_⟩
      refine (CallsIn.inRound l (callsIn_wide.2 (HC.out _))).mono ?_
      rintro e w1 ⟨rfl, m, rfl⟩
      gi_wp2
      refine ⟨fun k k1 k2 => ?_, ⟨pre, x, rfl, HCP.out⟩, ?_, ?_, ?_, ?_⟩
      · rw [Below.heap_setCell _ _ _ _ (by show k ≠ w.heap.size + 1; omega), Below.heap_setCell _ _ _ _ (by show k ≠ w.heap.size; omega)]
        rfl
      · rw [cell_setCell_other _ _ _ _ _ (.inl (by simp)), cell_setCell_same _ _ _ _ (by show (W.cell? _).isSome = true; rw [h4]; rfl)]
      · rw [cell_setCell_same _ _ _ _ (by rw [cell_setCell_other _ _ _ _ _ (.inl (by simp))]; show (W.cell? _).isSome = true; rw [h6]; rfl)]
      · exact ((below_draw h10 m).setCell (Nat.le_refl _) _).setCell (by simp) _
      · simp [World.setCell]; exact h11
    · have hcp : cutP x = some ⟨y, z⟩ := by unfold cutP; rw [← hq]
      have HCP := Lib.hid hcp
      have H1 := Lib.hid h1; have H2 := Lib.hid h2
      unfold cutV at HC
      obtain ⟨va, vc, rfl⟩ := h3.slice
      have n1 : ds.length + 1 ≤ maxLen := by unfold maxLen; omega
      have n2 : (ds.length + 1) * 32 ≤ 140737488355328 := by omega
      clear hq hcp h2 h1
      gi_wp2
      refine ⟨trivial, ?_⟩
      refine (CallsIn.inRound l (callsIn_wide.2 (HC.out _))).mono ?_
      rintro e w1 ⟨rfl, m, rfl⟩
      have h3Y : Sl ((W.drewN m).alloc (.cells #[.string (bs y), .string (bs z)] 74)) (w.heap.size + 8) 2 (.slice va ds.length vc) ds.length (prc ds) := Sl.alloc (h3.same (w' := W.drewN m) (Nat.le_refl _) (fun _ _ => rfl)) _
      have hlit := (Sl.lit (W.drewN m) W.heap.size 2 1 #[.string (bs y), .string (bs z)] 74 (Nat.le_refl _) (by decide) rfl).cells
      have hbY : (w.heap.size + 8) ≤ ((W.drewN m).alloc (.cells #[.string (bs y), .string (bs z)] 74)).heap.size := by simp; omega
      have HSame := Lib.hid (fun (w3 : World) (hg : ((W.drewN m).alloc (.cells #[.string (bs y), .string (bs z)] 74)).grownBy w3 (Value.slice va ds.length vc).ownBlock) (k : Nat) (hk : k < w.heap.size + 8) =>
        show w3.heap[k]? = W.heap[k]? from (hg.block k (by simp; omega) (fun e => by have := (h3.lt k e.symm).1; omega)).trans (Below.heap_alloc _ _ _ (by show k < W.heap.size; omega)))
      gi_wp2_with (gi_at_builtin; refine wpListIn_append_sl _ rfl _ _ 35 rfl (w.heap.size + 8) 74 i0 (.agg #[.string ⟨#[]⟩, .string ⟨#[]⟩]) 2 32 Tryz.underlying35 Hi.out Hz.out Hs.out Hb.out rfl (by decide) _ ds.length _ rfl h3Y ⟨W.heap.size, 0, none⟩ 1 1 [.string (bs y), .string (bs z)] rfl rfl hlit (prc_one [⟨y, z⟩]) n1 n2 hbY ?_; intro v' w3 hx; have hnow := hx.now; obtain ⟨g2, off2, cap2, rfl, hgb, hgl, _⟩ := hnow.somewhere (by omega); have p2 := (World.cell?_of_block (a := ⟨w.heap.size + 2, 0, none⟩) (HSame.out w3 hx.grown (w.heap.size + 2) (by omega))).trans h8; have f2 := (World.frozen?_of_block (a := ⟨w.heap.size + 2, 0, none⟩) (HSame.out w3 hx.grown (w.heap.size + 2) (by omega))).trans h9)
      have hz3 := hx.grown.size
      have hz4 : W.heap.size + 1 ≤ w3.heap.size := by simpa using hz3
      have hsame := HSame.out w3 hx.grown
      have hb3 : Below w.heap.size w w3 := ((below_draw h10 m).alloc (by show w.heap.size ≤ W.heap.size; omega) _).grown hx.grown (by simp; omega) (fun k e => by have := (h3.lt k e).1; omega)
      refine ⟨fun k k1 k2 => ?_, ds ++ [⟨y, z⟩], .slice (some ⟨g2, off2, none⟩) (ds.length + 1) cap2, ?_, ?_, ?_, ?_, ?_, ?_, ?_, ?_, ?_, ?_, ?_⟩
      · rw [Below.heap_setCell _ _ _ _ (by show k ≠ w.heap.size + 2; omega)]
        exact hsame k (by omega)
      · rw [pairsL_snoc, H1.out, HCP.out]
      · simp [H2.out]
      · rw [List.length_append, List.length_singleton, prc_append]
        exact hnow.same (by simp [World.setCell]) (fun k hk => Below.heap_setCell _ _ _ _ (by show k ≠ w.heap.size + 2; have := (hnow.lt k hk).1; omega))
      · rw [cell_setCell_other _ _ _ _ _ (.inl (by simp))]
        exact (World.cell?_of_block (a := ⟨w.heap.size, 0, none⟩) (hsame _ (by show w.heap.size < _; omega))).trans h4
      · rw [frozen_setCell]
        exact (World.frozen?_of_block (a := ⟨w.heap.size, 0, none⟩) (hsame _ (by show w.heap.size < _; omega))).trans h5
      · rw [cell_setCell_other _ _ _ _ _ (.inl (by simp))]
        exact (World.cell?_of_block (a := ⟨w.heap.size + 1, 0, none⟩) (hsame _ (by show w.heap.size + 1 < _; omega))).trans h6
      · rw [frozen_setCell]
        exact (World.frozen?_of_block (a := ⟨w.heap.size + 1, 0, none⟩) (hsame _ (by show w.heap.size + 1 < _; omega))).trans h7
      · exact cell_setCell_same _ _ _ _ (by rw [p2]; rfl)
      · rw [frozen_setCell]; exact f2
      · exact hb3.setCell (by simp) _
      · simp [World.setCell]; omega
  case done =>
    intro W hI hd hW
    obtain ⟨ds, v, h1, h2, h3, h4, h5, h6, h7, h8, h9, h10, h11⟩ := hI
    have hpl : (parts 44 s).length ≤ 900001 := by have := parts_count 44 s; omega
    have hn1 : w.heap.size + 1 + 1 = w.heap.size + 2 := by omega
    rw [hn1]
    clear hn1
    have HM := Lib.hid (make_any v ds (w.heap.size + 8) W h3 (by omega))
    have H1 := Lib.hid h1; have H2 := Lib.hid h2
    clear h1 h2
    gi_wp2
    refine ⟨trivial, ?_⟩
    refine (callsIn_wide.2 HM.out).mono ?_
    rintro e w2 ⟨v', rfl, s2, b2⟩
    have t0 : w2.cell? ⟨w.heap.size, 0, none⟩ = some (.slice none 0 0) := (b2.cell (p := ⟨w.heap.size, 0, none⟩) (by show w.heap.size < _; omega)).trans h4
    have t1 : w2.cell? ⟨w.heap.size + 1, 0, none⟩ = some (.int .i64 0) := (b2.cell (p := ⟨w.heap.size + 1, 0, none⟩) (by show w.heap.size + 1 < _; omega)).trans h6
    have u0 : w2.frozen? ⟨w.heap.size, 0, none⟩ = false := (b2.frozen (p := ⟨w.heap.size, 0, none⟩) (by show w.heap.size < _; omega)).trans h5
    have u1 : w2.frozen? ⟨w.heap.size + 1, 0, none⟩ = false := (b2.frozen (p := ⟨w.heap.size + 1, 0, none⟩) (by show w.heap.size + 1 < _; omega)).trans h7
    have hd2 : w2.heap[V.heap.size]? = some (.deferred (some [])) := (b2.block V.heap.size (by omega)).trans hd
    have hb2 : Below w.heap.size w w2 := h10.trans (b2.mono (by omega))
    have hz2 := b2.size
    have HB := Lib.hid hb2
    have HS2 := Lib.hid s2
    obtain ⟨er, her⟩ : ∃ er, er = cE (chk (sortP ds)) := ⟨_, rfl⟩
    rw [← her]
    have HE := Lib.hid her
    clear h4 h5 h6 h7 h8 h9 h3 hd hb2 s2 her
    by_cases hk : chk (sortP ds) = true
    · have he0 : er = 0 := by rw [HE.out]; unfold cE; rw [if_pos hk]
      subst he0
      have HK := Lib.hid hk
      obtain ⟨va, n2, vc, rfl⟩ : ∃ a n c, v' = .slice a n c := by
        obtain ⟨a, c, e⟩ := HS2.out.slice
        exact ⟨a, _, c, e⟩
      clear hk
      gi_wp2
      rw [hz] at hd2
      have HF := Lib.hid (ret_par w w2 (.slice va n2 vc) 0 (by omega) t0 t1 hd2 HB.out)
      refine ⟨by simp, .inl ⟨_, _, rfl, run_takeDeferred HF.out.1, ?_⟩⟩
      refine ⟨.tuple #[(.slice va n2 vc), .int .i64 0], ?_, _, _, rfl, HF.out.2.2.2, ?_⟩
      · have q0 := HF.out.2.1; have q1 := HF.out.2.2.1
        simp [results, Tryz.results43, go_sem, q0, q1]
      · rw [H1.out]
        show (if chk (sortP ds) = true then _ else _)
        rw [if_pos HK.out]
        refine ⟨rfl, ?_⟩
        have hs2 := (HS2.out).mono (show w.heap.size ≤ W.heap.size by omega)
        refine hs2.same (by simp [World.setCell]) (fun k hk => ?_)
        have hk1 := (HS2.out.lt k hk).1
        rw [World.putObj_heap_other (by omega), Below.heap_setCell _ _ _ _ (by show k ≠ w.heap.size + 1; omega), Below.heap_setCell _ _ _ _ (by show k ≠ w.heap.size; omega)]
    · have he0 : er = 12 := by rw [HE.out]; unfold cE; rw [if_neg hk]
      subst he0
      have HK := Lib.hid hk
      clear hk
      gi_wp2
      rw [hz] at hd2
      have HF := Lib.hid (ret_par w w2 (.slice none 0 0) 12 (by omega) t0 t1 hd2 HB.out)
      refine ⟨by simp, .inl ⟨_, _, rfl, run_takeDeferred HF.out.1, ?_⟩⟩
      refine ⟨.tuple #[(.slice none 0 0), .int .i64 12], ?_, _, _, rfl, HF.out.2.2.2, ?_⟩
      · have q0 := HF.out.2.1; have q1 := HF.out.2.2.1
        simp [results, Tryz.results43, go_sem, q0, q1]
      · rw [H1.out]
        show (if chk (sortP ds) = true then _ else _)
        rw [if_neg HK.out]
        exact ⟨rfl, rfl⟩
  case stop =>
    intro pre x t W hp hX hd hW
    obtain ⟨⟨q, x', hq, hcx⟩, h4, h6, h10, h11⟩ := hX
    have HQ := Lib.hid (show pairsL (parts 44 s) = none by
      have := List.append_inj_right' hq rfl
      obtain rfl : x = x' := by simpa using this
      rw [hp]; exact pairsL_bad _ _ _ hcx)
    have q0 : (W.putObj V.heap.size (.deferred none)).cell? ⟨w.heap.size, 0, none⟩ = some (.slice none 0 0) := (World.cell?_of_block (a := ⟨w.heap.size, 0, none⟩) (World.putObj_heap_other (by show w.heap.size ≠ _; omega))).trans h4
    have q1 : (W.putObj V.heap.size (.deferred none)).cell? ⟨w.heap.size + 1, 0, none⟩ = some (.int .i64 3) := (World.cell?_of_block (a := ⟨w.heap.size + 1, 0, none⟩) (World.putObj_heap_other (by show w.heap.size + 1 ≠ _; omega))).trans h6
    have hbl : Below w.heap.size w (W.putObj V.heap.size (.deferred none)) := h10.trans ⟨rfl, rfl, rfl, by simp, fun k hk => World.putObj_heap_other (by omega)⟩
    have HB := Lib.hid hbl
    clear hbl h10
    gi_wp2
    refine ⟨by simp, .inl ⟨_, _, rfl, run_takeDeferred hd, ?_⟩⟩
    refine ⟨.tuple #[.slice none 0 0, .int .i64 3], ?_, _, _, rfl, HB.out, ?_⟩
    · simp [results, Tryz.results43, go_sem, q0, q1]
    · rw [HQ.out]
      exact ⟨rfl, rfl⟩
end Go.Proofs.YtfckgcckpfklaaaGreatDoor
