/- A range over a text's parts, for the caller: by the iterator's walk (XL1). -/
import Derived.Test.YtfckgcckpfklaaaGreatDoorML5
namespace Go.Proofs.YtfckgcckpfklaaaGreatDoor
open Go.RowKit Go.Lib

/-- 'append(v, x..)' in a fenced walk. -/
theorem wpListIn_append_sl {F : Fence} {nF : Nat} {P : Program} (w : World) {ops : Array Oper} {rest : List Oper} {o : Oper} {a : Act} {Q : Exit → Act → World → Prop} (hgd : o.guard = none) (s x : Operand) (t : TypeId)
    (ho : o.op = .call { callee := .builtin .append, args := #[s, x], argTypes := #[t, t] })
    (base : Nat) (e : TypeId) (i : TypeInfo) (z : Value) (size bytes : Nat) (ht : P.underlying t = some (.slice e)) (hi : P.info? e = some i) (hz : i.zero = some z)
    (hsize : i.size = size) (hby : i.bytes = bytes) (hzs : z.cells.size = size) (hsz : 0 < size)
    (v : Value) (n : Nat) (xs : List Value) (hs : a.eval s = v) (hown : Sl w base size v n xs)
    (ad : Addr) (m c : Nat) (news : List Value) (hx : a.eval x = .slice (some ad) m c) (hl : news.length = m * size) (hnews : ∀ j u, news[j]? = some u → w.cell? (ad.add j) = some u) (h1 : ∀ u ∈ news, u.oneCell' = true)
    (h63 : n + m ≤ maxLen) (hbytes : (n + m) * bytes ≤ 140737488355328) (hbase : base ≤ w.heap.size)
    (h : ∀ v' w', Ext base size w v n xs w' v' (n + m) (xs ++ news) → wpListIn F nF P ops Q rest (a.put o.dst v') w') : wpListIn F nF P ops Q (o :: rest) a w := by
  refine wpListIn_plain hgd fun K hK => ?_
  obtain ⟨v', w', hr, h2⟩ := run_append_sl (P := P) w base t o.type e i z size bytes ht hi hz hsize hby hzs hsz v n xs hown ad m c news hl hnews h1 h63 hbytes hbase
  unfold Oper.wpIn
  refine ⟨by simp [Oper.about, ho, resolve, Target.leads, Sem.run_pure], ?_⟩
  rw [Oper.semAt_plain F _ _ (by rw [ho]; intro c hc'; cases hc')]
  simp [execOp, ho, resolve, invoke, builtin, hs, hx, hr, Result.andThen]
  exact hK _ _ (h v' w' h2)

/-- All but some blocks is as it was. -/
structure OffB (lo hi : Nat) (W W' : World) : Prop where
  os : W'.os = W.os
  tape : W'.tape = W.tape
  output : W'.output = W.output
  size : W.heap.size ≤ W'.heap.size
  block : ∀ k, k < W.heap.size → ¬ (lo ≤ k ∧ k < hi) → W'.heap[k]? = W.heap[k]?
/-- Some blocks are as they were. -/
def OnB (lo hi : Nat) (W W' : World) : Prop := ∀ k, lo ≤ k → k < hi → W'.heap[k]? = W.heap[k]?

theorem OffB.putObj {lo hi k : Nat} (W : World) (o : Obj) (h1 : lo ≤ k) (h2 : k < hi) : OffB lo hi W (W.putObj k o) :=
  ⟨rfl, rfl, rfl, by simp, fun i _ hn => World.putObj_heap_other (fun e => hn (by omega))⟩
theorem OffB.setCell {lo hi k off : Nat} (W : World) (v : Value) (h1 : lo ≤ k) (h2 : k < hi) : OffB lo hi W (W.setCell ⟨k, off, none⟩ v) :=
  ⟨rfl, rfl, rfl, by simp [World.setCell], fun i _ hn => Below.heap_setCell _ _ _ _ (fun e => hn (by rw [e]; exact ⟨h1, h2⟩))⟩

/-- How a round's body may be left. -/
def roundQ (lo hi : Nat) (I Ix : World → Prop) (W : World) : Exit → Act → World → Prop
  | .normal, _, W' => OnB lo hi W W' ∧ I W'
  | .ret, _, W' => OnB lo hi W W' ∧ Ix W'
  | _, _, _ => False

set_option maxHeartbeats 1000000 in
theorem range_split {g : Operand} {p : Tmp} {assign body : Code} {Q : Exit → Act → World → Prop} {a : Act} {w : World} {n : Nat} (hn : 3 ≤ n) (B : Nat) (c : UInt8) (s0 : List UInt8)
    (hg : a.eval g = .func (.func 100) #[] #[.pointer (some ⟨B + 1, 0, none⟩), .pointer (some ⟨B, 0, none⟩), .pointer (some ⟨B + 2, 0, none⟩)])
    (hB : B + 3 ≤ w.heap.size) (hs : w.cell? ⟨B, 0, none⟩ = some (.string (bs s0))) (hf : w.frozen? ⟨B, 0, none⟩ = false) (hc : w.cell? ⟨B + 1, 0, none⟩ = some (.string (bs [c]))) (hv : w.cell? ⟨B + 2, 0, none⟩ = some (.int .i64 0)) (hl : s0.length ≤ 1000000)
    (I Ix : List (List UInt8) → World → Prop)
    (hI : ∀ pre W W', I pre W → OffB B (w.heap.size + 2) W W' → I pre W') (hIx : ∀ pre W W', Ix pre W → OffB B (w.heap.size + 2) W W' → Ix pre W')
    (h0 : ∀ o1 o2, I [] ((w.alloc o1).alloc o2)) (a₁ : List UInt8 → Act)
    (hassign : ∀ (l : Nat) (x : List UInt8) (W : World) (K : Act → World → Prop), K (a₁ x) W →
      assign.wpIn (Fence.wide.inRound l) (n - 1 - 1) Tryz.prog (Exit.then K (fun _ _ _ => False)) { tmps := a.tmps.setIfInBounds p (.string (bs x)), defers := [] } W)
    (hbody : ∀ (l : Nat) (pre : List (List UInt8)) (x : List UInt8) (t : List (List UInt8)) (W : World), I pre W → parts c s0 = pre ++ x :: t → w.heap.size + 2 ≤ W.heap.size →
      body.wpIn (Fence.wide.inRound l) (n - 1 - 1) Tryz.prog (roundQ B (w.heap.size + 2) (I (pre ++ [x])) (Ix (pre ++ [x])) W) (a₁ x) W)
    (hdone : ∀ W, I (parts c s0) W → W.heap[w.heap.size]? = some (.deferred (some [])) → w.heap.size + 2 ≤ W.heap.size → Q .normal { a with defers := { target := .collected w.heap.size, args := #[] } :: a.defers } W)
    (hstop : ∀ pre x t W, parts c s0 = pre ++ x :: t → Ix (pre ++ [x]) W → W.heap[w.heap.size]? = some (.deferred (some [])) → w.heap.size + 2 ≤ W.heap.size → Code.ret.wpIn Fence.wide n Tryz.prog Q { a with defers := { target := .collected w.heap.size, args := #[] } :: a.defers } W) :
    (Code.rangeFunc g #[p] assign body).wpIn Fence.wide n Tryz.prog Q a w := by
  refine wpIn_rangeFunc ?_
  intro fn hfn
  obtain ⟨D, hD⟩ : ∃ D, D = w.heap.size := ⟨_, rfl⟩
  rw [← hD] at hI hIx hbody hdone hstop hB
  obtain ⟨lp, hlp⟩ : ∃ lp : LoopState → Option Code → Loop, lp = fun st pe => { state := st, pending := pe, fn, tmps := a.tmps, params := #[p], assign, body, defers := D } := ⟨_, rfl⟩
  obtain ⟨V, hV⟩ : ∃ V, V = (w.alloc (.deferred (some []))).alloc (.loop (lp .ready none)) := ⟨_, rfl⟩
  have vz : V.heap.size = D + 2 := by rw [hV, hD]; simp
  have vl : V.heap[D + 1]? = some (.loop (lp .ready none)) := by
    have := World.alloc_heap_new (w.alloc (.deferred (some []))) (.loop (lp .ready none))
    rw [World.size_alloc, ← hD] at this
    rw [hV]; exact this
  have vd : V.heap[D]? = some (.deferred (some [])) := by
    rw [hV, Below.heap_alloc _ _ _ (by rw [hD]; simp), hD]
    exact World.alloc_heap_new w _
  have vI : I [] V := by rw [hV]; exact h0 _ _
  have vb : Below w.heap.size w V := by rw [hV]; exact ((Below.refl _ w).alloc (Nat.le_refl _) _).alloc (by simp) _
  refine ⟨D + 1, [{ target := .collected D, args := #[] }], V, { target := .fn (.func 100) #[.pointer (some ⟨B + 1, 0, none⟩), .pointer (some ⟨B, 0, none⟩), .pointer (some ⟨B + 2, 0, none⟩)], args := #[.func (.yield (D + 1)) #[] #[]] }, V, 100,
    #[.func (.yield (D + 1)) #[] #[], .pointer (some ⟨B + 1, 0, none⟩), .pointer (some ⟨B, 0, none⟩), .pointer (some ⟨B + 2, 0, none⟩)], V, ?_, ?_, ?_, ?_, fun _ => by omega, ?_⟩
  · have := run_enterLoop_outer (P := Tryz.prog) (w := w) fn a.tmps #[p] assign body
    rw [← hD] at this
    rw [hV, hlp]
    exact this
  · simp only [resolve, hg]
    simp [go_sem]
  · intro f' _; trivial
  · simp [invoke, go_sem]
  · refine (split_iter (n - 1) (D + 1) B c s0
      (fun pre W => I pre W ∧ W.heap[D + 1]? = some (.loop (lp .ready none)) ∧ W.heap[D]? = some (.deferred (some [])))
      (fun pre W => Ix pre W ∧ W.heap[D + 1]? = some (.loop (lp .done (some .ret))) ∧ W.heap[D]? = some (.deferred (some [])))
      (by omega) ?_ ?_ V ?_ ?_ ?_ ?_ ⟨vI, vl, vd⟩ hl).mono ?_
    · rintro pre W v ⟨h1, h2, h3⟩
      exact ⟨hI _ _ _ h1 (OffB.setCell W v (Nat.le_refl _) (by omega)), (Below.heap_setCell W _ v (D + 1) (by show D + 1 ≠ B; omega)).trans h2, (Below.heap_setCell W _ v D (by show D ≠ B; omega)).trans h3⟩
    · rintro pre x t W ⟨h1, h2, h3⟩ hp
      have hlt : D + 1 < W.heap.size := (Array.getElem?_eq_some_iff.1 h2).1
      have hy := run_yield (P := Tryz.prog) (args := #[.string (bs x)]) h2 (by rw [hlp]; rfl)
      obtain ⟨bz, hbz⟩ : ∃ bz, bz = { lp .ready none with state := .busy } := ⟨_, rfl⟩
      refine ⟨_, _, _, _, hy, roundIn_of_wpIn (by rw [hlp]; exact hfn) ?_⟩
      have hyl : (lp .ready none).assign = assign ∧ (lp .ready none).body = body := by rw [hlp]; exact ⟨rfl, rfl⟩
      rw [hyl.1, hyl.2]
      have hb := run_beginRound (P := Tryz.prog) h2 (by rw [hlp])
      rw [← hbz] at hb
      have he : Array.foldl (fun (tmps : Array Value) (x : Tmp × Value) => match x with | (t, a) => tmps.setIfInBounds t a) (lp .ready none).tmps ((lp .ready none).params.zip #[Value.string (bs x)]) = a.tmps.setIfInBounds p (.string (bs x)) := by
        rw [hlp]
        simp
      rw [he]
      refine hassign _ x W _ ⟨_, hb, ?_⟩
      have hl2 : (W.putObj (D + 1) (.loop bz)).heap[D + 1]? = some (.loop bz) := World.putObj_heap_same hlt
      have hd2 : (W.putObj (D + 1) (.loop bz)).heap[D]? = some (.deferred (some [])) := (World.putObj_heap_other (by omega)).trans h3
      refine wpIn_mono (hbody _ pre x t _ (hI _ _ _ h1 (OffB.putObj W _ (by omega) (by omega))) hp (by simp; omega)) ?_
      rintro e a3 W3 hq
      have fin : ∀ jump, OnB B (D + 2) (W.putObj (D + 1) (.loop bz)) W3 → (Instr.endRound (D + 1) jump).run Tryz.prog W3 = .ok (.bool jump.isNone) (W3.putObj (D + 1) (.loop (lp (if jump.isNone then .ready else .done) jump))) ∧ D + 1 < W3.heap.size ∧ W3.heap[D]? = some (.deferred (some [])) := fun jump ho => by
        have hl3 := (ho (D + 1) (by omega) (by omega)).trans hl2
        have hr := run_endRound (P := Tryz.prog) jump hl3
        refine ⟨?_, (Array.getElem?_eq_some_iff.1 hl3).1, (ho D (by omega) (by omega)).trans hd2⟩
        rw [hr, hbz, hlp]
      cases e with
      | normal =>
        obtain ⟨ho, hi⟩ := hq
        obtain ⟨hr, hz, hd3⟩ := fin none ho
        refine ⟨_, _, hr, .inl ⟨rfl, ⟨hI _ _ _ hi (OffB.putObj W3 _ (by omega) (by omega)), World.putObj_heap_same hz, (World.putObj_heap_other (by omega)).trans hd3⟩, fun k k1 k2 => ?_⟩⟩
        rw [World.putObj_heap_other (by omega), ho k k1 (by omega), World.putObj_heap_other (by omega)]
      | ret =>
        obtain ⟨ho, hi⟩ := hq
        obtain ⟨hr, hz, hd3⟩ := fin (some .ret) ho
        exact ⟨_, _, hr, .inr ⟨rfl, hIx _ _ _ hi (OffB.putObj W3 _ (by omega) (by omega)), World.putObj_heap_same hz, (World.putObj_heap_other (by omega)).trans hd3⟩⟩
      | exit id => exact hq.elim
      | goto t => exact hq.elim
      | panic ch => exact hq.elim
      | outgrown => exact hq.elim
    · exact (vb.cell (p := ⟨B, 0, none⟩) (by show B < _; omega)).trans hs
    · exact (vb.frozen (p := ⟨B, 0, none⟩) (by show B < _; omega)).trans hf
    · exact (vb.cell (p := ⟨B + 1, 0, none⟩) (by show B + 1 < _; omega)).trans hc
    · exact (vb.cell (p := ⟨B + 2, 0, none⟩) (by show B + 2 < _; omega)).trans hv
    · rintro e W2 ⟨⟨v, rfl⟩, (⟨hi, hl2, hd2⟩ | ⟨pre, x, t, hp, hi, hl2, hd2⟩)⟩
      · have hz := (Array.getElem?_eq_some_iff.1 hl2).1
        exact ⟨none, _, by have := run_endLoop (P := Tryz.prog) hl2 (by rw [hlp]; simp); rw [hlp] at this; exact this, hdone _ (hI _ _ _ hi (OffB.putObj W2 _ (by omega) (by omega))) ((World.putObj_heap_other (by omega)).trans hd2) (by simp; omega)⟩
      · have hz := (Array.getElem?_eq_some_iff.1 hl2).1
        exact ⟨some .ret, _, by have := run_endLoop (P := Tryz.prog) hl2 (by rw [hlp]; simp); rw [hlp] at this; exact this, hstop pre x t _ hp (hIx _ _ _ hi (OffB.putObj W2 _ (by omega) (by omega))) ((World.putObj_heap_other (by omega)).trans hd2) (by simp; omega)⟩
end Go.Proofs.YtfckgcckpfklaaaGreatDoor
