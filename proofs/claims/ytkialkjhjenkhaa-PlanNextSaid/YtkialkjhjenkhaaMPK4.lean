/- Layer 20: the plan that the program says, and the document's: one list of blocks says both. -/
import Derived.Test.YtkialkjhjenkhaaMPK3
import Derived.Test.YtkialkjhjenkhaaMPLQ
namespace Go.Proofs.Ytkialkjhjenkhaa
open Go.RowKit Go.Lib
set_option linter.unusedVariables false

theorem scanQ_map (wd : Int) : ∀ (a b : List Mq), a.map Mq.m = b.map Mq.m → (scanQ wd a).map (List.map Mq.m) = (scanQ wd b).map (List.map Mq.m)
  | [], [], _ => rfl
  | [], q :: b, h => by simp at h
  | q :: a, [], h => by simp at h
  | p :: a, q :: b, h => by
    have h' := h
    rw [List.map_cons, List.map_cons, List.cons.injEq] at h
    have e := fstQ_map wd (p :: a) (q :: b) h'
    have e2 := fstQ_length wd (p :: a) (q :: b) h'
    unfold scanQ
    rw [e2]
    split
    · simp only [Option.map_some]; rw [e]
    · exact scanQ_map wd a b h.2
theorem scanQ_len (wd : Int) : ∀ (a s : List Mq), scanQ wd a = some s → s.length ≤ a.length
  | [], s, h => by cases h
  | p :: a, s, h => by
    unfold scanQ at h
    split at h
    · rw [← Option.some.inj h]; exact fstQ_len wd (p :: a)
    · have := scanQ_len wd a s h
      rw [List.length_cons]; omega
/-- The plan of sorted blocks: its blocks. -/
def scan2 (wd : Int) (F : List Mt.Me) : Option (List Mt.Me) := ((scanQ (3 * max wd 1) (F.map noQ)).or (scanQ (9 * max wd 1) (F.map noQ))).map (List.map Mq.m)
theorem scan2_of (wd : Int) (rs : List Mq) : ((scanQ (3 * max wd 1) rs).or (scanQ (9 * max wd 1) rs)).map (List.map Mq.m) = scan2 wd (rs.map Mq.m) := by
  have e : rs.map Mq.m = ((rs.map Mq.m).map noQ).map Mq.m := by rw [List.map_map]; simp [noQ, Function.comp_def]
  unfold scan2
  have e1 := scanQ_map (3 * max wd 1) rs ((rs.map Mq.m).map noQ) e
  have e2 := scanQ_map (9 * max wd 1) rs ((rs.map Mq.m).map noQ) e
  cases h1 : scanQ (3 * max wd 1) rs <;> cases h2 : scanQ (3 * max wd 1) ((rs.map Mq.m).map noQ) <;> rw [h1, h2] at e1 <;> simp_all
theorem scan2_len (wd : Int) (F S : List Mt.Me) (h : scan2 wd F = some S) : S.length ≤ F.length := by
  unfold scan2 at h
  obtain ⟨s, hs, rfl⟩ := Option.map_eq_some_iff.1 h
  rw [List.length_map]
  cases h1 : scanQ (3 * max wd 1) (F.map noQ) with
  | some t =>
    rw [h1] at hs
    have := scanQ_len _ _ _ h1
    rw [← Option.some.inj hs]
    simpa using this
  | none =>
    rw [h1] at hs
    have := scanQ_len _ _ s hs
    simpa using this
def frM (S : List Mt.Me) : Int := frQ (S.map noQ)
def toM (S : List Mt.Me) : Int := toQ (S.map noQ)
def lvM (S : List Mt.Me) : Int := min (lvQ (S.map noQ) + 1) 9
theorem toM_of (s : List Mq) : toQ s = toM (s.map Mq.m) := by unfold toM toQ; simp [List.foldl_map, noQ]
theorem lvM_of (s : List Mq) : min (lvQ s + 1) 9 = lvM (s.map Mq.m) := by unfold lvM lvQ; simp [List.foldl_map, noQ]
theorem frM_of (s : List Mq) (p0 : Mq) (h : s[0]? = some p0) : p0.m.mn = frM (s.map Mq.m) := by
  cases s with
  | nil => cases h
  | cons x l =>
    simp only [List.getElem?_cons_zero, Option.some.injEq] at h
    subst h
    rfl
theorem NextOut.some {w w' : World} {wd : Int} {rs : List Mq} {e : Ending} {F S : List Mt.Me} (h : NextOut w wd rs e w') (hF : rs.map Mq.m = F) (hs : scan2 wd F = some S) {a b c : Int} (ha : a = frM S) (hb : b = toM S) (hc : c = lvM S) :
    ∃ ad k s, e = .returned (.tuple #[.agg #[.int .i64 a, .int .i64 b, .int .i64 c, .slice ad S.length k], .bool true]) ∧ s.map Mq.m = S ∧ MsR w' (.slice ad S.length k) s := by
  rw [← hF, ← scan2_of] at hs
  rcases h with ⟨s, p0, v', h1, h2, rfl, h4⟩ | ⟨h1, rfl⟩
  · rw [h1] at hs
    simp only [Option.map_some, Option.some.injEq] at hs
    obtain ⟨ad, k, rfl⟩ := rd_form h4.rd
    have hl : s.length = S.length := by rw [← hs, List.length_map]
    rw [hl] at h4 ⊢
    refine ⟨ad, k, s, ?_, hs, h4⟩
    rw [ha, hb, hc, ← hs, frM_of s p0 h2, toM_of s, lvM_of s]
    rfl
  · rw [h1] at hs; cases hs
theorem NextOut.none {w w' : World} {wd : Int} {rs : List Mq} {e : Ending} {F : List Mt.Me} (h : NextOut w wd rs e w') (hF : rs.map Mq.m = F) (hs : scan2 wd F = none) :
    e = .returned (.tuple #[.agg #[.int .i64 0, .int .i64 0, .int .i64 0, .slice none 0 0], .bool false]) := by
  rw [← hF, ← scan2_of] at hs
  rcases h with ⟨s, p0, v', h1, h2, rfl, h4⟩ | ⟨h1, rfl⟩
  · rw [h1] at hs; cases hs
  · rfl
theorem pnx_some (v : Value) (t wd : Int) (qs : List Mq) (K : List (List UInt8)) (F S : List Mt.Me) (a b c : Int) (w : World) (h : LstR w v t qs K) (hup : UpQ qs) (hm : qs.length ≤ 1000) (hk : ∀ q ∈ qs, OkB q.m) (hw : wd ≤ 100000) (hF : FreeIs (qs.map Mq.m) K F) (hs : scan2 wd F = some S) (ha : a = frM S) (hb : b = toM S) (hc : c = lvM S) :
    Calls Try.prog 8 #[v, .int .i64 wd] w fun e w' => ∃ ad k s, e = .returned (.tuple #[.agg #[.int .i64 a, .int .i64 b, .int .i64 c, .slice ad S.length k], .bool true]) ∧ s.map Mq.m = S ∧ MsR w' (.slice ad S.length k) s ∧ Below w.heap.size w w' := by
  refine (plnext_any v t wd qs K w h hup hm hk hw).mono ?_
  rintro e w' ⟨rs, hfr, ho, b9⟩
  obtain ⟨ad, k, s, e1, e2, e3⟩ := ho.some (hfr.one hF) hs ha hb hc
  exact ⟨ad, k, s, e1, e2, e3, b9⟩
theorem pnx_none (v : Value) (t wd : Int) (qs : List Mq) (K : List (List UInt8)) (F : List Mt.Me) (w : World) (h : LstR w v t qs K) (hup : UpQ qs) (hm : qs.length ≤ 1000) (hk : ∀ q ∈ qs, OkB q.m) (hw : wd ≤ 100000) (hF : FreeIs (qs.map Mq.m) K F) (hs : scan2 wd F = none) :
    Calls Try.prog 8 #[v, .int .i64 wd] w fun e w' => e = .returned (.tuple #[.agg #[.int .i64 0, .int .i64 0, .int .i64 0, .slice none 0 0], .bool false]) ∧ Below w.heap.size w w' := by
  refine (plnext_any v t wd qs K w h hup hm hk hw).mono ?_
  rintro e w' ⟨rs, hfr, ho, b9⟩
  exact ⟨ho.none (hfr.one hF) hs, b9⟩
theorem rnx_some (at' : Int) (v : Value) (wd : Int) (ts : List (Mq × Int)) (F S : List Mt.Me) (a b c : Int) (w : World) (h : TsR w v ts) (hm : ts.length ≤ 1000) (hk : ∀ p ∈ ts, OkF p.1.m) (hw : wd ≤ 100000) (hF : (freeT ts ts).map Mq.m = F) (hsr : F.Pairwise ltM) (hs : scan2 wd F = some S) (ha : a = frM S) (hb : b = toM S) (hc : c = lvM S) :
    Calls Try.prog 9 #[.agg #[.int .i64 at', v], .int .i64 wd] w fun e w' => ∃ ad k s, e = .returned (.tuple #[.agg #[.int .i64 a, .int .i64 b, .int .i64 c, .slice ad S.length k], .bool true]) ∧ s.map Mq.m = S ∧ MsR w' (.slice ad S.length k) s ∧ Below w.heap.size w w' := by
  refine (rnext_any at' v wd ts w h hm hk (by rw [hF]; exact hsr) hw).mono ?_
  rintro e w' ⟨ho, b9⟩
  obtain ⟨ad, k, s, e1, e2, e3⟩ := ho.some hF hs ha hb hc
  exact ⟨ad, k, s, e1, e2, e3, b9⟩
theorem rnx_none (at' : Int) (v : Value) (wd : Int) (ts : List (Mq × Int)) (F : List Mt.Me) (w : World) (h : TsR w v ts) (hm : ts.length ≤ 1000) (hk : ∀ p ∈ ts, OkF p.1.m) (hw : wd ≤ 100000) (hF : (freeT ts ts).map Mq.m = F) (hsr : F.Pairwise ltM) (hs : scan2 wd F = none) :
    Calls Try.prog 9 #[.agg #[.int .i64 at', v], .int .i64 wd] w fun e w' => e = .returned (.tuple #[.agg #[.int .i64 0, .int .i64 0, .int .i64 0, .slice none 0 0], .bool false]) ∧ Below w.heap.size w w' := by
  refine (rnext_any at' v wd ts w h hm hk (by rw [hF]; exact hsr) hw).mono ?_
  rintro e w' ⟨ho, b9⟩
  exact ⟨ho.none hF hs, b9⟩
theorem okF_all (wd : Int) (hw : 1 ≤ wd ∧ wd ≤ 1000) (l : List Og) (i : Nat) (ts : List (Mq × Int)) (h : ts.map (fun p => p.1.m) = msO wd l i) : ∀ p ∈ ts, OkF p.1.m := by
  intro p hp
  have hm : p.1.m ∈ msO wd l i := by rw [← h]; exact List.mem_map_of_mem (f := fun p => p.1.m) hp
  unfold msO at hm
  obtain ⟨k, _, hk⟩ := List.mem_filterMap.1 hm
  obtain ⟨x, _, e⟩ := Option.map_eq_some_iff.1 hk
  rw [← e]
  exact ⟨okO wd hw k x, _, _, rfl⟩
/-- What Listing says, as PlanNext needs it. -/
structure NxI (w : World) (a9 : Option Addr) (n k9 mp : Nat) (a8 : Option Addr) (n8 k8 : Nat) (K : List (List UInt8)) (rs : List Mq) (ts : List (Mq × Int)) (F : List Mt.Me) : Prop where
  l : LstR w (.agg #[.int .i64 5, .slice a9 n k9, .map (some mp)]) 5 rs K
  up : UpQ rs
  ok : ∀ q ∈ rs, OkB q.m
  len : rs.length ≤ 20
  t : TsR w (.slice a8 n8 k8) ts
  tlen : ts.length ≤ 1000
  tok : ∀ p ∈ ts, OkF p.1.m
  free : FreeIs (rs.map Mq.m) K F
  tfree : (freeT ts ts).map Mq.m = F
  tom : rtomT (restT ts) (restT ts) = ids (tomQ K rs)
  fl : F.length ≤ 1000
theorem NxI.on {w w' : World} {a9 : Option Addr} {n k9 mp : Nat} {a8 : Option Addr} {n8 k8 : Nat} {K : List (List UInt8)} {rs : List Mq} {ts : List (Mq × Int)} {F : List Mt.Me} (h : NxI w a9 n k9 mp a8 n8 k8 K rs ts F) (b : Below w.heap.size w w') : NxI w' a9 n k9 mp a8 n8 k8 K rs ts F :=
  ⟨h.l.on b, h.up, h.ok, h.len, h.t.on b, h.tlen, h.tok, h.free, h.tfree, h.tom, h.fl⟩
theorem lst20_next (v : Value) (l : List Og) (wd : Int) (w : World) (h : Rd w 5 v l.length (ogc l)) (hw : 1 ≤ wd ∧ wd ≤ 1000) :
    Calls Try.prog 7 #[v, .int .i64 wd] w fun e w' => ∃ a9 k9 n mp a8 k8 n8 K rs ts F, e = .returned (.tuple #[.agg #[.int .i64 5, .slice a9 n k9, .map (some mp)], .agg #[.int .i64 5, .slice a8 n8 k8]]) ∧ NxI w' a9 n k9 mp a8 n8 k8 K rs ts F ∧ Below w.heap.size w w' := by
  refine (listing20_any v l wd w h hw).mono ?_
  rintro e w1 ⟨⟨lv, v8, rs, ts, rfl, hl, hrm, hv8, htm, htk, hto⟩, b1⟩
  obtain ⟨ms, mp, rfl, hm1, hm2⟩ := hl
  obtain ⟨a9, k9, rfl⟩ := rd_form hm1.rd
  obtain ⟨a8, k8, rfl⟩ := rd_form hv8
  have hlen : rs.length ≤ 12 := by
    have := congrArg List.length hrm
    rw [List.length_map, msO_len wd l _ (Nat.min_le_left _ _)] at this
    omega
  have htl : ts.length = min l.length 12 := by
    have := congrArg List.length htm
    rw [List.length_map, msO_len wd l _ (Nat.min_le_left _ _)] at this
    exact this
  obtain ⟨hu, hks⟩ := told_is wd l (min l.length 12) (Nat.min_le_left _ _) (by omega) ts htm htk
  have hne : ts.Pairwise (fun a b => a.1.m.id ≠ b.1.m.id) := hu.imp (fun {a b} h e => by rw [e] at h; exact bytes_lt_irrefl _ h)
  have hfr := freeT_is ts (ksO l (min l.length 12)) hne hks
  rw [htm, ← hrm] at hfr
  refine ⟨a9, k9, _, mp, a8, k8, _, _, rs, ts, _, rfl, ⟨⟨_, mp, rfl, hm1, hm2⟩, msO_up wd l _ (Nat.min_le_left _ _) (by omega) rs hrm, okO_all wd hw l _ rs hrm, by omega, ⟨by rw [htl]; exact hv8, hto⟩, by omega, okF_all wd hw l _ ts htm, hfr, rfl, (tom_told _ rs ts (htm.trans hrm.symm) hks).symm, ?_⟩, b1⟩
  rw [List.length_map]
  exact Nat.le_trans (freeT_len ts ts) (by omega)
theorem nx_boxes {w1 w2 w3 : World} {XO YO PO QO : Obj} (b2 : Below ((w1.alloc XO).alloc YO).heap.size ((w1.alloc XO).alloc YO) w2) (b3 : Below (w2.alloc PO).heap.size (w2.alloc PO) w3) :
    ∀ W, Below (w3.alloc QO).heap.size (w3.alloc QO) W → W.heap[w1.heap.size]? = some XO ∧ W.heap[w1.heap.size + 1]? = some YO ∧ W.heap[w2.heap.size]? = some PO ∧ W.heap[w3.heap.size]? = some QO ∧ Below w1.heap.size w1 W ∧ Below w2.heap.size w2 W ∧ Below w3.heap.size w3 W := by
  intro W bb
  have s1 : (w1.alloc XO).heap.size = w1.heap.size + 1 := by simp
  have s1' : ((w1.alloc XO).alloc YO).heap.size = w1.heap.size + 2 := by simp
  have s2 : (w2.alloc PO).heap.size = w2.heap.size + 1 := by simp
  have s3 : (w3.alloc QO).heap.size = w3.heap.size + 1 := by simp
  have z2 := b2.size
  have z3 := b3.size
  have y := heap_alloc_new (w1.alloc XO) YO
  rw [s1] at y
  have c3 : Below w3.heap.size w3 W := ((Below.refl _ _).alloc (Nat.le_refl _) QO).trans (bb.mono (by omega))
  have c2 : Below w2.heap.size w2 W := (((Below.refl _ _).alloc (Nat.le_refl _) PO).trans (b3.mono (by omega))).trans (c3.mono (by omega))
  have d2 : Below (w2.alloc PO).heap.size (w2.alloc PO) W := b3.trans (c3.mono z3)
  have d1 : Below ((w1.alloc XO).alloc YO).heap.size ((w1.alloc XO).alloc YO) W := b2.trans (c2.mono z2)
  have c1 : Below w1.heap.size w1 W := (((Below.refl _ _).alloc (Nat.le_refl _) XO).alloc (by omega) YO).trans (d1.mono (by omega))
  exact ⟨(d1.block _ (by omega)).trans ((Below.heap_alloc (w1.alloc XO) YO _ (by omega)).trans (heap_alloc_new w1 XO)), (d1.block _ (by omega)).trans y, (d2.block _ (by omega)).trans (heap_alloc_new w2 PO), (bb.block _ (by omega)).trans (heap_alloc_new w3 QO), c1, c2, c3⟩
theorem two_boxes {w1 W : World} {XO YO : Obj} (b : Below ((w1.alloc XO).alloc YO).heap.size ((w1.alloc XO).alloc YO) W) : W.heap[w1.heap.size]? = some XO ∧ W.heap[w1.heap.size + 1]? = some YO ∧ Below w1.heap.size w1 W := by
  have s1 : (w1.alloc XO).heap.size = w1.heap.size + 1 := by simp
  have s1' : ((w1.alloc XO).alloc YO).heap.size = w1.heap.size + 2 := by simp
  have y := heap_alloc_new (w1.alloc XO) YO
  rw [s1] at y
  exact ⟨(b.block _ (by omega)).trans ((Below.heap_alloc (w1.alloc XO) YO _ (by omega)).trans (heap_alloc_new w1 XO)), (b.block _ (by omega)).trans y, (((Below.refl _ _).alloc (Nat.le_refl _) XO).alloc (by omega) YO).trans (b.mono (by omega))⟩
end Go.Proofs.Ytkialkjhjenkhaa
