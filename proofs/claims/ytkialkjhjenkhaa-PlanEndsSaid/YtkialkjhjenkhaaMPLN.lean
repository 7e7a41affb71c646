/- Layer 20: a slice of the statements' blocks that came in, opened. Layer 20: what is to be marked, marked: plain maths, and the calls as the law needs them. -/
import Derived.Test.YtkialkjhjenkhaaMPLM
import Derived.Deep.SlicePairs
import Derived.Deep.Onto
import Derived.Test.YtkialkjhjenkhaaMPLO
namespace Go.Proofs.Ytkialkjhjenkhaa
open Go.RowKit Go.Lib Go.Deep Go.ChangeShapes Go.WideShapes
set_option linter.unusedVariables false

def OgsAt (w : World) (ao : Option Addr) (len cap : Nat) (l : List Og) : Prop := l.length = len ∧ Rd w 5 (.slice ao len cap) l.length (ogc l)
theorem five {α : Type} (l : List α) (h : l.length = 5) : ∃ a b c d e, l = [a, b, c, d, e] := by
  match l, h with
  | [a, b, c, d, e], _ => exact ⟨a, b, c, d, e, rfl⟩
instance : Inhabited Og := ⟨⟨0, 0, 0, 0, false⟩⟩
theorem ogs_open {H : Type} {enc : TypeId × Value → H} {W : World} {base : Nat} {spare : Nat → Bool} {held : Bool} {fuel : Nat} {ao : Option Addr} {len cap : Nat} {x : DataW H × List MemPlace}
    (h : DataW.trod enc Try.prog W base spare held fuel 22 [.slice ao len cap] = some x) : ∃ ts, len ≤ maxLen ∧ OgsAt W ao len cap ts := by
  rcases open_slice Try.underlying22 h with ⟨hcs, _⟩ | ⟨a, len', cap', m, n, D, Pl, hcs, hb, hl, hm, hmm, _, hi⟩
  · simp only [List.cons.injEq, Value.slice.injEq, and_true] at hcs
    obtain ⟨rfl, rfl, rfl⟩ := hcs
    exact ⟨[], Nat.zero_le _, rfl, rfl, none, 0, 0, 0, rfl, fun h => absurd h (Nat.lt_irrefl 0), fun j hj => by simp at hj⟩
  · simp only [List.cons.injEq, Value.slice.injEq, and_true] at hcs
    obtain ⟨rfl, rfl, rfl⟩ := hcs
    have hlm : len ≤ m := by rw [hmm]; split <;> omega
    have ce : Try.prog.cellsOf 64 = 5 := by kernel_rfl
    have each : ∀ i, i < m → ∃ t : Og, W.cell? (a.add (i * 5)) = some (.int .i64 t.fr) ∧ W.cell? ((a.add (i * 5)).add 1) = some (.int .i64 t.wi) ∧ W.cell? ((a.add (i * 5)).add 2) = some (.int .i64 t.sz) ∧ W.cell? ((a.add (i * 5)).add 3) = some (.int .i64 t.so) ∧ W.cell? ((a.add (i * 5)).add 4) = some (.bool t.md) := by
      intro i him
      obtain ⟨cs', h1, h2⟩ := hi i him
      rw [ce] at h1
      obtain ⟨_, hlen, hcell⟩ := World.cells?_some h1
      obtain ⟨c0, c1, c2, c3, c4, rfl⟩ := five cs' hlen
      obtain ⟨xs, k, hk, hxy, _, hxl, hf⟩ := DataW.trod_struct Try.underlying64 h2
      obtain ⟨y0, y1, y2, y3, y4, rfl⟩ := five xs hxl
      have e0 := hcell 0 (by omega); have e1 := hcell 1 (by omega); have e2 := hcell 2 (by omega); have e3 := hcell 3 (by omega); have e4 := hcell 4 (by omega)
      have ci : Try.prog.cellsOf 3 = 1 := by kernel_rfl
      have cb : Try.prog.cellsOf 4 = 1 := by kernel_rfl
      have g0 := hf 0 _ rfl; have g1 := hf 1 _ rfl; have g2 := hf 2 _ rfl; have g3 := hf 3 _ rfl; have g4 := hf 4 _ rfl
      simp [ci, cb] at g0 g1 g2 g3 g4
      obtain ⟨z0, q0, _, w0⟩ := DataW.trod_int Try.underlying3 g0
      obtain ⟨z1, q1, _, w1⟩ := DataW.trod_int Try.underlying3 g1
      obtain ⟨z2, q2, _, w2⟩ := DataW.trod_int Try.underlying3 g2
      obtain ⟨z3, q3, _, w3⟩ := DataW.trod_int Try.underlying3 g3
      obtain ⟨z4, q4, _⟩ := DataW.trod_bool Try.underlying4 g4
      simp only [List.cons.injEq, and_true] at q0 q1 q2 q3 q4
      subst q0 q1 q2 q3 q4
      exact ⟨⟨z0, z1, z2, z3, z4⟩, by rw [add_add, Nat.add_zero] at e0; simpa using e0, by simpa using e1, by simpa using e2, by simpa using e3, by simpa using e4⟩
    obtain ⟨T, hT⟩ := choose_lt each
    have hlen : ((List.range len).map T).length = len := by simp
    refine ⟨(List.range len).map T, Nat.le_trans hl hm, hlen, ?_⟩
    rw [hlen]
    by_cases h0 : len = 0
    · subst h0
      exact ⟨rfl, some a, cap, 0, 0, rfl, fun h => absurd h (Nat.lt_irrefl 0), fun j hj => by simp at hj⟩
    · obtain ⟨b, off, spot⟩ := a
      have hspot : spot = none := by
        have := World.cell?_spot (hT 0 (by omega)).1
        simpa [Addr.add] using this
      subst hspot
      have hc0 := (hT 0 (by omega)).1
      refine ⟨by rw [ogc_len, hlen], some ⟨b, off, none⟩, cap, b, off, rfl, fun _ => ⟨rfl, ?_⟩, fun j hj => ?_⟩
      · have := World.block_lt_of_cell? W _ hc0
        rwa [add_plain] at this
      · have hq : j / 5 < len := by omega
        have hi2 : ((List.range len).map T)[j / 5]? = some (T (j / 5)) := by
          simp only [List.getElem?_map, List.getElem?_range hq, Option.map_some]
        have key := ogc_at ((List.range len).map T) (j / 5) (T (j / 5)) hi2 (j % 5) (Nat.mod_lt _ (by decide))
        rw [show j / 5 * 5 + j % 5 = j by omega] at key
        rw [key]
        obtain ⟨d0, d1, d2, d3, d4⟩ := hT (j / 5) (by omega)
        simp only [add_plain] at d0 d1 d2 d3 d4
        have : j % 5 = 0 ∨ j % 5 = 1 ∨ j % 5 = 2 ∨ j % 5 = 3 ∨ j % 5 = 4 := by omega
        rcases this with h5 | h5 | h5 | h5 | h5 <;> rw [h5]
        · rw [show off + j = off + j / 5 * 5 by omega]; exact d0
        · rw [show off + j = off + j / 5 * 5 + 1 by omega]; exact d1
        · rw [show off + j = off + j / 5 * 5 + 2 by omega]; exact d2
        · rw [show off + j = off + j / 5 * 5 + 3 by omega]; exact d3
        · rw [show off + j = off + j / 5 * 5 + 4 by omega]; exact d4
end Go.Proofs.Ytkialkjhjenkhaa

namespace Go.Proofs.Ytkialkjhjenkhaa
open Go.RowKit Go.Lib
set_option linter.unusedVariables false

theorem fstG_map (wd frm : Int) : ∀ (a b : List Mq) (t : Tot) (x y : List Mq), a.map Mq.m = b.map Mq.m → x.map Mq.m = y.map Mq.m → (fstG wd frm a t x).map Mq.m = (fstG wd frm b t y).map Mq.m
  | [], [], t, x, y, _, h => h
  | [], q :: b, t, x, y, h, _ => by simp at h
  | q :: a, [], t, x, y, h, _ => by simp at h
  | p :: a, q :: b, t, x, y, h, k => by
    rw [List.map_cons, List.map_cons, List.cons.injEq] at h
    obtain ⟨h1, h2⟩ := h
    unfold fstG
    rw [h1]
    split
    · exact k
    · split
      · exact fstG_map wd frm a b t x y h2 k
      · split
        · exact fstG_map wd frm a b _ _ _ h2 (by rw [List.map_append, List.map_append, k]; simp [h1])
        · exact k
theorem fstQ_map (wd : Int) (a b : List Mq) (h : a.map Mq.m = b.map Mq.m) : (fstQ wd a).map Mq.m = (fstQ wd b).map Mq.m := by
  cases a with
  | nil => cases b with
    | nil => rfl
    | cons q b => simp at h
  | cons p a => cases b with
    | nil => simp at h
    | cons q b =>
      have h' := h
      rw [List.map_cons, List.map_cons, List.cons.injEq] at h
      unfold fstQ
      simp only
      rw [h.1]
      exact fstG_map wd _ _ _ _ _ _ h' rfl
theorem fstQ_length (wd : Int) (a b : List Mq) (h : a.map Mq.m = b.map Mq.m) : (fstQ wd a).length = (fstQ wd b).length := by
  have := congrArg List.length (fstQ_map wd a b h)
  simpa using this
theorem scanQ_length (wd : Int) : ∀ (a b : List Mq), a.map Mq.m = b.map Mq.m → (scanQ wd a).map List.length = (scanQ wd b).map List.length
  | [], [], _ => rfl
  | [], q :: b, h => by simp at h
  | q :: a, [], h => by simp at h
  | p :: a, q :: b, h => by
    have h' := h
    rw [List.map_cons, List.map_cons, List.cons.injEq] at h
    have e := fstQ_length wd (p :: a) (q :: b) h'
    unfold scanQ
    rw [e]
    split
    · simp only [Option.map_some]; rw [e]
    · exact scanQ_length wd a b h.2
def noQ (m : Mt.Me) : Mq := ⟨m, .slice none 0 0, .slice none 0 0⟩
/-- Is there a plan, and of how many blocks? -/
def nlM (wd : Int) (F : List Mt.Me) : Bool × Nat :=
  let o := ((scanQ (3 * max wd 1) (F.map noQ)).or (scanQ (9 * max wd 1) (F.map noQ))).map List.length
  (o.isSome, o.getD 0)
theorem nlM_of (wd : Int) (rs : List Mq) : ((scanQ (3 * max wd 1) rs).or (scanQ (9 * max wd 1) rs)).map List.length = ((scanQ (3 * max wd 1) ((rs.map Mq.m).map noQ)).or (scanQ (9 * max wd 1) ((rs.map Mq.m).map noQ))).map List.length := by
  have e : rs.map Mq.m = ((rs.map Mq.m).map noQ).map Mq.m := by rw [List.map_map]; simp [noQ, Function.comp_def]
  have h3 := scanQ_length (3 * max wd 1) _ _ e
  have h9 := scanQ_length (9 * max wd 1) _ _ e
  cases a3 : scanQ (3 * max wd 1) rs <;> cases b3 : scanQ (3 * max wd 1) ((rs.map Mq.m).map noQ) <;> rw [a3, b3] at h3
  · simp only [Option.none_or]; exact h9
  · simp at h3
  · simp at h3
  · simp only [Option.some_or]; exact h3
theorem next_len (v : Value) (t wd : Int) (qs : List Mq) (K : List (List UInt8)) (w : World) (h : LstR w v t qs K) (hup : UpQ qs) (hm : qs.length ≤ 1000) (hk : ∀ q ∈ qs, OkB q.m) (hw : 1 ≤ wd ∧ wd ≤ 1000) :
    Calls Try.prog 8 #[v, .int .i64 wd] w fun e w' => ∃ F a b c ad n k ok, FreeIs (qs.map Mq.m) K F ∧ e = .returned (.tuple #[.agg #[.int .i64 a, .int .i64 b, .int .i64 c, .slice ad n k], .bool ok]) ∧ (ok, n) = nlM wd F ∧ Below w.heap.size w w' := by
  refine (plnext_any v t wd qs K w h hup hm hk (by omega)).mono ?_
  rintro e w' ⟨rs, hf, ho, b⟩
  have hn := nlM_of wd rs
  rcases ho with ⟨s, p0, v', h2, h3, rfl, h4⟩ | ⟨h2, rfl⟩
  · obtain ⟨ad, k, rfl⟩ := rd_form h4.rd
    rw [h2] at hn
    refine ⟨_, _, _, _, ad, s.length, k, true, hf, rfl, ?_, b⟩
    unfold nlM
    simp only
    rw [← hn]; rfl
  · rw [h2] at hn
    refine ⟨_, _, _, _, none, 0, 0, false, hf, rfl, ?_, b⟩
    unfold nlM
    simp only
    rw [← hn]; rfl
theorem tom_mem (K : List (List UInt8)) (qs : List Mq) (x : List UInt8) : x ∈ ids (tomQ K qs) ↔ x ∉ K ∧ x ∈ qs.map (fun q => q.m.id) ∧ ∃ p ∈ qs, p.m.id ∉ K ∧ x ∈ p.m.src := by
  unfold ids tomQ unmQ
  simp only [List.mem_map, List.mem_filter, srcs, decide_eq_true_iff]
  constructor
  · rintro ⟨q, ⟨⟨hq, hk⟩, p, ⟨hp, hpk⟩, hx⟩, rfl⟩
    exact ⟨hk, ⟨q, hq, rfl⟩, p, hp, hpk, hx⟩
  · rintro ⟨hk, ⟨q, hq, rfl⟩, p, hp, hpk, hx⟩
    exact ⟨q, ⟨⟨hq, hk⟩, p, ⟨hp, hpk⟩, hx⟩, rfl⟩
/-- What is free stays free. -/
theorem more_free {qs : List Mq} {K K' : List (List UInt8)} {F : List Mt.Me} (hK : ∀ x, x ∈ K' ↔ x ∈ K ∨ x ∈ ids (tomQ K qs)) (h : FreeIs (qs.map Mq.m) K' F) : FreeIs (qs.map Mq.m) K F := by
  refine ⟨h.1, fun m => (h.2 m).trans ⟨fun ⟨h1, h2, h3⟩ => ⟨h1, h2, fun hm => h3 ((hK _).2 (.inl hm))⟩, fun ⟨h1, h2, h3⟩ => ⟨h1, h2, fun hm => ?_⟩⟩⟩
  rcases (hK _).1 hm with h4 | h4
  · exact h3 h4
  · obtain ⟨_, _, p, hp, _, hx⟩ := (tom_mem K qs m.id).1 h4
    exact h2 ⟨p.m, List.mem_map_of_mem hp, hx⟩
theorem more_tom {qs : List Mq} {K K' : List (List UInt8)} (hK : ∀ x, x ∈ K' ↔ x ∈ K ∨ x ∈ ids (tomQ K qs)) : tomQ K' qs = [] := by
  have : ids (tomQ K' qs) = [] := by
    rw [List.eq_nil_iff_forall_not_mem]
    intro x hx
    obtain ⟨h1, h2, p, hp, hpk, hxs⟩ := (tom_mem K' qs x).1 hx
    exact h1 ((hK x).2 (.inr ((tom_mem K qs x).2 ⟨fun h => h1 ((hK x).2 (.inl h)), h2, p, hp, fun h => hpk ((hK _).2 (.inl h)), hxs⟩)))
  unfold ids at this
  exact List.map_eq_nil_iff.1 this
theorem tom_same (K : List (List UInt8)) (a b : List Mq) (h : a.map Mq.m = b.map Mq.m) : ∀ x, x ∈ ids (tomQ K a) ↔ x ∈ ids (tomQ K b) := by
  have key : ∀ (c : List Mq) (x : List UInt8), x ∈ ids (tomQ K c) ↔ x ∉ K ∧ (∃ m ∈ c.map Mq.m, m.id = x) ∧ ∃ m ∈ c.map Mq.m, m.id ∉ K ∧ x ∈ m.src := by
    intro c x
    rw [tom_mem]
    simp only [List.mem_map]
    constructor
    · rintro ⟨h1, ⟨q, hq, rfl⟩, p, hp, h2, h3⟩
      exact ⟨h1, ⟨q.m, ⟨q, hq, rfl⟩, rfl⟩, p.m, ⟨p, hp, rfl⟩, h2, h3⟩
    · rintro ⟨h1, ⟨_, ⟨q, hq, rfl⟩, rfl⟩, _, ⟨p, hp, rfl⟩, h2, h3⟩
      exact ⟨h1, ⟨q, hq, rfl⟩, p, hp, h2, h3⟩
  intro x
  rw [key, key, h]
end Go.Proofs.Ytkialkjhjenkhaa
