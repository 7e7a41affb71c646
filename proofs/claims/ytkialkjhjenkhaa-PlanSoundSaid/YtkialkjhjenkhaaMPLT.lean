/- Layer 20: PlanSound: the calls as the law needs them. -/
import Derived.Test.YtkialkjhjenkhaaMPLS
import Derived.Test.YtkialkjhjenkhaaMPLR
import Derived.Test.YtkialkjhjenkhaaMPLQ
namespace Go.Proofs.Ytkialkjhjenkhaa
open Go.RowKit Go.Lib
set_option linter.unusedVariables false

/-- A plan that was answered: its blocks, where they lie. -/
structure SndP (w : World) (wd : Int) (qs : List Mq) (K : List (List UInt8)) (s : List Mq) (p0 : Mq) (a b c : Int) (v : Value) : Prop where
  ha : a = p0.m.mn
  hb : b = toQ s
  hc : c = min (lvQ s + 1) 9
  ms : MsR w v s
  hd : s[0]? = some p0
  more : 1 < s.length
  most : s.length ≤ 20
  bytes : (s.map fun q => sumF q.m.files).sum ≤ 262144
  lo : ∀ q ∈ s, a ≤ q.m.mn
  hi : ∀ q ∈ s, q.m.mx ≤ b
  range : a / (9 * wd) = (b - 1) / (9 * wd)
  pos : 0 ≤ a ∧ 1 ≤ b ∧ b ≤ 1000000
  lv : 2 ≤ c ∧ c ≤ 9
  free : ∀ q ∈ s, q.m.id ∉ K ∧ srcs qs q.m.id = false ∧ q.m ∈ qs.map Mq.m
  ids : (ids s).Pairwise (fun x y => x ≠ y)
theorem sound_next (v : Value) (t wd : Int) (qs : List Mq) (K : List (List UInt8)) (w : World) (h : LstR w v t qs K) (hup : UpQ qs) (hm : qs.length ≤ 1000) (hk : ∀ q ∈ qs, OkP q.m) (hw : 1 ≤ wd ∧ wd ≤ 1000) :
    Calls Try.prog 8 #[v, .int .i64 wd] w fun e w' => ∃ a b c ad n k ok, e = .returned (.tuple #[.agg #[.int .i64 a, .int .i64 b, .int .i64 c, .slice ad n k], .bool ok]) ∧ (ok = true → ∃ s p0, Hid (n = s.length) ∧ SndP w' wd qs K s p0 a b c (.slice ad n k)) ∧ Below w.heap.size w w' := by
  refine (plnext_any v t wd qs K w h hup hm (fun q hq => (hk q hq).1) (by omega) (by omega)).mono ?_
  rintro e w' ⟨rs, hf, ho, b⟩
  rcases ho with ⟨s, p0, v', h2, h3, rfl, h4⟩ | ⟨h2, rfl⟩
  · obtain ⟨ad, k, rfl⟩ := rd_form h4.rd
    have hin : ∀ q ∈ rs, q.m ∈ qs.map Mq.m ∧ (¬ ∃ p ∈ qs.map Mq.m, q.m.id ∈ p.src) ∧ q.m.id ∉ K := fun q hq => (hf.2 q.m).1 (List.mem_map_of_mem hq)
    have hok : ∀ q ∈ rs, OkP q.m := by
      intro q hq
      obtain ⟨q', h5, h6⟩ := List.mem_map.1 (hin q hq).1
      rw [← h6]; exact hk q' h5
    have hmax : max wd 1 = wd := by omega
    rw [hmax] at h2
    have P : PlanOk wd rs s p0 := by
      cases h3' : scanQ (3 * wd) rs with
      | some s' =>
        rw [h3', Option.some_or] at h2
        obtain rfl := Option.some.inj h2
        exact plan_ok wd (3 * wd) hw (.inl rfl) rs s' p0 h3' h3 hf.1 hok
      | none =>
        rw [h3', Option.none_or] at h2
        exact plan_ok wd (9 * wd) hw (.inr rfl) rs s p0 h2 h3 hf.1 hok
    refine ⟨_, _, _, ad, s.length, k, true, rfl, fun _ => ⟨s, p0, rfl, rfl, rfl, rfl, h4, h3, P.more, P.most, P.bytes, P.lo, P.hi, P.range, P.pos, P.lv, fun q hq => ?_, ?_⟩, b⟩
    · have h5 := hin q (P.sub.subset hq)
      exact ⟨h5.2.2, (srcs_map qs q.m.id).2 h5.2.1, h5.1⟩
    · have pw : (s.map Mq.m).Pairwise ltM := hf.1.sublist (P.sub.map Mq.m)
      have hnd : ∀ x ∈ qs.map Mq.m, ∀ y ∈ qs.map Mq.m, x.id = y.id → x = y := by
        have h6 := hup.nodup
        have h7 : (qs.map Mq.m).Pairwise (fun x y => x.id < y.id) := by
          rw [List.pairwise_map] at h6 ⊢; exact h6
        intro x hx y hy e
        obtain ⟨i, hi, rfl⟩ := List.getElem_of_mem hx
        obtain ⟨j, hj, rfl⟩ := List.getElem_of_mem hy
        rcases Nat.lt_trichotomy i j with h8 | h8 | h8
        · exact absurd (e ▸ (List.pairwise_iff_getElem.1 h7 i j hi hj h8)) (bytes_lt_irrefl _)
        · subst h8; rfl
        · exact absurd (e ▸ (List.pairwise_iff_getElem.1 h7 j i hj hi h8)) (bytes_lt_irrefl _)
      have pw2 : (s.map Mq.m).Pairwise (fun x y => x.id ≠ y.id) := by
        rw [List.pairwise_iff_getElem] at pw ⊢
        intro i j hi hj hij e
        have mem : ∀ x ∈ s.map Mq.m, x ∈ qs.map Mq.m := fun x hx => by
          obtain ⟨q, hq, rfl⟩ := List.mem_map.1 hx
          exact (hin q (P.sub.subset hq)).1
        have e2 := hnd _ (mem _ (List.getElem_mem hi)) _ (mem _ (List.getElem_mem hj)) e
        have := pw i j hi hj hij
        rw [e2] at this
        exact ltM_irrefl _ this
      unfold ids
      rw [List.pairwise_map] at pw2 ⊢
      exact pw2
  · exact ⟨_, _, _, none, 0, 0, false, rfl, (fun h => by cases h), b⟩
theorem okP_all (wd : Int) (hw : 1 ≤ wd ∧ wd ≤ 1000) (l : List Og) (i : Nat) (qs : List Mq) (h : qs.map Mq.m = msO wd l i) : ∀ q ∈ qs, OkP q.m ∧ ∃ f g, q.m.files = [f, g] := by
  intro q hq
  have hm : q.m ∈ msO wd l i := by rw [← h]; exact List.mem_map_of_mem hq
  unfold msO at hm
  obtain ⟨k, _, hk⟩ := List.mem_filterMap.1 hm
  obtain ⟨x, _, e⟩ := Option.map_eq_some_iff.1 hk
  rw [← e]
  have hB : 0 ≤ x.wi % 4 ∧ x.wi % 4 < 4 := by omega
  have h2 : 1 * wd ≤ (1 + x.wi % 4) * wd := Int.mul_le_mul_of_nonneg_right (by omega) (by omega)
  exact ⟨⟨okO wd hw k x, by unfold meO; simp only; omega, by unfold meO; simp only; omega⟩, _, _, rfl⟩
theorem lst20s_any (v : Value) (l : List Og) (wd : Int) (w : World) (h : Rd w 5 v l.length (ogc l)) (hw : 1 ≤ wd ∧ wd ≤ 1000) :
    Calls Try.prog 7 #[v, .int .i64 wd] w fun e w' => ∃ a9 k9 n mp a8 k8 n8 rs, e = .returned (.tuple #[.agg #[.int .i64 5, .slice a9 n k9, .map (some mp)], .agg #[.int .i64 5, .slice a8 n8 k8]]) ∧ LstR w' (.agg #[.int .i64 5, .slice a9 n k9, .map (some mp)]) 5 rs (ksO l (min l.length 12)) ∧ UpQ rs ∧ n ≤ 12 ∧ Hid (n = rs.length) ∧ (∀ q ∈ rs, OkP q.m ∧ ∃ f g, q.m.files = [f, g]) ∧ Below w.heap.size w w' := by
  refine (listing20_any v l wd w h hw).mono ?_
  rintro e w1 ⟨⟨lv, v8, rs, ts, rfl, hl, hrm, hv8, -, -, -⟩, b1⟩
  obtain ⟨ms, mp, rfl, hm1, hm2⟩ := hl
  obtain ⟨a9, k9, rfl⟩ := rd_form hm1.rd
  obtain ⟨a8, k8, rfl⟩ := rd_form hv8
  have hlen : rs.length ≤ 12 := by
    have := congrArg List.length hrm
    rw [List.length_map, msO_len wd l _ (Nat.min_le_left _ _)] at this
    omega
  exact ⟨a9, k9, _, mp, a8, k8, _, rs, rfl, ⟨_, mp, rfl, hm1, hm2⟩, msO_up wd l _ (Nat.min_le_left _ _) (by omega) rs hrm, hlen, rfl, okP_all wd hw l _ rs hrm, b1⟩
end Go.Proofs.Ytkialkjhjenkhaa
