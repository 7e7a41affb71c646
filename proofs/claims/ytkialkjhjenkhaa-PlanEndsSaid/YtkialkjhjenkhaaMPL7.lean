/- Layer 10: Shadowed. -/
import Derived.Test.YtkialkjhjenkhaaMPL6
namespace Go.Proofs.Ytkialkjhjenkhaa
open Go.RowKit Go.Lib
set_option linter.unusedVariables false

theorem SeenM.look {m j : Nat} {N : List (List UInt8)} {w : World} (h : SeenM m N j w) (x : List UInt8) :
    ∃ c : Nat, (c = 0 ↔ x ∉ N) ∧ (Instr.lookup 24 (.map (some m)) (.string (bs x)) false).run Try.prog w = .ok (.int .i64 c) w := by
  obtain ⟨c, W, _, h2, h3, _⟩ := h.step x
  exact ⟨c, h2, h3⟩
/-- The sources of some blocks, counted in a map. -/
def ShadM (mp : Nat) (qs : List Mq) (w : World) : Prop := ∃ N j, SeenM mp N j w ∧ ∀ x, x ∈ N ↔ ∃ q ∈ qs, x ∈ q.m.src
theorem ShadM.turn {S : Nat → Prop} {m : Nat} {qs : List Mq} {w w' : World} (h : ShadM m qs w) (t : Turn S w w') (hS : ¬ S m) : ShadM m qs w' := by
  obtain ⟨N, j, h1, h2⟩ := h
  exact ⟨N, j, h1.turn t hS, h2⟩
theorem ShadM.lt {m : Nat} {qs : List Mq} {w : World} (h : ShadM m qs w) : m < w.heap.size := by obtain ⟨N, j, h1, h2⟩ := h; exact h1.lt
/-- Has one of them this block as a source? -/
def srcs (qs : List Mq) (x : List UInt8) : Bool := decide (∃ q ∈ qs, x ∈ q.m.src)
theorem ShadM.look {m : Nat} {qs : List Mq} {w : World} (h : ShadM m qs w) (x : List UInt8) :
    ∃ c : Nat, (c = 0 ↔ srcs qs x = false) ∧ (Instr.lookup 24 (.map (some m)) (.string (bs x)) false).run Try.prog w = .ok (.int .i64 c) w := by
  obtain ⟨N, j, h1, h2⟩ := h
  obtain ⟨c, h3, h4⟩ := h1.look x
  refine ⟨c, h3.trans ?_, h4⟩
  unfold srcs
  rw [decide_eq_false_iff_not, h2]

/-- The map while it is counted. -/
structure ShL (w wr : World) (qs : List Mq) (i : Nat) (l : List (List UInt8)) (J : Nat) : Prop where
  mp : ∃ N j, SeenM (w.heap.size + 1) N j wr ∧ j ≤ J ∧ ∀ x, x ∈ N ↔ (∃ q ∈ qs.take i, x ∈ q.m.src) ∨ x ∈ l
  below : Below w.heap.size w wr
  big : w.heap.size + 2 ≤ wr.heap.size
theorem ShL.alloc {w wr : World} {qs : List Mq} {i J : Nat} {l : List (List UInt8)} (h : ShL w wr qs i l J) (o : Obj) : ShL w (wr.alloc o) qs i l J := by
  obtain ⟨K, j, h1, h2, h3⟩ := h.mp
  exact ⟨⟨K, j, h1.turn ((Turn.refl (fun _ => False) _).alloc o) id, h2, h3⟩, h.below.alloc h.below.size o, by have := h.big; simp; omega⟩
theorem sc_at1 (l : List (List UInt8)) (i : Nat) (x : List UInt8) (h : l[i]? = some x) : (sc l)[i * 1]? = some (.string (bs x)) := by
  rw [Nat.mul_one, sc, List.getElem?_map, h]; rfl
set_option maxHeartbeats 2000000 in
set_option maxRecDepth 100000 in
theorem shad_any (t v mv : Value) (qs : List Mq) (w : World) (h : MsR w v qs) (hm : qs.length ≤ 1000000) :
    Calls Try.prog 17 #[.agg #[t, v, mv]] w fun e w' => e = .returned (.map (some (w.heap.size + 1))) ∧ ShadM (w.heap.size + 1) qs w' ∧ Below w.heap.size w w' := by
  have hmm := @run_makeMap Try.prog
  have HH := Lib.hid h
  obtain ⟨_, ad, cap, g, off, rfl, hg, hc⟩ := h.rd
  have HQ := Lib.hid (fun W (bb : Below w.heap.size w W) i q (hq : qs[i]? = some q) (h0 : 0 < qs.length) => mq_at hc bb (hg h0).2 i q hq)
  have HG := Lib.hid hg
  clear h hg hc
  obtain ⟨N, hN⟩ : ∃ N, N = qs.length := ⟨_, rfl⟩
  have HN := Lib.hid hN
  rw [← hN] at hm HG ⊢
  clear hN
  have T0 : ShL w ((w.alloc (.cells #[t, .slice ad N cap, mv] 26)).alloc (.map #[] 0)) qs 0 [] 0 := by
    have s1 : (w.alloc (.cells #[t, .slice ad N cap, mv] 26)).heap.size = w.heap.size + 1 := by simp
    have b1 := heap_alloc_new (w.alloc (.cells #[t, .slice ad N cap, mv] 26)) (.map #[] 0)
    rw [s1] at b1
    exact ⟨⟨[], 0, SeenM.new b1, Nat.le_refl _, by simp⟩, ((Below.refl _ _).alloc (Nat.le_refl _) _).alloc (by omega) _, by simp⟩
  have HT0 := Lib.hid T0
  clear T0
  go_enter Try.func17, Try.ntmps17
  go_wp2_with fail
  go_loopw [12] (fun i' wr => ∃ i : Nat, i' = .int .i64 i ∧ i ≤ N ∧ ShL w wr qs i [] (i * 1000000)) (fun i' _ => N - (RowKit.intOf i').toNat)
  case atStart => exact ⟨0, rfl, Nat.zero_le _, HT0.out⟩
  case round =>
    clear HT0
    obtain ⟨W0, rfl⟩ : ∃ W0, W0 = wr := ⟨_, rfl⟩
    obtain ⟨i, rfl, hi, td⟩ := hrel
    by_cases hlt : i < N
    · obtain ⟨rfl, hgl⟩ := HG.out (by omega)
      have hil : (i : Int) < N := by omega
      obtain ⟨q, hq⟩ : ∃ q, qs[i]? = some q := ⟨_, List.getElem?_eq_getElem (by have := HN.out; omega)⟩
      have mq := HH.out.ok q (List.mem_of_getElem? hq)
      have hqq := HQ.out W0 td.below i q hq (by have := HN.out; omega)
      have HTK := Lib.hid (show qs.take (i + 1) = qs.take i ++ [q] by rw [List.take_add_one, hq]; rfl)
      obtain ⟨m, vf, vs⟩ := q
      replace mq : MeR w m vf vs := mq
      obtain ⟨af, kf, rfl⟩ := rd_form mq.1
      obtain ⟨_, as', ks, gs, os, rfl, hgs, hcs⟩ := mq.2.1
      have hns := mq.2.2.2
      obtain ⟨ns, hnn⟩ : ∃ ns, ns = m.src.length := ⟨_, rfl⟩
      rw [← hnn] at hqq hgs hcs hns
      obtain ⟨q0, q1, q2, q3, q4, q5, q6, q7⟩ := hqq
      simp only at q0 q1 q2 q3 q4 q5 q6 q7
      have HS0 := Lib.hid (fun o => td.alloc o)
      have HGS := Lib.hid hgs; have HCS := Lib.hid hcs; have HNN := Lib.hid hnn
      clear td mq hq hgs hcs hnn
      go_wp2_with fail
      go_loopw [19] (fun k' wr => ∃ k : Nat, k' = .int .i64 k ∧ k ≤ ns ∧ ShL w wr qs i (m.src.take k) (i * 1000000 + k)) (fun k' _ => ns - (RowKit.intOf k').toNat)
      case atStart =>
        refine ⟨0, rfl, Nat.zero_le _, ?_⟩
        rw [Nat.add_zero, List.take_zero]
        exact HS0.out _
      case round =>
        obtain ⟨W1, rfl⟩ : ∃ W1, W1 = wr := ⟨_, rfl⟩
        obtain ⟨k, rfl, hk, td⟩ := hrel
        by_cases hkl : k < ns
        · obtain ⟨rfl, hgsl⟩ := HGS.out (by omega)
          have hkil : (k : Int) < ns := by omega
          obtain ⟨x, hx⟩ : ∃ x, m.src[k]? = some x := ⟨_, List.getElem?_eq_getElem (by have := HNN.out; omega)⟩
          have hxc := ((td.below.cell (p := ⟨gs, os + k * 1, none⟩) hgsl).trans (by have := HCS.out (k * 1) (by omega); exact this)).trans (sc_at1 m.src k x hx)
          rw [Nat.mul_one] at hxc
          obtain ⟨K, j, hs, hj, hK⟩ := td.mp
          obtain ⟨c, W2, hc, -, hl, hu, ht, -, hs2⟩ := hs.step x
          have hcw : IntKind.i64.wrap ((c : Int) + 1) = (c : Int) + 1 := IntWalk.i64_in _ (by omega)
          have DONE := Lib.hid (show ShL w W2 qs i (m.src.take (k + 1)) (i * 1000000 + (k + 1)) from ⟨⟨_, _, hs2, by omega, fun y => by
              rw [List.take_add_one, hx]
              show y ∈ (if x ∈ K then K else K ++ [x]) ↔ _ ∨ y ∈ m.src.take k ++ [x]
              rw [List.mem_append, List.mem_singleton, ← or_assoc, ← hK y]
              split
              · rename_i hxK
                exact ⟨.inl, fun h => h.elim id (fun e => e ▸ hxK)⟩
              · rw [List.mem_append, List.mem_singleton]⟩, td.below.trans (ht.below (by have := td.big; omega) (fun k hk => by omega)), Nat.le_trans td.big ht.size⟩)
          clear td hs hs2 hK hc ht hx
          go_wp2_with fail
          exact ⟨⟨k + 1, by simp, by omega, DONE.out⟩, by simp [RowKit.intOf]; omega⟩
        · have hkil : ¬ (k : Int) < ns := by omega
          have hkn : k = ns := by omega
          have DONE := Lib.hid (show ShL w W1 qs (i + 1) [] ((i + 1) * 1000000) from ⟨by
              obtain ⟨K, j, h1, h2, h3⟩ := td.mp
              refine ⟨K, j, h1, by omega, fun y => ?_⟩
              rw [h3, hkn, HNN.out, List.take_length, HTK.out]
              simp only [List.mem_append, List.mem_singleton, List.not_mem_nil, or_false]
              constructor
              · rintro (⟨q, hq, hy⟩ | hy)
                · exact ⟨q, .inl hq, hy⟩
                · exact ⟨_, .inr rfl, hy⟩
              · rintro ⟨q, hq | rfl, hy⟩
                · exact .inl ⟨q, hq, hy⟩
                · exact .inr hy, td.below, td.big⟩)
          clear td hkn
          go_wp2_with fail
          exact ⟨⟨i + 1, by simp, by omega, DONE.out⟩, by simp [RowKit.intOf]; omega⟩
    · have hil : ¬ (i : Int) < N := by omega
      have DONE := Lib.hid (show ShadM (w.heap.size + 1) qs W0 from by
        obtain ⟨K, j, h1, h2, h3⟩ := td.mp
        refine ⟨K, j, h1, fun y => ?_⟩
        rw [h3, List.take_of_length_le (by have := HN.out; omega)]
        simp)
      have HB := Lib.hid td.below
      clear td
      go_wp2_with fail
      go_ret
      exact ⟨rfl, DONE.out, HB.out⟩
end Go.Proofs.Ytkialkjhjenkhaa
