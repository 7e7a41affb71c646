/- Layer 6: unlike; the statement LabelAnyOrder walked. -/
import Derived.Test.YtmgnmppdeiflbaaDoorLF
import Derived.Deep.RegionHeld3
import Derived.Deep.QuietTactic
import Derived.BigQuiet
namespace Go.Proofs.YtmgnmppdeiflbaaDoor
open Go.RowKit Go.Lib

/-- A truth, whichever. -/
def SomeB (w : World) (e : Ending) (w' : World) : Prop := ∃ b n, e = .returned (.bool b) ∧ w' = w.drewN n

set_option maxHeartbeats 2000000 in
set_option maxRecDepth 100000 in
theorem unlike_any (v : Value) (ds : List Pr) (w : World) (h : Rd w 2 v ds.length (prc ds)) (hm : ds.length ≤ 1000000) :
    Calls Tryd.prog 13 #[v] w (SomeB w) := by
  have hT := bs_toList
  obtain ⟨_, a, cap, g, off, rfl, hg, hc⟩ := h
  obtain ⟨n, hn⟩ : ∃ n, n = ds.length := ⟨_, rfl⟩
  rw [← hn] at hg hc hm ⊢
  have HN := Lib.hid hn
  have HC := Lib.hid hc
  have HG := Lib.hid hg
  clear hn hc hg
  go_enter Tryd.func13, Tryd.ntmps13
  go_wp2_with fail
  go_loopw [7] (fun i' wr => ∃ (i k : Nat), i' = .int .i64 i ∧ i ≤ n ∧ wr = w.drewN k) (fun i' _ => n - (intOf i').toNat)
  case atStart => exact ⟨0, 0, rfl, by omega, rfl⟩
  case round =>
    obtain ⟨i, k, rfl, hi, rfl⟩ := hrel
    by_cases hlt : i < n
    · obtain ⟨rfl, hgl⟩ := HG.out (by omega)
      have hil : (i : Int) < n := by omega
      obtain ⟨x, hx⟩ : ∃ x, ds[i]? = some x := ⟨ds[i]'(by have := HN.out; omega), List.getElem?_eq_getElem (by have := HN.out; omega)⟩
      have q0 := (HC.out (i * 2) (by omega)).trans (prc_at ds i x hx).1
      clear hx
      go_wp2_with fail
      go_loopw [4] (fun j' wr => ∃ (j k : Nat), j' = .int .i64 j ∧ j ≤ i ∧ wr = w.drewN k) (fun j' _ => i - (intOf j').toNat)
      case atStart => exact ⟨0, k, rfl, by omega, rfl⟩
      case round =>
        obtain ⟨j, k2, rfl, hj, rfl⟩ := hrel
        by_cases hjl : j < i
        · obtain ⟨y, hy⟩ : ∃ y, ds[j]? = some y := ⟨ds[j]'(by have := HN.out; omega), List.getElem?_eq_getElem (by have := HN.out; omega)⟩
          have p0 := (HC.out (j * 2) (by omega)).trans (prc_at ds j y hy).1
          have hji : (j : Int) < i := by omega
          have hjn : (j : Int) < n := by omega
          have c0 : (w.drewN k2).cell? ⟨g, off + j * 2, none⟩ = some (.string (bs y.n)) := p0
          have c1 : (w.drewN k2).cell? ⟨g, off + i * 2, none⟩ = some (.string (bs x.n)) := q0
          have d0 : (w.drewN k2).drew.cell? ⟨g, off + j * 2, none⟩ = some (.string (bs y.n)) := p0
          have d1 : (w.drewN k2).drew.cell? ⟨g, off + i * 2, none⟩ = some (.string (bs x.n)) := q0
          clear hy
          by_cases hq : y.n = x.n
          · have hb : (y.n == x.n) = true := by simpa using hq
            clear hq
            go_wp2_with fail
            go_region
            go_wp2
            go_ret
            exact ⟨_, k2 + 1, rfl, by simp⟩
          · have hb : (y.n == x.n) = false := by simpa using hq
            clear hq
            go_wp2_with fail
            go_region
            go_wp2
            exact ⟨⟨j + 1, k2 + 1, by simp, by omega, by simp⟩, by simp [intOf]; omega⟩
        · have hji : ¬ (j : Int) < i := by omega
          go_wp2
          exact ⟨⟨i + 1, k2, by simp, by omega, rfl⟩, by simp [intOf]; omega⟩
    · have hil : ¬ (i : Int) < n := by omega
      go_wp2
      go_ret
      exact ⟨_, k, rfl, rfl⟩

theorem Sl.upto {w : World} {base size g off n cap : Nat} {xs : List Value} (h : Sl w base size (.slice (some ⟨g, off, none⟩) n cap) n xs) (i : Nat) (hi : i ≤ n) :
    Sl w base size (.slice (some ⟨g, off, none⟩) i cap) i (xs.take (i * size)) := by
  refine ⟨by rw [List.length_take, h.1]; exact Nat.min_eq_left (Nat.mul_le_mul_right _ hi), ?_⟩
  rcases h.2 with ⟨h0, _⟩ | ⟨g', off', cap', he, hb, hg, hnc, hcm, hf, hc⟩
  · cases h0
  · cases he
    refine .inr ⟨g, off, cap, rfl, hb, hg, by omega, hcm, hf, fun j hj => ?_⟩
    rw [List.getElem?_take, if_pos hj]
    exact hc j (Nat.lt_of_lt_of_le hj (Nat.mul_le_mul_right _ hi))
theorem Sl.from {w : World} {base size g off n cap : Nat} {xs : List Value} (h : Sl w base size (.slice (some ⟨g, off, none⟩) n cap) n xs) (i : Nat) (hi : i ≤ n) :
    Sl w base size (.slice (some ⟨g, off + i * size, none⟩) (n - i) (cap - i)) (n - i) (xs.drop (i * size)) := by
  refine ⟨by rw [List.length_drop, h.1, Nat.sub_mul], ?_⟩
  rcases h.2 with ⟨h0, _⟩ | ⟨g', off', cap', he, hb, hg, hnc, hcm, hf, hc⟩
  · cases h0
  · cases he
    refine .inr ⟨g, off + i * size, cap - i, rfl, hb, hg, by omega, by omega, fun j hj => ?_, fun j hj => ?_⟩
    · rw [Nat.add_assoc]
      rw [Nat.sub_mul] at hj
      exact hf _ (by have := Nat.mul_le_mul_right size (show i ≤ cap by omega); omega)
    · rw [Nat.add_assoc, List.getElem?_drop]
      rw [Nat.sub_mul] at hj
      exact hc _ (by have := Nat.mul_le_mul_right size hi; omega)

theorem prc_take : ∀ (ds : List Pr) (k : Nat), (prc ds).take (k * 2) = prc (ds.take k)
  | [], k => by simp [prc]
  | x :: ds, 0 => by simp [prc]
  | x :: ds, k + 1 => by
    rw [show (k + 1) * 2 = k * 2 + 1 + 1 by omega, prc_cons, List.take_succ_cons, prc_cons, ← prc_take ds k]
    rfl
theorem prc_drop : ∀ (ds : List Pr) (k : Nat), (prc ds).drop (k * 2) = prc (ds.drop k)
  | [], k => by simp [prc]
  | x :: ds, 0 => by simp
  | x :: ds, k + 1 => by
    rw [show (k + 1) * 2 = k * 2 + 1 + 1 by omega, prc_cons, List.drop_succ_cons, ← prc_drop ds k]
    rfl
theorem run_cutP (g off N k uc : Nat) (hk : k ≤ uc) (W : World) : (Instr.slice 22 (.slice (some ⟨g, off, none⟩) N uc) none (some (.int .i64 (k : Int))) none).run Tryd.prog W = .ok (.slice (some ⟨g, off, none⟩) k uc) W := by
  have hu := run_underlying Tryd.underlying22
  have hz := Tryd.sizeOf51
  have h1 : (0 : Int) ≤ k := by omega
  have h2 : (k : Int) ≤ uc := by omega
  simp [Instr.slice, Instr.sliceBounds, go_sem, hu, hz, h2, Addr.add]
theorem run_fromP (g off N k uc : Nat) (hk : k ≤ N) (hu' : k < uc) (W : World) : (Instr.slice 22 (.slice (some ⟨g, off, none⟩) N uc) (some (.int .i64 (k : Int))) none none).run Tryd.prog W = .ok (.slice (some ⟨g, off + k * 2, none⟩) (N - k) (uc - k)) W := by
  have hu := run_underlying Tryd.underlying22
  have hz := Tryd.sizeOf51
  have h1 : (0 : Int) ≤ k := by omega
  have h2 : (k : Int) ≤ N := by omega
  have h3 : ¬ uc = k := by omega
  simp [Instr.slice, Instr.sliceBounds, go_sem, hu, hz, h2, h3, Addr.add]
theorem run_tail (w : World) (base g off N k uc : Nat) (xs : List Value) (hk : k ≤ N) (hs : Sl w base 2 (.slice (some ⟨g, off, none⟩) N uc) N xs) :
    ∃ T, (∀ W, (Instr.slice 22 (.slice (some ⟨g, off, none⟩) N uc) (some (.int .i64 (k : Int))) none none).run Tryd.prog W = .ok (.slice (some ⟨g, T, none⟩) (N - k) (uc - k)) W) ∧ Sl w base 2 (.slice (some ⟨g, T, none⟩) (N - k) (uc - k)) (N - k) (xs.drop (k * 2)) := by
  have hnc : N ≤ uc := by
    rcases hs.2 with ⟨h0, _⟩ | ⟨_, _, _, he, _, _, h, _⟩
    · cases h0
    · cases he; exact h
  by_cases hku : k < uc
  · exact ⟨off + k * 2, fun W => run_fromP g off N k uc hk hku W, hs.from k hk⟩
  · have e1 : N - k = 0 := by omega
    have e2 : uc - k = 0 := by omega
    refine ⟨off, fun W => ?_, ?_⟩
    · have hu := run_underlying Tryd.underlying22
      have hz := Tryd.sizeOf51
      have h2 : (k : Int) ≤ N := by omega
      have h3 : uc = k := by omega
      simp [Instr.slice, Instr.sliceBounds, go_sem, hu, hz, h2, h3, Addr.add]
    · have h := hs.from k hk
      refine ⟨h.1, ?_⟩
      rcases h.2 with ⟨h0, _⟩ | ⟨g', off', cap', he, hb, hg, _, hcm, _, _⟩
      · cases h0
      · cases he
        exact .inr ⟨g, off, uc - k, rfl, hb, hg, by omega, hcm, fun j hj => by omega, fun j hj => by omega⟩
/-- 'append(v, x..)', x nil, in a region that draws its order. -/
theorem step_append_nil {P : Program} {ops : Array Oper} {o : Oper} {a : Act} {w : World} {K : Act → World → Prop} {Q : Exit → Act → World → Prop} {E : Prop} (hgd : o.guard = none) (s x : Operand) (t : TypeId)
    (ho : o.op = .call { callee := .builtin .append, args := #[s, x], argTypes := #[t, t] })
    (base : Nat) (e : TypeId) (i : TypeInfo) (size : Nat) (ht : P.underlying t = some (.slice e)) (hi : P.info? e = some i)
    (v : Value) (n : Nat) (xs : List Value) (hs : a.eval s = v) (hown : Sl w base size v n xs) (hx : a.eval x = .slice none 0 0)
    (h : K (a.put o.dst v) w) :
    if Region.wanted o (yielded ops a.tmps) = true then Oper.wp P o a w K Q else E := by
  have hw : Region.wanted o (yielded ops a.tmps) = true := by simp [Region.wanted, hgd]
  rw [if_pos hw]
  have hr := run_append_none_sl (P := P) w base t o.type e i size ht hi v n xs hown
  unfold Oper.wp execOp
  simp only [ho, resolve, invoke, builtin, Sem.run_bind, Sem.run_pure, Result.andThen_ok, List.map_toArray, List.map_cons, List.map_nil, hs, hx, hr]
  exact h
theorem run_nil1 (W : World) : (Instr.slice 22 (.slice none 0 0) (some (.int .i64 0)) none none).run Tryd.prog W = .ok (.slice none 0 0) W := by
  have hu := run_underlying Tryd.underlying22
  have hz := Tryd.sizeOf51
  simp [Instr.slice, Instr.sliceBounds, go_sem, hu, hz]
theorem run_nil2 (W : World) : (Instr.slice 22 (.slice none 0 0) none (some (.int .i64 0)) none).run Tryd.prog W = .ok (.slice none 0 0) W := by
  have hu := run_underlying Tryd.underlying22
  have hz := Tryd.sizeOf51
  simp [Instr.slice, Instr.sliceBounds, go_sem, hu, hz]

theorem made_same (a b : List Pr) (h : a.Perm b) : sortP a = sortP b := (sortP_of ((sortP_perm a).trans h) (sortP_rising a))

end Go.Proofs.YtmgnmppdeiflbaaDoor
