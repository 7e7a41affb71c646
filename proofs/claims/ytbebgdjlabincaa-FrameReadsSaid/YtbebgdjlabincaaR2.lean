/- The statements' own functions on records, walked: Same. -/
import Derived.Test.YtbebgdjlabincaaR1
import Derived.BigQuiet
import Derived.Deep.QuietTactic
namespace Go.Proofs.Ytbebgdjlabincaa
open Go.RowKit Go.Lib

set_option maxHeartbeats 1000000 in
set_option maxRecDepth 100000 in
theorem same_any (b1 b2 : Nat) (ao bo : Option Addr) (c1 c2 n : Nat) (rs : List Fr.Rc) (w : World) (hn : n ≤ 1000000) (h1 : Sl w b1 2 (.slice ao n c1) n (rc rs)) (h2 : Sl w b2 2 (.slice bo n c2) n (rc rs)) :
    Calls Try.prog 43 #[.slice ao n c1, .slice bo n c2] w fun e w' => e = .returned (.int .i64 0) ∧ ∃ m, w' = w.drewN m := by
  have hrl : rs.length = n := by have := h1.1; rw [rc_length] at this; omega
  have HR := Lib.hid hrl; clear hrl
  go_enter Try.func43, Try.ntmps43
  go_wp2
  go_loopw [13] (fun i' wr => ∃ (k m : Nat), i' = .int .i64 k ∧ k ≤ n ∧ wr = w.drewN m) (fun i' _ => n - (intOf i').toNat)
  case atStart => exact ⟨0, 0, rfl, Nat.zero_le _, rfl⟩
  case round =>
    obtain ⟨k, m, rfl, hk, rfl⟩ := hrel
    by_cases hlt : k < n
    · obtain ⟨kk, d, hkd⟩ : ∃ kk d, rs[k]? = some (kk, d) := ⟨_, _, List.getElem?_eq_getElem (by have := HR.out; omega)⟩
      obtain ⟨g1, o1, ha⟩ : ∃ g off, ao = some ⟨g, off, none⟩ := by
        rcases h1.2 with ⟨_, h0⟩ | ⟨g, off, cap', he, _⟩
        · omega
        · cases he; exact ⟨g, off, rfl⟩
      obtain ⟨g2, o2, hb⟩ : ∃ g off, bo = some ⟨g, off, none⟩ := by
        rcases h2.2 with ⟨_, h0⟩ | ⟨g, off, cap', he, _⟩
        · omega
        · cases he; exact ⟨g, off, rfl⟩
      subst ha; subst hb
      obtain ⟨p0, p1⟩ := sl_recs h1 k kk d hkd
      obtain ⟨q0, q1⟩ := sl_recs h2 k kk d hkd
      have i1 : (k : Int) < (n : Int) := by omega
      have i2 : (0 : Int) ≤ (k : Int) := by omega
      clear hkd
      go_wp2
      go_quiet (fail)
      go_wp2
      exact ⟨⟨k + 1, _, by go_num, by omega, rfl⟩, by simp [intOf]; omega⟩
    · have hkn : k = n := by omega
      subst hkn
      go_wp2
      go_ret
      exact ⟨rfl, _, rfl⟩

theorem sl_take {w : World} {base g off n m cap : Nat} {rs : List Fr.Rc} (h : Sl w base 2 (.slice (some ⟨g, off, none⟩) n cap) n (rc rs)) (hm : m ≤ n) : Sl w base 2 (.slice (some ⟨g, off, none⟩) m cap) m (rc (rs.take m)) := by
  have hl : rs.length = n := by have := h.1; rw [rc_length] at this; omega
  rcases h.2 with ⟨h0, _⟩ | ⟨g', off', cap', he, hbg, hg, hnc, hcm, hfree, hcell⟩
  · cases h0
  · cases he
    refine ⟨by rw [rc_length, List.length_take]; omega, .inr ⟨g, off, cap, rfl, hbg, hg, by omega, hcm, hfree, fun j hj => ?_⟩⟩
    rw [hcell j (by omega)]
    have e : rc rs = rc (rs.take m) ++ rc (rs.drop m) := by rw [← rc_append, List.take_append_drop]
    rw [e, List.getElem?_append_left (by rw [rc_length, List.length_take]; omega)]

theorem alld_slice {w w' : World} {rs : List Fr.Rc} {n : Int} {e : Ending} (h : Alld w rs n e w') : ∃ a cap, e = .returned (.tuple #[.slice a rs.length cap, .int .i64 n]) ∧ Sl w' w.heap.size 2 (.slice a rs.length cap) rs.length (rc rs) ∧ Below w.heap.size w w' := by
  obtain ⟨v, rfl, hs, hb⟩ := h
  obtain ⟨a, cap, rfl⟩ := hs.slice
  exact ⟨a, cap, rfl, hs, hb⟩
end Go.Proofs.Ytbebgdjlabincaa
