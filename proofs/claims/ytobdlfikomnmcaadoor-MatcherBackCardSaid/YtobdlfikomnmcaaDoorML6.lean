/- Layer 6: slices cloned; Make. -/
import Derived.Test.YtobdlfikomnmcaaDoorML5
import Derived.Test.YtobdlfikomnmcaaDoorMSl3
namespace Go.Proofs.YtobdlfikomnmcaaDoor
open Go.RowKit Go.Lib

theorem zc_pair : (Tryd.prog.info? 71).map (fun i => (i.zero, i.size, i.bytes)) = some (some (.agg #[.string ⟨#[]⟩, .string ⟨#[]⟩]), 2, 32) := by kernel_rfl
theorem prc_one (ds : List Pr) : ∀ u ∈ prc ds, u.oneCell' = true := by
  intro u hu
  simp only [prc, List.mem_flatMap, encP, List.mem_cons, List.mem_nil_iff, or_false] at hu
  obtain ⟨x, _, rfl | rfl⟩ := hu <;> rfl

/-- A slice of pairs, laid anew. -/
def NewP (w : World) (ds : List Pr) (e : Ending) (w' : World) : Prop := ∃ v', e = .returned v' ∧ Sl w' w.heap.size 2 v' ds.length (prc ds) ∧ Below w.heap.size w w'

theorem run_isnil (a : Option Addr) (n c : Nat) (w : World) : (binOp BinOp.eql 46 (.slice a n c) (.slice none 0 0)).run Tryd.prog w = .ok (.bool a.isNone) w := by
  have hu := run_underlying Tryd.underlying46
  have he : (Op.equal 46 (.slice a n c) (.slice none 0 0)).run Tryd.prog w = .ok a.isNone w := by
    show (Op.equalIn (9999 + 1) _ _ _).run _ _ = _
    unfold Op.equalIn
    simp only [Sem.run_bind, hu, Result.andThen]
    cases a <;> rfl
  simp [binOp, go_sem, he]

set_option maxHeartbeats 1000000 in
set_option maxRecDepth 100000 in
theorem clone_any (v : Value) (ds : List Pr) (base : Nat) (w : World) (hs : Sl w base 2 v ds.length (prc ds)) (hm : ds.length ≤ 1000000) :
    Calls Tryd.prog 51 #[v] w (NewP w ds) := by
  obtain ⟨i0, hi, hz0, hz1, hz2⟩ := info_parts zc_pair
  have Hz := Lib.hid hz0; have Hs := Lib.hid hz1; have Hb := Lib.hid hz2; have Hi := Lib.hid hi
  clear hz0 hz1 hz2 hi
  rcases hs.2 with ⟨rfl, h0⟩ | ⟨g, off, cap, rfl, _⟩
  · have hn := Lib.hid (List.eq_nil_of_length_eq_zero h0)
    clear hs h0
    have hq := fun W => run_isnil none 0 0 W
    go_enter Tryd.func51, Tryd.ntmps51
    go_wp2
    go_ret
    exact ⟨_, rfl, by rw [hn.out]; exact Sl.nil _ _ _, Below.refl _ _⟩
  · obtain ⟨n, hn⟩ : ∃ n, n = ds.length := ⟨_, rfl⟩
    rw [← hn] at hs
    have HN := Lib.hid hn
    have n1 : 0 + n ≤ maxLen := by unfold maxLen; omega
    have n2 : (0 + n) * 32 ≤ 140737488355328 := by omega
    rw [← hn] at hm ⊢
    clear hn
    have hq := fun W => run_isnil (some ⟨g, off, none⟩) n cap W
    go_enter Tryd.func51, Tryd.ntmps51
    go_wp2_with (at_builtin; refine wpList_append_sl2 _ rfl _ _ 46 rfl w.heap.size 71 i0 (.agg #[.string ⟨#[]⟩, .string ⟨#[]⟩]) 2 32 Tryd.underlying46 Hi.out Hz.out Hs.out Hb.out rfl (by decide) _ 0 _ rfl (Sl.lit w w.heap.size 2 0 #[] _ (Nat.le_refl _) (by decide) rfl) base _ n _ rfl (hs.alloc _) (prc_one _) n1 n2 (by simp) ?_; intro v' w1 hx)
    go_ret
    have hx1 := hx.now
    rw [Nat.zero_add] at hx1
    refine ⟨_, rfl, by rw [← HN.out]; exact hx1, ?_⟩
    exact ((Below.refl _ w).alloc (Nat.le_refl _) _).grown hx.grown (by simp) (fun k e => by have e2 : w.heap.size = k := Option.some.inj e; omega)
end Go.Proofs.YtobdlfikomnmcaaDoor
