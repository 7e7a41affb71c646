/- For every input 'barographlaw09.MetaMeets' answers true, and its arguments read behind the call as they read before. -/
import Derived.Test.YthambhcladobjaaRows
import Derived.Test.YthambhcladobjaaM6
import Derived.Test.YthambhcladobjaaMH
import Derived.WalkKit
import Derived.ProofKit
import Derived.OpenShut
import Derived.ShutString
import Derived.RowKit3
import Derived.ChangeOld
import Derived.Below
namespace Go.Proofs.Ythambhcladobjaa.metaMeets
open Go.ChangeShapes Go.WideShapes Go.ChangeAt Go.RowKit
open Go.ChangeMaps (open_string shut_string)
set_option linter.unusedVariables false

theorem own : ownKnob Try.prog.godebug = none := by kernel_rfl
theorem laidOut : laidOutB Try.prog = true := by kernel_rfl

theorem walk (va0 : List UInt8) (mn0 mx0 lv0 se0 sa0 : Int) (af0 : Option Addr) (nf0 kf0 : Nat) (ag0 : Option Addr) (ng0 kg0 : Nat) (va1 : List UInt8) (mn1 mx1 lv1 se1 sa1 : Int) (af1 : Option Addr) (nf1 kf1 : Nat) (ag1 : Option Addr) (ng1 kg1 : Nat) (w : World) (m0 : ng0 ≤ maxLen) (w0 : va0.length ≤ maxLen) (m1 : ng1 ≤ maxLen) (w1 : va1.length ≤ maxLen) :
    Calls Try.prog 4 #[.agg #[.string (bs va0), .int .i64 mn0, .int .i64 mx0, .int .i64 lv0, .int .i64 se0, .int .i64 sa0, .slice af0 nf0 kf0, .slice ag0 ng0 kg0], .agg #[.string (bs va1), .int .i64 mn1, .int .i64 mx1, .int .i64 lv1, .int .i64 se1, .int .i64 sa1, .slice af1 nf1 kf1, .slice ag1 ng1 kg1]] w fun e w' => e = .returned (.bool true) ∧ Below w.heap.size w w' := by
  exact meetsL_any va0 mn0 mx0 lv0 se0 sa0 (.slice af0 nf0 kf0) ag0 ng0 kg0 va1 mn1 mx1 lv1 se1 sa1 (.slice af1 nf1 kf1) ag1 ng1 kg1 w w0 m0 w1 m1 ⟨_, _, _, rfl⟩ ⟨_, _, _, rfl⟩

set_option maxRecDepth 100000 in
theorem lifted (os : Os) (started : os.Started) (H : Type) (enc : TypeId × Value → H) :
    ReturnsInHanded {} Try.checked os 4 .any (Rows.metaMeetsSpec.pre6 enc Try.prog Try.f4 Rows.metaMeetsRow.domain false) (Rows.metaMeetsSpec.post enc Try.prog Try.f4 false true false false) := by
  refine returnsInHanded_of_change (C := Try.checked) own started (by kernel_rfl) Try.func4
    (ChangeSpec.witness6 (enc := enc) (C := Try.checked) false ⟨#[], #[.agg #[.string ByteArray.empty, .int .i64 0, .int .i64 0, .int .i64 0, .int .i64 0, .int .i64 0, .slice none 0 0, .slice none 0 0], .agg #[.string ByteArray.empty, .int .i64 0, .int .i64 0, .int .i64 0, .int .i64 0, .int .i64 0, .slice none 0 0, .slice none 0 0]], []⟩ 8 (by kernel_rfl) (by kernel_rfl) (by kernel_rfl) (by kernel_rfl)) ?_
  intro W base args ds gs before hval0 hW hcnd _
  have hval : ∀ (j : Nat) t v, Try.f4.params[j]? = some t → args[j]? = some v → Value.okWide Try.prog W .any base t v := hval0
  have hW' := hW
  obtain ⟨p, q, hA0, hV, rfl, hfz, hnd⟩ := hW
  have hA : DataW.TrodAll enc Try.prog W 0 (fun _ => true) true Try.f4.params.toList args.toList ds p := hA0
  rw [Try.params4] at hA hval
  obtain ⟨v0, vs0, d0, ds0, p0, q0, hargs, rfl, rfl, h0, r0⟩ := trodAll_cons hA
  obtain ⟨v1, vs1, d1, ds1, p1, q1, rfl, rfl, rfl, h1, r1⟩ := trodAll_cons r0
  obtain ⟨rfl, rfl, rfl⟩ := trodAll_nil r1
  obtain rfl : args = #[v0, v1] := by cases args; simp_all
  obtain ⟨rfl, rfl⟩ := trodVars_none hV
  have k0 := h0
  have lt0 : ∀ x ∈ p0, x.block < W.heap.size := by obtain ⟨m, hm⟩ := k0; exact DataW.trod_lt m _ _ _ hm
  obtain ⟨va0, mn0, mx0, lv0, se0, sa0, af0, nf0, kf0, ag0, ng0, kg0, rfl, m0, w0⟩ := meta_open (hval 0 51 v0 rfl rfl) h0
  have k1 := h1
  have lt1 : ∀ x ∈ p1, x.block < W.heap.size := by obtain ⟨m, hm⟩ := k1; exact DataW.trod_lt m _ _ _ hm
  obtain ⟨va1, mn1, mx1, lv1, se1, sa1, af1, nf1, kf1, ag1, ng1, kg1, rfl, m1, w1⟩ := meta_open (hval 1 51 v1 rfl rfl) h1
  clear hA0 hval0
  refine (walk va0 mn0 mx0 lv0 se0 sa0 af0 nf0 kf0 ag0 ng0 kg0 va1 mn1 mx1 lv1 se1 sa1 af1 nf1 kf1 ag1 ng1 kg1 W m0 w0 m1 w1).mono fun e W' ⟨he, bel⟩ => ?_
  subst he
  exact ⟨_, rfl, _, _, _, [], _, [], hW', trodAll_mk1 (shut_bool Try.underlying4 _), (trodAll_cons_mk (Below.trod laidOut (by kernel_rfl) (of_decide_eq_true (by kernel_rfl)) k0 bel lt0) (trodAll_cons_mk (Below.trod laidOut (by kernel_rfl) (of_decide_eq_true (by kernel_rfl)) k1 bel lt1) trodAll_mk0)), rfl, bel.frame _, fun h => by cases h⟩

theorem over : Rows.metaMeetsRow.holds Try.pinned (OpenSpec.ofChange Rows.metaMeetsSpec) :=
  OpenClaim.holds_of_wide 4 Try.f4 rfl rfl rfl rfl rfl rfl rfl ⟨rfl, rfl, rfl, rfl, rfl⟩ rfl rfl rfl rfl rfl (by kernel_rfl) Try.func4 (by kernel_rfl)
    (of_decide_eq_true (by kernel_rfl)) (by unfold Func.isWrapper; first | (rw [if_pos (by decide +kernel)]; kernel_rfl) | (rw [if_neg (by decide +kernel)]; exact ⟨rfl, rfl⟩))
    (fun os started H enc _ => lifted os started H enc)

theorem proved : Rows.MetaMeetsSaid :=
  over
#print axioms proved
end Go.Proofs.Ythambhcladobjaa.metaMeets
