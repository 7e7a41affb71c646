/- Layer 11: the name of the seventh segment, walked. -/
import Derived.Test.YtobdlfikomnmcaaGreatDoorMSl
namespace Go.Proofs.YtobdlfikomnmcaaGreatDoor
open Go.RowKit Go.Lib

/-- Does s begin with p? -/
def pre (p s : List UInt8) : Bool := decide (p <+: s)
theorem ext_toList (s : ByteArray) (n : Nat) : (s.extract 0 n).toList = s.data.toList.take n := by
  rw [ByteArray.toList_eq, ByteArray.data_extract, Array.toList_extract]
  simp
theorem ext_is (s p : ByteArray) : ((s.extract 0 p.size).toList == p.toList) = pre p.data.toList s.data.toList := by
  rw [ext_toList, ByteArray.toList_eq p]
  unfold pre
  have hl : p.data.toList.length = p.size := Array.length_toList
  rw [Bool.eq_iff_iff]
  simp only [beq_iff_eq, decide_eq_true_eq]
  rw [List.prefix_iff_eq_take, hl]
  exact eq_comm
theorem has0_any (s p : ByteArray) (w : World) :
    Calls Tryz.prog 57 #[.string s, .string p] w fun e w' => e = .returned (.bool (pre p.data.toList s.data.toList)) ∧ w = w' := by
  have he := Lib.hid (ext_is s p)
  by_cases h : p.size ≤ s.size
  · go_enter Tryz.func57, Tryz.ntmps57
    go_wp2
    go_ret
    exact ⟨by rw [← he.out]; rfl, rfl⟩
  · have hd : decide ((p.size : Int) ≤ (s.size : Int)) = false := by simp; omega
    have hf : pre p.data.toList s.data.toList = false := by
      unfold pre
      rw [decide_eq_false_iff_not]
      intro hp
      have := hp.length_le
      have h1 : p.data.toList.length = p.size := Array.length_toList
      have h2 : s.data.toList.length = s.size := Array.length_toList
      omega
    have hf' := Lib.hid hf
    clear hf he
    go_enter Tryz.func57, Tryz.ntmps57
    go_wp2
    go_ret
    exact ⟨by rw [hf'.out]; rfl, rfl⟩
theorem has_any (s p : ByteArray) (w : World) :
    Calls Tryz.prog 36 #[.string s, .string p] w fun e w' => e = .returned (.bool (pre p.data.toList s.data.toList)) ∧ w = w' := by
  have H := Lib.hid (fun W => has0_any s p W)
  go_enter Tryz.func36, Tryz.ntmps36
  go_wp2_with fail
  refine (H.out _).mono ?_
  rintro e w1 ⟨rfl, rfl⟩
  go_wp2
  go_ret
  exact ⟨rfl, rfl⟩

end Go.Proofs.YtobdlfikomnmcaaGreatDoor
