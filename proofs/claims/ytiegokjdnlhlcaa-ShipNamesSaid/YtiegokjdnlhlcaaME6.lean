/- A file that all calls leave: lemmas for DiskOthers. -/
import Derived.Test.YtiegokjdnlhlcaaMD17
import Derived.Test.YtiegokjdnlhlcaaME4
namespace Go.Proofs.Ytiegokjdnlhlcaa
open Go.Conc Go.RowKit

theorem arm_any (f c : Nat) (A : List Ft) (a : Int) (dn : Bool) (w : World) (h : Holds f c A w) (ha : Ft.Fits (a, dn)) :
    Calls Try.prog 6 #[.pointer (some ⟨f, 0, none⟩), .int .i64 a, .bool dn] w fun e w' => (e = .returned (.int .i64 0) ∧ Holds f c (A ++ [(max a 0, dn)]) w' ∧ Turn (Own f c) w w') ∨ (e = .returned (.int .i64 7) ∧ w = w') := by
  obtain ⟨L, armed, now, hF, rfl⟩ := h
  by_cases hl : L.length < 16
  · refine (arm_room f c L armed now a dn w hF hl).mono ?_
    rintro e w' ⟨rfl, hc, t⟩
    refine .inl ⟨rfl, ⟨L ++ [(a, dn)], armed, now, hF.turn t hc (by simp; omega) (fun x hx => ?_), ?_⟩, t.mono fun k hk => .inr hk⟩
    · rw [List.mem_append, List.mem_singleton] at hx
      rcases hx with hx | rfl
      · exact hF.fits x hx
      · exact ha
    · unfold view
      cases armed <;> simp
  · have := hF.few
    refine (arm_full f c L armed now a dn w hF (by omega)).mono ?_
    rintro e w' ⟨rfl, rfl⟩
    exact .inr ⟨rfl, rfl⟩

theorem look_set_other (k n : ByteArray) (v : Value) (data : List UInt8) (s b : Nat) (hne : k ≠ n) : ∀ fs : List Fl, lookF k (setF n v data s b fs) = lookF k fs
  | [] => by simp [setF, lookF, hne]
  | e :: es => by
    have ih := look_set_other k n v data s b hne es
    unfold setF
    by_cases h : n = e.name
    · rw [if_pos h]
      have hk : k ≠ e.name := fun e2 => hne (e2.trans h.symm)
      simp [lookF, hk]
    · rw [if_neg h]
      simp only [lookF]
      by_cases hk : k = e.name
      · rw [if_pos hk, if_pos hk]
      · rw [if_neg hk, if_neg hk, ih]
theorem look_del_other (k n : ByteArray) (hne : k ≠ n) : ∀ fs : List Fl, lookF k (delF n fs) = lookF k fs
  | [] => rfl
  | e :: es => by
    have ih := look_del_other k n hne es
    unfold delF
    by_cases h : n = e.name
    · rw [if_pos h]
      have hk : k ≠ e.name := fun e2 => hne (e2.trans h.symm)
      simp [lookF, hk]
    · rw [if_neg h]
      simp only [lookF]
      by_cases hk : k = e.name
      · rw [if_pos hk, if_pos hk]
      · rw [if_neg hk, if_neg hk, ih]
/-- A crash leaves a file whose bytes are all there for sure. -/
theorem crash_keeps (k : ByteArray) (x : Fl) (hx : x.data.length - x.sure = 0) : ∀ (ns : List (List UInt8)) (cs : List Int) (fs : List Fl), lookF k fs = some x → lookF k (crashL ns cs fs) = some x
  | [], _, fs, h => h
  | n :: ns, cs, fs, h => by
    cases hl : lookF ⟨n.toArray⟩ fs with
    | none =>
      have : crashL (n :: ns) cs fs = crashL ns cs fs := by
        conv => lhs; unfold crashL
        rw [hl]
      rw [this]
      exact crash_keeps k x hx ns cs fs h
    | some y =>
      by_cases hz : y.data.length - y.sure = 0
      · rw [crashL_same n ns cs fs y hl hz]
        exact crash_keeps k x hx ns cs fs h
      · rw [crashL_cut n ns cs fs y hl hz]
        refine crash_keeps k x hx ns _ _ ?_
        rw [look_set_other]
        · exact h
        · intro e
          have hy := (look_mem _ fs y hl).2
          rw [e, hy, hl] at h
          cases h
          exact hz hx
theorem set_len (k : ByteArray) (v : Value) (data : List UInt8) (s b : Nat) : ∀ fs : List Fl, (setF k v data s b fs).length ≤ fs.length + 1
  | [] => by simp [setF]
  | e :: es => by
    have := set_len k v data s b es
    unfold setF
    split <;> simp <;> omega
theorem crash_len : ∀ (ns : List (List UInt8)) (cs : List Int) (fs : List Fl), (crashL ns cs fs).map (·.name) = fs.map (·.name)
  | [], _, fs => rfl
  | n :: ns, cs, fs => by
    cases hl : lookF ⟨n.toArray⟩ fs with
    | none =>
      have : crashL (n :: ns) cs fs = crashL ns cs fs := by
        conv => lhs; unfold crashL
        rw [hl]
      rw [this]
      exact crash_len ns cs fs
    | some y =>
      by_cases hz : y.data.length - y.sure = 0
      · rw [crashL_same n ns cs fs y hl hz]
        exact crash_len ns cs fs
      · rw [crashL_cut n ns cs fs y hl hz, crash_len ns]
        refine set_names_eq _ _ _ _ _ _ ?_
        rw [(look_mem _ fs y hl).2, hl]
        rfl
end Go.Proofs.Ytiegokjdnlhlcaa
