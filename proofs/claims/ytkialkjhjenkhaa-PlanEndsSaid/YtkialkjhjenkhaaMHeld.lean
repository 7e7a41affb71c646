/- For a region that draws its order: what holds of the world, and one thing more until a certain operation has come up. No program's text. For a region that draws its order: one of two operations comes up; the last one writes. No program's text. -/
import Derived.Deep.RegionHeld3
namespace Go.Proofs.Ytkialkjhjenkhaa

section
variable {P : Program} {ops : Array Oper} {Q : Exit → Act → World → Prop} {md : Region.Mode}

/-- Whatever order is picked from here on, and S holds behind every operation, of what has come up by then. -/
def wpAnyL (P : Program) (md : Region.Mode) (ops : Array Oper) (Q : Exit → Act → World → Prop) (S : Array Bool → World → Prop) : Nat → Array Bool → Act → World → Prop
  | 0, listed, a, w => Region.ready md ops listed = [] ∧ Q .normal a w
  | fuel + 1, listed, a, w =>
    (Region.ready md ops listed = [] → Q .normal a w) ∧
    ∀ i ∈ Region.ready md ops listed, wpOp P ops Q i (fun a' w' => S (listed.setIfInBounds i true) w' ∧ wpAnyL P md ops Q S fuel (listed.setIfInBounds i true) a' w') a w

theorem wpAnyH_of_L {S : Array Bool → World → Prop} {B : World → Prop} (h : ∀ L w, S L w → B w) :
    ∀ (fuel : Nat) (listed : Array Bool) (a : Act) (w : World), wpAnyL P md ops Q S fuel listed a w → wpAnyH P md ops Q B fuel listed a w
  | 0, _, _, _, k => k
  | fuel + 1, _, _, _, k => ⟨k.1, fun i hi => wpOp_mono (fun a' w' k' => ⟨h _ _ k'.1, wpAnyH_of_L h fuel _ a' w' k'.2⟩) (k.2 i hi)⟩

/-- An operation that may come up now may be taken first. -/
theorem wpAnyL_first {S : Array Bool → World → Prop} {Y : World → Prop} {Inv : Array Bool → Prop} {i : Nat} {oi : Oper} {v : Value} (hi : ops[i]? = some oi) (hsel : ∀ (j : Nat) (o : Oper) cs b, ops[j]? = some o → o.op ≠ .select cs b)
    (hQ : ∀ c a w, Q (.panic c) (a.put oi.dst v) w → Q (.panic c) a w) (hSi : ∀ L w, S (L.setIfInBounds i true) w → S L w) (hY : ∀ L w, Inv L → S L w → Y w)
    (hInv : ∀ L j, Inv L → i ∈ Region.ready md ops L → j ∈ Region.ready md ops L → j ≠ i → Inv (L.setIfInBounds j true)) :
    ∀ (fuel : Nat) (listed : Array Bool) (a : Act) (w : World),
      (∀ j oj, ops[j]? = some oj → j ≠ i → listed.getD j true = false → (∀ e ∈ oj.after, Region.binds md e = true → e.on ≠ i) → oi.apart ops oj = true) →
      i ∈ Region.ready md ops listed → YieldsIf P ops Y oi v a → Inv listed → S (listed.setIfInBounds i true) w →
      wpAnyL P md ops Q S fuel (listed.setIfInBounds i true) (a.put oi.dst v) w → wpAnyL P md ops Q S (fuel + 1) listed a w := by
  intro fuel
  induction fuel with
  | zero =>
    intro listed a w _ hr hy hv hS H
    refine ⟨fun h => (by rw [h] at hr; cases hr), fun j hj => ?_⟩
    by_cases hji : j = i
    · subst hji; exact hy.wpOp hi (hY _ _ hv (hSi _ _ hS)) ⟨hS, H⟩
    · have := ready_mono hj hji
      rw [H.1] at this
      cases this
  | succ fuel ih =>
    intro listed a w hfree hr hy hv hS H
    refine ⟨fun h => (by rw [h] at hr; cases hr), fun j hj => ?_⟩
    by_cases hji : j = i
    · subst hji; exact hy.wpOp hi (hY _ _ hv (hSi _ _ hS)) ⟨hS, H⟩
    · have h1 := H.2 j (ready_mono hj hji)
      obtain ⟨hjun, oj, hoj, hall⟩ := mem_ready.1 hj
      have hnot : ∀ e ∈ oj.after, Region.binds md e = true → e.on ≠ i := fun e he hb heq => by
        have h1 := hall e he hb
        have h0 := (mem_ready.1 hr).1
        rw [heq] at h1
        rcases Nat.lt_or_ge i listed.size with h' | h'
        · simp [h'] at h0 h1; rw [h0] at h1; cases h1
        · simp [Array.getElem?_eq_none h'] at h1
      have h2 := wpOp_putIf hoj (hfree j oj hoj hji hjun hnot) (fun cs b => hsel i oi cs b hi) (fun cs b => hsel j oj cs b hoj) hQ hy h1
      have hfree' : ∀ k ok, ops[k]? = some ok → k ≠ i → (listed.setIfInBounds j true).getD k true = false →
          (∀ e ∈ ok.after, Region.binds md e = true → e.on ≠ i) → oi.apart ops ok = true := fun k ok hk hki hun hno => by
        refine hfree k ok hk hki ?_ hno
        by_cases hjk : j = k
        · subst hjk; exact hjun
        · rw [getD_set_ne true hjk] at hun; exact hun
      refine wpOp_mono (fun a' w' h3 => ?_) h2
      have h4 := h3.2
      rw [Array.setIfInBounds_comm _ _ (Ne.symm hji)] at h4
      exact ⟨hSi _ _ h4.1, ih (listed.setIfInBounds j true) a' w' hfree' (ready_mono hr (Ne.symm hji)) h3.1 (hInv _ _ hv hr hj hji) h4.1 h4.2⟩

/-- B always; T besides, until operation p has come up. -/
def Until (B T : World → Prop) (p : Nat) (L : Array Bool) (w : World) : Prop := B w ∧ (L.getD p true = false → T w)

theorem until_begin {B T : World → Prop} (p : Nat) {fuel : Nat} {listed : Array Bool} {a : Act} {w : World} (h : wpAnyL P md ops Q (Until B T p) fuel listed a w) : wpAnyH P md ops Q B fuel listed a w :=
  wpAnyH_of_L (fun _ _ h => h.1) fuel listed a w h

theorem until_end {B T : World → Prop} {p : Nat} : ∀ (fuel : Nat) (listed : Array Bool) (a : Act) (w : World), listed.getD p true = true → wpAnyH P md ops Q B fuel listed a w → wpAnyL P md ops Q (Until B T p) fuel listed a w
  | 0, _, _, _, _, k => k
  | fuel + 1, listed, _, _, hp, k => ⟨k.1, fun i hi => wpOp_mono (fun a' w' k' => by
      have hp' : (listed.setIfInBounds i true).getD p true = true := by
        by_cases hip : i = p
        · subst hip
          rcases Nat.lt_or_ge i listed.size with h | h
          · simp [h]
          · simp [Nat.not_lt.2 h]
        · rw [getD_set_ne true hip]; exact hp
      exact ⟨⟨k'.1, fun h => by rw [hp'] at h; cases h⟩, until_end fuel _ a' w' hp' k'.2⟩) (k.2 i hi)⟩

theorem until_set {B T : World → Prop} {p i : Nat} (hip : i ≠ p) (L : Array Bool) (w : World) : Until B T p (L.setIfInBounds i true) w ↔ Until B T p L w := by
  unfold Until
  rw [getD_set_ne true hip]

/-- An operation that yields its value wherever B holds is taken first. -/
theorem until_take {B T : World → Prop} {p : Nat} {i : Nat} {oi : Oper} {v : Value} {fuel : Nat} {listed : Array Bool} {a : Act} {w : World} (hi : ops[i]? = some oi)
    (hs : Region.noSelect ops = true) (hf : Region.free md ops listed i = true) (hr : (Region.ready md ops listed).contains i = true)
    (hQ : ∀ c a w, Q (.panic c) (a.put oi.dst v) w → Q (.panic c) a w) (hip : i ≠ p) (hy : YieldsIf P ops B oi v a) (hS : Until B T p listed w)
    (h : wpAnyL P md ops Q (Until B T p) fuel (listed.setIfInBounds i true) (a.put oi.dst v) w) : wpAnyL P md ops Q (Until B T p) (fuel + 1) listed a w :=
  wpAnyL_first (Y := B) (Inv := fun _ => True) hi (Region.noSelect_spec hs) hQ (fun L w => (until_set hip L w).1) (fun _ _ _ h => h.1) (fun _ _ _ _ _ _ => trivial)
    fuel listed a w (Region.free_spec hi hf) (by simpa using hr) hy trivial ((until_set hip _ _).2 hS) h

/-- Does operation p wait for operation i? -/
def waits (md : Region.Mode) (ops : Array Oper) (p i : Nat) : Bool := match ops[p]? with | some o => o.after.any fun e => Region.binds md e && e.on == i | none => false

/-- One that yields its value wherever B and T hold, and for which p waits. -/
theorem until_take' {B T : World → Prop} {p : Nat} {i : Nat} {oi : Oper} {v : Value} {fuel : Nat} {listed : Array Bool} {a : Act} {w : World} (hi : ops[i]? = some oi)
    (hs : Region.noSelect ops = true) (hf : Region.free md ops listed i = true) (hr : (Region.ready md ops listed).contains i = true)
    (hQ : ∀ c a w, Q (.panic c) (a.put oi.dst v) w → Q (.panic c) a w) (hip : i ≠ p) (hw : waits md ops p i = true) (hp : listed.getD p true = false) (hy : YieldsIf P ops (fun w => B w ∧ T w) oi v a) (hS : Until B T p listed w)
    (h : wpAnyL P md ops Q (Until B T p) fuel (listed.setIfInBounds i true) (a.put oi.dst v) w) : wpAnyL P md ops Q (Until B T p) (fuel + 1) listed a w := by
  refine wpAnyL_first (Y := fun w => B w ∧ T w) (Inv := fun L => L.getD p true = false) hi (Region.noSelect_spec hs) hQ (fun L w => (until_set hip L w).1) (fun _ _ hv h => ⟨h.1, h.2 hv⟩) (fun L j hv hri hrj hji => ?_)
    fuel listed a w (Region.free_spec hi hf) (by simpa using hr) hy hp ((until_set hip _ _).2 hS) h
  have hjp : j ≠ p := by
    intro e
    subst e
    obtain ⟨_, oj, hoj, hall⟩ := mem_ready.1 hrj
    have h0 := (mem_ready.1 hri).1
    unfold waits at hw
    rw [hoj] at hw
    simp only [Array.any_eq_true] at hw
    obtain ⟨k, hk, he⟩ := hw
    simp only [Bool.and_eq_true, beq_iff_eq] at he
    have h1 := hall _ (Array.getElem_mem hk) he.1
    rw [he.2] at h1
    rcases Nat.lt_or_ge i L.size with h' | h'
    · simp [h'] at h0 h1; rw [h0] at h1; cases h1
    · simp [Array.getElem?_eq_none h'] at h1
  rw [getD_set_ne true hjp]
  exact hv

theorem until_ready {S : Array Bool → World → Prop} {rs : List Nat} {fuel : Nat} {listed : Array Bool} {a : Act} {w : World} (hr : Region.ready md ops listed = rs) (hne : rs ≠ [])
    (h : ∀ i ∈ rs, wpOp P ops Q i (fun a' w' => S (listed.setIfInBounds i true) w' ∧ wpAnyL P md ops Q S fuel (listed.setIfInBounds i true) a' w') a w) : wpAnyL P md ops Q S (fuel + 1) listed a w :=
  ⟨fun h0 => absurd (hr ▸ h0) hne, hr ▸ h⟩

/-- One alone may come up, a call: behind it B and T hold anew. -/
theorem until_call {B T : World → Prop} {p i : Nat} {o : Oper} {fuel : Nat} {listed : Array Bool} {a : Act} {w : World} (hr : Region.ready md ops listed = [i]) (ho : ops[i]? = some o)
    (h : ∀ K' : Act → World → Prop, Shut (∀ a w, B w → T w → (B w → T w → wpAnyL P md ops Q (Until B T p) fuel (listed.setIfInBounds i true) a w) → K' a w) → if Region.wanted o (yielded ops a.tmps) = true then Oper.wp P o a w K' Q else K' (a.put o.dst undef) w) :
    wpAnyL P md ops Q (Until B T p) (fuel + 1) listed a w := by
  refine until_ready hr (by simp) fun j hj => ?_
  obtain rfl : j = i := by simpa using hj
  exact wpOp_step ho (fun K' hK => h K' (fun a w hB hT hW => hK a w ⟨⟨hB, fun _ => hT⟩, hW hB hT⟩))

/-- Operation p alone may come up, and yields its value: from here on B alone. -/
theorem until_last {B T : World → Prop} {p : Nat} {o : Oper} {v : Value} {fuel : Nat} {listed : Array Bool} {a : Act} {w : World} (hr : Region.ready md ops listed = [p]) (ho : ops[p]? = some o) (hp : (listed.setIfInBounds p true).getD p true = true)
    (hy : YieldsIf P ops B o v a) (hB : B w) (h : wpAnyH P md ops Q B fuel (listed.setIfInBounds p true) (a.put o.dst v) w) : wpAnyL P md ops Q (Until B T p) (fuel + 1) listed a w := by
  refine until_ready hr (by simp) fun j hj => ?_
  obtain rfl : j = p := by simpa using hj
  exact hy.wpOp ho hB ⟨⟨hB, fun h0 => by rw [hp] at h0; cases h0⟩, until_end fuel _ _ _ hp h⟩
end

#print axioms until_take'
#print axioms until_last
end Go.Proofs.Ytkialkjhjenkhaa

namespace Go.Proofs.Ytkialkjhjenkhaa
section
variable {P : Program} {ops : Array Oper} {Q : Exit → Act → World → Prop} {md : Region.Mode}
theorem un_two {B T : World → Prop} {p i j : Nat} {oi oj : Oper} {fuel : Nat} {listed : Array Bool} {a : Act} {w : World} (hr : Region.ready md ops listed = [i, j]) (hoi : ops[i]? = some oi) (hoj : ops[j]? = some oj)
    (hi : ∀ K' : Act → World → Prop, Shut (∀ a w, B w → T w → wpAnyL P md ops Q (Until B T p) fuel (listed.setIfInBounds i true) a w → K' a w) → if Region.wanted oi (yielded ops a.tmps) = true then Oper.wp P oi a w K' Q else K' (a.put oi.dst undef) w)
    (hj : ∀ K' : Act → World → Prop, Shut (∀ a w, B w → T w → wpAnyL P md ops Q (Until B T p) fuel (listed.setIfInBounds j true) a w → K' a w) → if Region.wanted oj (yielded ops a.tmps) = true then Oper.wp P oj a w K' Q else K' (a.put oj.dst undef) w) :
    wpAnyL P md ops Q (Until B T p) (fuel + 1) listed a w := by
  refine until_ready hr (by simp) fun k hk => ?_
  rcases (by simpa using hk : k = i ∨ k = j) with rfl | rfl
  · exact wpOp_step hoi (fun K' hK => hi K' (fun a w hB hT hW => hK a w ⟨⟨hB, fun _ => hT⟩, hW⟩))
  · exact wpOp_step hoj (fun K' hK => hj K' (fun a w hB hT hW => hK a w ⟨⟨hB, fun _ => hT⟩, hW⟩))
theorem un_one {B T : World → Prop} {p i : Nat} {oi : Oper} {fuel : Nat} {listed : Array Bool} {a : Act} {w : World} (hr : Region.ready md ops listed = [i]) (hoi : ops[i]? = some oi)
    (hi : ∀ K' : Act → World → Prop, Shut (∀ a w, B w → T w → wpAnyL P md ops Q (Until B T p) fuel (listed.setIfInBounds i true) a w → K' a w) → if Region.wanted oi (yielded ops a.tmps) = true then Oper.wp P oi a w K' Q else K' (a.put oi.dst undef) w) :
    wpAnyL P md ops Q (Until B T p) (fuel + 1) listed a w := by
  refine until_ready hr (by simp) fun k hk => ?_
  obtain rfl : k = i := by simpa using hk
  exact wpOp_step hoi (fun K' hK => hi K' (fun a w hB hT hW => hK a w ⟨⟨hB, fun _ => hT⟩, hW⟩))
theorem un_write {B T : World → Prop} {p : Nat} {o : Oper} {fuel : Nat} {listed : Array Bool} {a : Act} {w : World} (hr : Region.ready md ops listed = [p]) (ho : ops[p]? = some o) (hp : (listed.setIfInBounds p true).getD p true = true)
    (h : ∀ K' : Act → World → Prop, Shut (∀ a w, B w → (B w → wpAnyH P md ops Q B fuel (listed.setIfInBounds p true) a w) → K' a w) → if Region.wanted o (yielded ops a.tmps) = true then Oper.wp P o a w K' Q else K' (a.put o.dst undef) w) :
    wpAnyL P md ops Q (Until B T p) (fuel + 1) listed a w := by
  refine until_ready hr (by simp) fun j hj => ?_
  obtain rfl : j = p := by simpa using hj
  exact wpOp_step ho (fun K' hK => h K' (fun a w hB hW => hK a w ⟨⟨hB, fun h0 => by rw [hp] at h0; cases h0⟩, until_end fuel _ _ _ hp (hW hB)⟩))
end
end Go.Proofs.Ytkialkjhjenkhaa
