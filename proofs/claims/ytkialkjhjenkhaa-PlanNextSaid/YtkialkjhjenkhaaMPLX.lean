/- Layer 20, the document's own: the free blocks, inserted one by one. -/
import Derived.Test.YtkialkjhjenkhaaMPLW
namespace Go.Proofs.Ytkialkjhjenkhaa
open Go.RowKit Go.Lib
set_option linter.unusedVariables false

theorem zc_rmet : (Try.prog.info? 67).map (fun i => (i.zero, i.size, i.bytes)) = some (some (.agg #[.string ⟨#[]⟩, .int .i64 0, .int .i64 0, .int .i64 0, .int .i64 0, .int .i64 0, .slice none 0 0, .slice none 0 0]), 8, 104) := by kernel_rfl
instance decLt (x y : Mt.Me) : Decidable (ltM x y) := by unfold ltM; exact inferInstance
/-- A block put ahead of the first one that it's less than. -/
def insQ (b : Mq) : List Mq → List Mq
  | [] => [b]
  | m :: r => if ltM b.m m.m then b :: m :: r else m :: insQ b r
/-- .. while it is done: what is there yet, and what comes. -/
def insJ (b : Mq) (nx : List Mq) (done : Bool) (rest : List Mq) : List Mq := nx ++ (if done then rest else insQ b rest)
theorem insJ_done (b : Mq) (nx : List Mq) (m : Mq) (r : List Mq) : insJ b nx true (m :: r) = insJ b (nx ++ [m]) true r := by simp [insJ]
theorem insJ_yes (b : Mq) (nx : List Mq) (m : Mq) (r : List Mq) (h : ltM b.m m.m) : insJ b nx false (m :: r) = insJ b (nx ++ [b] ++ [m]) true r := by simp [insJ, insQ, h]
theorem insJ_no (b : Mq) (nx : List Mq) (m : Mq) (r : List Mq) (h : ¬ ltM b.m m.m) : insJ b nx false (m :: r) = insJ b (nx ++ [m]) false r := by simp [insJ, insQ, h]
theorem insQ_len (b : Mq) (l : List Mq) : (insQ b l).length = l.length + 1 := by
  induction l with
  | nil => rfl
  | cons m r ih => unfold insQ; split <;> simp [ih]
theorem insQ_mem (b : Mq) (l : List Mq) (q : Mq) : q ∈ insQ b l ↔ q = b ∨ q ∈ l := by
  induction l with
  | nil => simp [insQ]
  | cons m r ih =>
    unfold insQ
    split
    · simp
    · simp only [List.mem_cons, ih]
      constructor
      · rintro (h | h | h)
        · exact .inr (.inl h)
        · exact .inl h
        · exact .inr (.inr h)
      · rintro (h | h | h)
        · exact .inr (.inl h)
        · exact .inl h
        · exact .inr (.inr h)
/-- Inserted where the names differ: it stays sorted. -/
theorem insQ_sorted (b : Mq) (l : List Mq) (h : (l.map Mq.m).Pairwise ltM) (hd : ∀ q ∈ l, q.m.id ≠ b.m.id) : ((insQ b l).map Mq.m).Pairwise ltM := by
  induction l with
  | nil => simp [insQ]
  | cons m r ih =>
    rw [List.map_cons, List.pairwise_cons] at h
    unfold insQ
    split
    · rename_i hlt
      rw [List.map_cons, List.map_cons, List.pairwise_cons, List.pairwise_cons]
      refine ⟨fun x hx => ?_, h.1, h.2⟩
      rcases List.mem_cons.1 hx with rfl | hx
      · exact hlt
      · exact ltM_trans hlt (h.1 x hx)
    · rename_i hn
      rw [List.map_cons, List.pairwise_cons]
      refine ⟨fun x hx => ?_, ih h.2 (fun q hq => hd q (List.mem_cons_of_mem _ hq))⟩
      obtain ⟨q, hq, rfl⟩ := List.mem_map.1 hx
      rcases (insQ_mem b r q).1 hq with rfl | hq
      · exact ltM_tri _ _ (hd m (List.mem_cons_self ..)) hn
      · exact h.1 q.m (List.mem_map_of_mem hq)
/-- The document's free blocks. -/
def liveT (ts : List (Mq × Int)) (p : Mq × Int) : Bool := decide (p.2 < 0) && decide (madeN p.1.m.id ts = 0)
def freeT (ts l : List (Mq × Int)) : List Mq := (l.filter (liveT ts)).foldl (fun out p => insQ p.1 out) []
theorem freeT_snoc (ts l : List (Mq × Int)) (p : Mq × Int) : freeT ts (l ++ [p]) = if liveT ts p then insQ p.1 (freeT ts l) else freeT ts l := by
  unfold freeT
  rw [List.filter_append, List.foldl_append]
  cases h : liveT ts p <;> simp [h]
theorem freeT_len (ts l : List (Mq × Int)) : (freeT ts l).length ≤ l.length := by
  have key : ∀ (l : List (Mq × Int)) (o : List Mq), (l.foldl (fun out p => insQ p.1 out) o).length = o.length + l.length := by
    intro l
    induction l with
    | nil => intro o; rfl
    | cons p l ih => intro o; rw [List.foldl_cons, ih, insQ_len, List.length_cons]; omega
  unfold freeT
  rw [key]
  have := List.length_filter_le (liveT ts) l
  simp; omega
theorem freeT_in (ts : List (Mq × Int)) : ∀ (l : List (Mq × Int)) (q : Mq), q ∈ freeT ts l ↔ ∃ p ∈ l, liveT ts p = true ∧ p.1 = q := by
  have key : ∀ (l : List (Mq × Int)) (o : List Mq) (q : Mq), q ∈ l.foldl (fun out p => insQ p.1 out) o ↔ q ∈ o ∨ ∃ p ∈ l, p.1 = q := by
    intro l
    induction l with
    | nil => intro o q; simp
    | cons p l ih =>
      intro o q
      rw [List.foldl_cons, ih, insQ_mem]
      simp only [List.mem_cons, exists_eq_or_imp]
      constructor
      · rintro ((rfl | h) | h)
        · exact .inr (.inl rfl)
        · exact .inl h
        · exact .inr (.inr h)
      · rintro (h | rfl | h)
        · exact .inl (.inr h)
        · exact .inl (.inl rfl)
        · exact .inr h
  intro l q
  unfold freeT
  rw [key]
  simp only [List.mem_filter, List.not_mem_nil, false_or]
  constructor
  · rintro ⟨p, ⟨h1, h2⟩, h3⟩; exact ⟨p, h1, h2, h3⟩
  · rintro ⟨p, h1, h2, h3⟩; exact ⟨p, ⟨h1, h2⟩, h3⟩
end Go.Proofs.Ytkialkjhjenkhaa
