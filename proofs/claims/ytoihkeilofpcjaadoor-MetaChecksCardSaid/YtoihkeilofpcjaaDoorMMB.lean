/- Layer 9: a meta taken. -/
import Derived.Test.YtoihkeilofpcjaaDoorMMA
import Derived.Test.YtoihkeilofpcjaaDoorMU0
namespace Go.Proofs.YtoihkeilofpcjaaDoor
open Go.RowKit Go.Lib

theorem frozen8 {w : World} {b : Nat} {cs : Array Value} {T : TypeId} (h : w.heap[b]? = some (.cells cs T (0, 0))) : w.frozen? ⟨b, 0, none⟩ = false ∧ w.frozen? ⟨b, 1, none⟩ = false ∧ w.frozen? ⟨b, 2, none⟩ = false ∧ w.frozen? ⟨b, 3, none⟩ = false ∧ w.frozen? ⟨b, 4, none⟩ = false ∧ w.frozen? ⟨b, 5, none⟩ = false ∧ w.frozen? ⟨b, 6, none⟩ = false ∧ w.frozen? ⟨b, 7, none⟩ = false :=
  ⟨Lib.frozen_of_heap h 0, Lib.frozen_of_heap h 1, Lib.frozen_of_heap h 2, Lib.frozen_of_heap h 3, Lib.frozen_of_heap h 4, Lib.frozen_of_heap h 5, Lib.frozen_of_heap h 6, Lib.frozen_of_heap h 7⟩

/-- The answer: a meta, its lists in new memory; the taker in block b is at st'. -/
def MeP (b : Nat) (w : World) (m : Mt.Me) (st' : Mt.St) (e : Ending) (w' : World) : Prop :=
  ∃ vf vs, e = .returned (meV m vf vs) ∧ Tk w' b st' ∧ Sl w' w.heap.size 3 vf m.files.length (flc m.files) ∧ Sl w' w.heap.size 1 vs m.src.length (sc m.src) ∧ Turn (fun k => k = b) w w'

theorem zc_file : (Tryd.prog.info? 42).map (fun i => (i.zero, i.size, i.bytes)) = some (some (.agg #[.string ⟨#[]⟩, .int .i64 0, .int .u32 0]), 3, 32) := by kernel_rfl

theorem turn_shrink {S S' : Nat → Prop} {a b : World} (h : Turn S a b) (hS : ∀ k, k < a.heap.size → S k → S' k) : Turn S' a b :=
  ⟨h.os, h.tape, h.output, h.size, fun i hi hr => h.block i hi fun e => hr (hS i hi e)⟩
theorem turn_of_belowB {B : Nat} {a b : World} (h : Below B a b) : Turn (fun k => B ≤ k) a b := ⟨h.os, h.tape, h.output, h.size, fun i _ hr => h.block i (by omega)⟩

/-- Files, one behind the other. -/
def fls : Nat → Mt.St → List Mt.Fl × Mt.St
  | 0, st => ([], st)
  | n + 1, st => ((fls n st).1 ++ [(Mt.fl (fls n st).2).1], (Mt.fl (fls n st).2).2)
theorem fls_len (st : Mt.St) : ∀ n, (fls n st).1.length = n ∧ (fls n st).2.1.length ≤ st.1.length
  | 0 => ⟨rfl, Nat.le_refl _⟩
  | n + 1 => by
    obtain ⟨h1, h2⟩ := fls_len st n
    exact ⟨by rw [fls, List.length_append, h1]; rfl, Nat.le_trans (fl_len _) h2⟩
theorem txs_snoc : ∀ (n : Nat) (st : Mt.St), Mt.txs (n + 1) st = ((Mt.txs n st).1 ++ [(Mt.tt (Mt.txs n st).2 16).1], (Mt.tt (Mt.txs n st).2 16).2)
  | 0, st => rfl
  | n + 1, st => by
    rw [Mt.txs, txs_snoc n]
    rfl
theorem txs_len (st : Mt.St) : ∀ n, (Mt.txs n st).1.length = n ∧ (Mt.txs n st).2.1.length ≤ st.1.length
  | 0 => ⟨rfl, Nat.le_refl _⟩
  | n + 1 => by
    obtain ⟨h1, h2⟩ := txs_len st n
    rw [txs_snoc]
    exact ⟨by rw [List.length_append, h1]; rfl, Nat.le_trans (tt_len _ _) h2⟩
theorem flc_append (a c : List Mt.Fl) : flc (a ++ c) = flc a ++ flc c := by simp [flc]
theorem flc_one (f : Mt.Fl) : flc [f] = [.string (bs f.name), .int .i64 f.size, .int .u32 f.sum] := rfl
theorem three_cells (w : World) (a b c : Value) (t : TypeId) : ∀ j u, [a, b, c][j]? = some u → (w.alloc (.cells #[a, b, c] t)).cell? ((⟨w.heap.size, 0, none⟩ : Addr).add j) = some u := by
  intro j u hu
  exact (Sl.lit w w.heap.size 3 1 #[a, b, c] t (Nat.le_refl _) (by decide) rfl).cells j u hu

/-- The local box and the taker while a meta is taken. -/
structure MeL (b c sb : Nat) (w w' : World) (m : Mt.Me) (vf vs : Value) (st : Mt.St) : Prop where
  tk : Tk w' b st
  box : w'.heap[c]? = some (.cells #[.string (bs m.id), .int .i64 m.mn, .int .i64 m.mx, .int .i64 m.lv, .int .i64 m.se, .int .i64 m.sa, vf, vs] 25 (0, 0))
  fs : Sl w' (w.heap.size + 2) 3 vf m.files.length (flc m.files)
  ss : Sl w' sb 1 vs m.src.length (sc m.src)
  turn : Turn (fun k => k = b ∨ k = c) w w'
  len : st.1.length ≤ 140737488350000
  few : m.files.length ≤ 2 ∧ m.src.length ≤ 60

end Go.Proofs.YtoihkeilofpcjaaDoor
