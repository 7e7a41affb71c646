/- A region that draws its order, whose calls only make new memory and answer one value each: walked once, in the order of the text, in the class of worlds that keep what stood. -/
import Derived.Test.YtobdlfikomnmcaaGreatDoorMSl
import Derived.BigQuiet
namespace Go.Proofs.YtobdlfikomnmcaaGreatDoor
open Go.RowKit Go.Lib

theorem wp_region_quietC {P : Program} {C : World → Prop} {id : Nat} {Q : Exit → Act → World → Prop} {a : Act} {w : World} {l : List Oper} (hm : P.follows .mixedOrders = true) (hB : Region.lexB .any l.toArray = true) (hC : C w.drew)
    (h : wpQuiet P l.toArray C (fun a' => ∀ w', C w' → Q .normal a' w') l a) : (Code.region id l.toArray true).wp P Q a w :=
  wp_region_quiet (C := C) hm hB hC (by simpa using h)
/-- A callee's contract in the class. -/
theorem quiet_below {P : Program} {f : FuncId} {args : Array Value} {B : Nat} {w0 w : World} {v : Value} (hw : Below B w0 w) (hB : B ≤ w0.heap.size)
    (h : Calls P f args w fun e w' => e = .returned v ∧ Below w.heap.size w w') : Calls P f args w fun e w' => e = .returned v ∧ Below B w0 w' :=
  h.mono fun _ _ ⟨he, b⟩ => ⟨he, hw.trans (b.mono (Nat.le_trans hB hw.size))⟩
theorem quiet_below_same {P : Program} {f : FuncId} {args : Array Value} {B : Nat} {w0 w : World} {v : Value} (hw : Below B w0 w)
    (h : Calls P f args w fun e w' => e = .returned v ∧ w = w') : Calls P f args w fun e w' => e = .returned v ∧ Below B w0 w' :=
  h.mono fun _ _ ⟨he, b⟩ => ⟨he, b ▸ hw⟩
end Go.Proofs.YtobdlfikomnmcaaGreatDoor
