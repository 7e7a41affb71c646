/- Layer 10: SortStableFunc of what rises already, up to a thousand. Maps with texts as keys, as lists of entries: what a look-up, a store, a deletion do. -/
import Derived.Test.YtkialkjhjenkhaaMSM1
import Derived.Test.YtkialkjhjenkhaaMZ2
import Derived.MapKept
import Derived.Maps.RangeRun
import Derived.Maps.Own
namespace Go.Proofs.Ytkialkjhjenkhaa
open Go.RowKit Go.Lib
set_option linter.unusedVariables false

set_option maxHeartbeats 2000000 in
set_option maxRecDepth 100000 in
theorem stable_any (v : Value) (qs : List Mq) (w : World) (h : MsR w v qs) (hup : UpQ qs) (hm : qs.length ≤ 1000) :
    Calls Try.prog 51 #[v, .int .i64 qs.length, .func (.func 36) #[] #[]] w fun e w' => e = .returned (.tuple #[]) ∧ Below w.heap.size w w' := by
  have SY := Lib.hid (fun W (bb : Below w.heap.size w W) a m b (h1 : a < m) (h2 : m < b) (h3 : b ≤ qs.length) => symm_any (b - a) v qs a m b W (Nat.le_refl _) (h.on bb) hup h1 h2 h3 hm)
  have IS := Lib.hid (fun W (bb : Below w.heap.size w W) a b (hab : a ≤ b) (hb : b ≤ qs.length) => insort_any v qs a b W (h.on bb) hup hab hb (by omega))
  clear h hup
  obtain ⟨N, hN⟩ : ∃ N, N = qs.length := ⟨_, rfl⟩
  rw [← hN] at IS SY hm ⊢
  clear hN
  go_enter Try.func51, Try.ntmps51
  go_wp2_with fail
  go_loopw [7, 8] (fun a' b' wr => ∃ a b : Nat, a' = .int .i64 a ∧ b' = .int .i64 b ∧ a ≤ N ∧ b = a + 20 ∧ Below w.heap.size w wr) (fun a' _ _ => N + 20 - (RowKit.intOf a').toNat)
  case atStart => exact ⟨0, 20, rfl, rfl, Nat.zero_le _, rfl, Below.refl _ _⟩
  case round =>
    obtain ⟨W0, rfl⟩ : ∃ W0, W0 = wr := ⟨_, rfl⟩
    obtain ⟨a, b, rfl, rfl, ha, hb, hbw⟩ := hrel
    have HB := Lib.hid hbw
    have HA := Lib.hid hb
    clear hbw
    by_cases hlt : b ≤ N
    · have hil : (b : Int) ≤ N := by omega
      have HAB := Lib.hid (show a ≤ b by omega)
      have HL := Lib.hid hlt
      clear hb hlt
      go_wp2_with (first | (go_at_call 66; with_reducible refine (IS.out _ HB.out a b HAB.out HL.out).mono ?_; rintro e w1 ⟨rfl, b1⟩) | fail)
      have B1 := HB.out.trans (b1.mono HB.out.size)
      have h1 := HA.out; have h2 := HL.out
      exact ⟨⟨b, b + 20, rfl, by simp, h2, rfl, B1⟩, by simp [RowKit.intOf]; omega⟩
    · have hil : ¬ (b : Int) ≤ N := by omega
      have HAN := Lib.hid ha
      clear hb hlt
      go_wp2_with (first | (go_at_call 66; with_reducible refine (IS.out _ HB.out a N HAN.out (Nat.le_refl _)).mono ?_; rintro e w1 ⟨rfl, b1⟩; have HB1 := Lib.hid (HB.out.trans (b1.mono HB.out.size)); clear b1 HB) | fail)
      go_loopw [6] (fun l' wr => ∃ s : Nat, l' = .int .i64 s ∧ 1 ≤ s ∧ s ≤ 2000 ∧ Below w.heap.size w wr) (fun l' _ => 2000 - (RowKit.intOf l').toNat)
      case atStart => exact ⟨20, rfl, by omega, by omega, HB1.out⟩
      case round =>
        clear HB1 hil HAN ha
        obtain ⟨W1, rfl⟩ : ∃ W1, W1 = wr := ⟨_, rfl⟩
        obtain ⟨s, rfl, hs1, hs2, hbw⟩ := hrel
        have HB2 := Lib.hid hbw
        clear hbw
        by_cases hsn : s < N
        · have hsl : (s : Int) < N := by omega
          obtain ⟨d, hd⟩ : ∃ d, d = 2 * s := ⟨_, rfl⟩
          have wd : IntKind.i64.wrap (2 * (s : Int)) = (d : Int) := by rw [show 2 * (s : Int) = d by omega]; exact IntWalk.i64_in _ (by omega)
          have wd2 : IntKind.i64.wrap ((s : Int) * 2) = (d : Int) := by rw [show (s : Int) * 2 = d by omega]; exact IntWalk.i64_in _ (by omega)
          have hd1 : s < d := by omega
          have hd2 : d ≤ 2000 := by omega
          have HD := Lib.hid hd
          clear hd
          go_wp2_with fail
          go_loopw [7, 8] (fun a' b' wr => ∃ a b : Nat, a' = .int .i64 a ∧ b' = .int .i64 b ∧ a ≤ N ∧ b = a + d ∧ Below w.heap.size w wr) (fun a' _ _ => N + 2000 - (RowKit.intOf a').toNat)
          case atStart => exact ⟨0, d, rfl, rfl, Nat.zero_le _, by omega, HB2.out⟩
          case round =>
            clear HB2
            obtain ⟨W2, rfl⟩ : ∃ W2, W2 = wr := ⟨_, rfl⟩
            obtain ⟨a, b, rfl, rfl, ha, hb, hbw⟩ := hrel
            have HB := Lib.hid hbw
            have HA := Lib.hid hb
            obtain ⟨m, hm'⟩ : ∃ m, m = a + s := ⟨_, rfl⟩
            have wm : IntKind.i64.wrap ((a : Int) + (s : Int)) = (m : Int) := by rw [show (a : Int) + s = m by omega]; exact IntWalk.i64_in _ (by omega)
            have hm1 : a < m ∧ m < b := by omega
            clear hbw hm'
            by_cases hlt : b ≤ N
            · have hil : (b : Int) ≤ N := by omega
              have SC := Lib.hid (SY.out W2 HB.out a m b hm1.1 hm1.2 hlt)
              have wb : IntKind.i64.wrap ((b : Int) + (d : Int)) = ((b + d : Nat) : Int) := by rw [show ((b + d : Nat) : Int) = (b : Int) + d by omega]; exact IntWalk.i64_in _ (by omega)
              have HL := Lib.hid hlt
              clear hb hlt
              go_wp2_with (first | (go_at_call 67; (with_reducible refine SC.out.mono ?_); rintro e w3 ⟨rfl, b3⟩; have B3 := Lib.hid (HB.out.trans (b3.mono HB.out.size)); clear b3) | fail)
              have h1 := HA.out; have h2 := HL.out
              exact ⟨⟨b, b + d, rfl, by simp, h2, rfl, B3.out⟩, by simp [RowKit.intOf]; omega⟩
            · have hil : ¬ (b : Int) ≤ N := by omega
              clear hb hlt
              by_cases hmn : m < N
              · have hml : (m : Int) < N := by omega
                have SC := Lib.hid (SY.out W2 HB.out a m N hm1.1 hmn (Nat.le_refl _))
                clear hmn
                go_wp2_with (first | (go_at_call 67; (with_reducible refine SC.out.mono ?_); rintro e w3 ⟨rfl, b3⟩; have B3 := Lib.hid (HB.out.trans (b3.mono HB.out.size)); clear b3) | fail)
                exact ⟨⟨d, by simp, by omega, hd2, B3.out⟩, by simp [RowKit.intOf]; omega⟩
              · have hml : ¬ (m : Int) < N := by omega
                clear hmn
                go_wp2_with fail
                exact ⟨⟨d, by simp, by omega, hd2, HB.out⟩, by simp [RowKit.intOf]; omega⟩
        · have hsl : ¬ (s : Int) < N := by omega
          clear hsn
          go_wp2_with fail
          go_returns
          exact ⟨rfl, HB2.out⟩
set_option maxHeartbeats 2000000 in
set_option maxRecDepth 100000 in
theorem stableS_any (v : Value) (qs : List Mq) (w : World) (h : MsR w v qs) (hup : UpQ qs) (hm : qs.length ≤ 1000) :
    Calls Try.prog 35 #[v, .func (.func 36) #[] #[]] w fun e w' => e = .returned (.tuple #[]) ∧ Below w.heap.size w w' := by
  have SA := Lib.hid (fun W (bb : Below w.heap.size w W) => stable_any v qs W (h.on bb) hup hm)
  obtain ⟨ad, cap, rfl⟩ := rd_form h.rd
  clear h hup
  obtain ⟨N, hN⟩ : ∃ N, N = qs.length := ⟨_, rfl⟩
  rw [← hN] at SA hm ⊢
  clear hN
  go_enter Try.func35, Try.ntmps35
  go_wp2_with (first | (go_at_call 51; refine (SA.out _ (Below.refl _ _)).mono ?_; rintro e w1 ⟨rfl, b1⟩) | fail)
  go_returns
  exact ⟨rfl, b1⟩
end Go.Proofs.Ytkialkjhjenkhaa

namespace Go.Proofs.Ytkialkjhjenkhaa
open Go.RowKit

/-- An entry of a map whose keys are texts. -/
structure En where
  name : ByteArray
  val : Value
  born : Nat
def En.ent (e : En) : MapEntry := { key := .string e.name, val := e.val, born := e.born }
def MapIs (m : Nat) (es : List En) (clock : Nat) (w : World) : Prop := w.heap[m]? = some (.map (es.map En.ent).toArray clock)
/-- The entry of a name; a value stored; an entry gone. -/
def lookE (k : ByteArray) : List En → Option En
  | [] => none
  | e :: es => if k = e.name then some e else lookE k es
def setE (k : ByteArray) (v : Value) (b : Nat) : List En → List En
  | [] => [⟨k, v, b⟩]
  | e :: es => if k = e.name then { e with val := v } :: es else e :: setE k v b es
def delE (k : ByteArray) : List En → List En
  | [] => []
  | e :: es => if k = e.name then es else e :: delE k es

theorem sameNow_string (k : ByteArray) (e : En) : Instr.sameNow .string (.string k) e.ent.key = some (decide (k = e.name)) := by
  show some (k == e.name) = _
  congr 1
  by_cases h : k = e.name
  · rw [(MapKept.bytes_beq _ _).2 h, decide_eq_true h]
  · rw [decide_eq_false h, Bool.eq_false_iff]
    exact fun hb => h ((MapKept.bytes_beq _ _).1 hb)

theorem find_all (k : ByteArray) : ∀ (es : List En) (i : Nat),
    (Instr.findNow .string (.string k) (es.map En.ent) i = some none ∧ lookE k es = none ∧ (∀ v b, setE k v b es = es ++ [⟨k, v, b⟩]) ∧ delE k es = es) ∨
    ∃ j e, Instr.findNow .string (.string k) (es.map En.ent) i = some (some (i + j, e.val)) ∧ es[j]? = some e ∧ e.name = k ∧ lookE k es = some e ∧ (∀ v b, setE k v b es = es.modify j fun e => { e with val := v }) ∧ delE k es = es.eraseIdx j
  | [], i => .inl ⟨rfl, rfl, fun _ _ => rfl, rfl⟩
  | e :: es, i => by
    by_cases h : k = e.name
    · refine .inr ⟨0, e, ?_, rfl, h.symm, ?_, fun v b => ?_, ?_⟩
      · rw [List.map_cons]; unfold Instr.findNow; rw [sameNow_string, decide_eq_true h]; rfl
      · simp [lookE, h]
      · simp [setE, h]
      · simp [delE, h]
    · have hf : Instr.findNow .string (.string k) ((e :: es).map En.ent) i = Instr.findNow .string (.string k) (es.map En.ent) (i + 1) := by
        rw [List.map_cons]
        conv => lhs; unfold Instr.findNow
        rw [sameNow_string, decide_eq_false h]
      rcases find_all k es (i + 1) with ⟨h1, h2, h3, h4⟩ | ⟨j, e', h1, h2, h3, h4, h5, h6⟩
      · exact .inl ⟨hf.trans h1, by simp [lookE, h, h2], fun v b => by simp [setE, h, h3], by simp [delE, h, h4]⟩
      · refine .inr ⟨j + 1, e', by rw [hf, h1]; congr 3; omega, by simpa using h2, h3, by simp [lookE, h, h4], fun v b => by simp [setE, h, h5], by simp [delE, h, h6]⟩

theorem map_erase (f : En → MapEntry) : ∀ (l : List En) (j : Nat), (l.eraseIdx j).map f = (l.map f).eraseIdx j
  | [], j => by simp
  | e :: l, 0 => rfl
  | e :: l, j + 1 => by simp [map_erase f l j]

section
variable {P : Program} {w : World} {T K E : TypeId} {m clock : Nat} {es : List En}

theorem run_look (ht : P.underlying T = some (.map K E)) (hk : P.underlying K = some .string) (z : Value) (hz : ∀ w, (zeroValue E).run P w = .ok z w) (h : MapIs m es clock w) (k : ByteArray) (ok : Bool) :
    (Instr.lookup T (.map (some m)) (.string k) ok).run P w = .ok (if ok then .tuple #[((lookE k es).map (·.val)).getD z, .bool (lookE k es).isSome] else ((lookE k es).map (·.val)).getD z) w := by
  have hkey : MapKept.IsKey .string (.string k) := trivial
  have hck := fun b : Bool => MapKept.run_checkKey (P := P) (w := w) hk hkey b 9999
  rcases find_all k es 0 with ⟨h1, h2, _, _⟩ | ⟨j, e, h1, _, _, h4, _, _⟩
  · have hfk := MapKept.run_findKey (P := P) (w := w) hk h1
    cases ok <;> simp [Instr.lookup, run_underlying ht, MapKept.run_getObj_map h, hck, Result.andThen, hfk, hz, h2]
  · have hfk := MapKept.run_findKey (P := P) (w := w) hk h1
    cases ok <;> simp [Instr.lookup, run_underlying ht, MapKept.run_getObj_map h, hck, Result.andThen, hfk, h4]

/-- The map's block is another one now. -/
def World.putMap (w : World) (m : Nat) (es : List En) (clock : Nat) : World := { w with heap := w.heap.setIfInBounds m (.map (es.map En.ent).toArray clock) }
theorem mapIs_put (h : m < w.heap.size) (es' : List En) (clock' : Nat) : MapIs m es' clock' (World.putMap w m es' clock') := by
  unfold MapIs World.putMap
  simp [h]
theorem turn_put {S : Nat → Prop} (hS : S m) (es' : List En) (clock' : Nat) : Turn S w (World.putMap w m es' clock') :=
  ⟨rfl, rfl, rfl, by simp [World.putMap], fun i _ hr => by
    have hne : m ≠ i := fun e => hr (e ▸ hS)
    simp only [World.putMap]; rw [Array.getElem?_setIfInBounds_ne hne]⟩

theorem run_store (ht : P.underlying T = some (.map K E)) (hk : P.underlying K = some .string) (h : MapIs m es clock w) (k : ByteArray) (v : Value) :
    (Instr.mapUpdate T (.map (some m)) (.string k) v).run P w = .ok () (World.putMap w m (setE k v clock es) (if (lookE k es).isSome then clock else clock + 1)) := by
  have hkey : MapKept.IsKey .string (.string k) := trivial
  have hck := fun b : Bool => MapKept.run_checkKey (P := P) (w := w) hk hkey b 9999
  have hset := fun o => MapKept.run_setObj_map (P := P) o h
  rcases find_all k es 0 with ⟨h1, h2, h3, _⟩ | ⟨j, e, h1, hj, hn, h4, h5, _⟩
  · have hfk := MapKept.run_findKey (P := P) (w := w) hk h1
    simp [Instr.mapUpdate, run_underlying ht, MapKept.run_getObj_map h, hck, Result.andThen, hfk, hset, h2, h3, World.putMap, En.ent]
  · have hfk := MapKept.run_findKey (P := P) (w := w) hk h1
    have hjl : ((es.map En.ent).toArray)[0 + j]? = some e.ent := by simp [hj]
    have hks : (Instr.keyThatStays (((((es.map En.ent).toArray)[0 + j]?).map (·.key)).getD (.string k)) (.string k)).run P w = .ok (.string k) w := by
      rw [hjl]
      have hs : Instr.sameBits 10000 (.string k) (.string k) = true := by
        show (k == k) = true
        exact (MapKept.bytes_beq _ _).2 rfl
      simp [En.ent, hn, Instr.keyThatStays, hs]
    have hmod : (es.map En.ent).toArray.modify (0 + j) (fun e => { e with key := .string k, val := v }) = ((setE k v clock es).map En.ent).toArray := by
      rw [h5]
      apply Array.ext'
      simp only [Array.toList_modify, Nat.zero_add]
      apply List.ext_getElem?
      intro i
      rw [List.getElem?_modify, List.getElem?_map, List.getElem?_map, List.getElem?_modify]
      by_cases hij : j = i
      · subst hij
        rw [hj]
        simp [En.ent, hn]
      · cases es[i]? <;> simp [hij]
    simp only [Instr.mapUpdate, Sem.run_bind, run_underlying ht, MapKept.run_getObj_map h, hck, Result.andThen, hfk, hks, hset, hmod]
    simp [h4, World.putMap]

theorem run_drop (ht : P.underlying T = some (.map K E)) (hk : P.underlying K = some .string) (h : MapIs m es clock w) (k : ByteArray) (ty : TypeId) :
    (Builtin.delete_ #[T, K] ty #[.map (some m), .string k]).run P w = .ok (.tuple #[]) (World.putMap w m (delE k es) clock) := by
  have hkey : MapKept.IsKey .string (.string k) := trivial
  have hck := fun b : Bool => MapKept.run_checkKey (P := P) (w := w) hk hkey b 9999
  have hset := fun o => MapKept.run_setObj_map (P := P) o h
  rcases find_all k es 0 with ⟨h1, _, _, h4⟩ | ⟨j, e, h1, hj, _, _, _, h6⟩
  · have hfk := MapKept.run_findKey (P := P) (w := w) hk h1
    simp [Builtin.delete_, run_underlying ht, MapKept.run_getObj_map h, hck, Result.andThen, hfk, hset, h4, World.putMap]
  · have hfk := MapKept.run_findKey (P := P) (w := w) hk h1
    simp [Builtin.delete_, run_underlying ht, MapKept.run_getObj_map h, hck, Result.andThen, hfk, hset]
    unfold World.putMap
    rw [h6, map_erase]
end
#print axioms run_look
#print axioms run_store
#print axioms run_drop
end Go.Proofs.Ytkialkjhjenkhaa
