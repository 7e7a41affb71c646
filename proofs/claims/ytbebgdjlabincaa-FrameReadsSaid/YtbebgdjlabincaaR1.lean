/- The statements' own functions on records, walked: Few. -/
import Derived.Test.YtbebgdjlabincaaR0
import Derived.Test.YtbebgdjlabincaaHeld
namespace Go.Proofs.Ytbebgdjlabincaa
open Go.RowKit Go.Lib

/-- 'append(v, x..)', in a region that draws its order. -/
theorem step_append_sl {P : Program} {ops : Array Oper} {o : Oper} {a : Act} {w : World} {K : Act → World → Prop} {Q : Exit → Act → World → Prop} {E : Prop} (hgd : o.guard = none) (s x : Operand) (t : TypeId)
    (ho : o.op = .call { callee := .builtin .append, args := #[s, x], argTypes := #[t, t] })
    (base : Nat) (e : TypeId) (i : TypeInfo) (z : Value) (size bytes : Nat) (ht : P.underlying t = some (.slice e)) (hi : P.info? e = some i) (hz : i.zero = some z)
    (hsize : i.size = size) (hby : i.bytes = bytes) (hzs : z.cells.size = size) (hsz : 0 < size)
    (v : Value) (n : Nat) (xs : List Value) (hs : a.eval s = v) (hown : Sl w base size v n xs)
    (ad : Addr) (m c : Nat) (news : List Value) (hx : a.eval x = .slice (some ad) m c) (hl : news.length = m * size) (hnews : ∀ j u, news[j]? = some u → w.cell? (ad.add j) = some u) (h1 : ∀ u ∈ news, u.oneCell' = true)
    (h63 : n + m ≤ maxLen) (hbytes : (n + m) * bytes ≤ 140737488355328) (hbase : base ≤ w.heap.size)
    (h : ∀ v' w', Ext base size w v n xs w' v' (n + m) (xs ++ news) → K (a.put o.dst v') w') :
    if Region.wanted o (yielded ops a.tmps) = true then Oper.wp P o a w K Q else E := by
  have hw : Region.wanted o (yielded ops a.tmps) = true := by simp [Region.wanted, hgd]
  rw [if_pos hw]
  obtain ⟨v', w', hr, h2⟩ := run_append_sl (P := P) w base t o.type e i z size bytes ht hi hz hsize hby hzs hsz v n xs hown ad m c news hl hnews h1 h63 hbytes hbase
  unfold Oper.wp execOp
  simp only [ho, resolve, invoke, builtin, Sem.run_bind, Sem.run_pure, Result.andThen_ok, List.map_toArray, List.map_cons, List.map_nil, hs, hx, hr]
  exact h v' w' h2

theorem sl_empty (w : World) (t : TypeId) (size : Nat) : Sl (w.alloc (.cells #[] t)) w.heap.size size (.slice (some ⟨w.heap.size, 0, none⟩) 0 0) 0 [] :=
  ⟨by simp, .inr ⟨w.heap.size, 0, 0, rfl, Nat.le_refl _, by simp, Nat.le_refl _, Nat.zero_le _, fun j hj => by omega, fun j hj => by omega⟩⟩

theorem cut60 (d : List UInt8) : cutB (bs d) 60 = bs (d.take 60) := by
  unfold cutB
  rw [bs_size]
  split
  · rw [extract_bs0]; rfl
  · rw [List.take_of_length_le (by omega)]

def f60 (rs : List Fr.Rc) : List Fr.Rc := rs.map fun r => (r.1, r.2.take 60)
theorem few_eq (rs : List Fr.Rc) (h : rs.length ≤ 6) : Fr.few rs = f60 rs := by unfold Fr.few f60; rw [List.take_of_length_le h]

/-- Records read from cells. -/
def RecsAt (w : World) (ao : Option Addr) (len : Nat) (rs : List Fr.Rc) : Prop :=
  rs.length = min len 6 ∧ (0 < len → ∃ b off, ao = some ⟨b, off, none⟩ ∧ b < w.heap.size ∧ ∀ i k d, rs[i]? = some (k, d) → w.cell? ⟨b, off + i * 2, none⟩ = some (.int .u8 k.toNat) ∧ w.cell? ⟨b, off + i * 2 + 1, none⟩ = some (.string (bs d)))

/-- The answer: new records. -/
def Recs (w : World) (rs : List Fr.Rc) (e : Ending) (w' : World) : Prop :=
  ∃ a cap, e = .returned (.slice a rs.length cap) ∧ Sl w' w.heap.size 2 (.slice a rs.length cap) rs.length (rc rs) ∧ Below w.heap.size w w'

set_option maxHeartbeats 1000000 in
set_option maxRecDepth 100000 in
theorem few_any (ao : Option Addr) (len cap : Nat) (rs : List Fr.Rc) (w : World) (hlen : len ≤ maxLen) (h : RecsAt w ao len rs) :
    Calls Try.prog 41 #[.slice ao len cap] w (Recs w (f60 rs)) := by
  obtain ⟨i0, hi, hz0, hz1, hz2⟩ := info_parts bi_rec
  have Hz := Lib.hid hz0; have Hs := Lib.hid hz1; have Hb := Lib.hid hz2; have Hi := Lib.hid hi
  clear hz0 hz1 hz2 hi
  obtain ⟨hrl, hcells⟩ := h
  unfold maxLen at hlen
  have hrl1 : rs.length ≤ len := by omega
  have hrl2 : rs.length ≤ 6 := by omega
  have hrl3 : len ≤ rs.length ∨ 6 ≤ rs.length := by omega
  clear hrl
  go_enter Try.func41, Try.ntmps41
  go_wp2
  go_loopw [3, 4] (fun o' i' wr => ∃ (k : Nat), i' = .int .i64 k ∧ k ≤ rs.length ∧ Sl wr w.heap.size 2 o' k (rc (f60 (rs.take k))) ∧ Below w.heap.size w wr) (fun _ i' _ => rs.length - (intOf i').toNat)
  case atStart => exact ⟨0, rfl, Nat.zero_le _, by simpa [rc, f60] using sl_empty w _ 2, (Below.refl _ _).alloc (Nat.le_refl _) _⟩
  case round =>
    obtain ⟨k, rfl, hk, hown, hbel⟩ := hrel
    by_cases hlt : k < rs.length
    · have h1 : k < len := by omega
      have h2 : k < 6 := by omega
      obtain ⟨b, off, hao, hb, hc⟩ := hcells (by omega)
      obtain ⟨kk, d, hkd⟩ : ∃ kk d, rs[k]? = some (kk, d) := ⟨_, _, List.getElem?_eq_getElem hlt⟩
      obtain ⟨c0, c1⟩ := hc k kk d hkd
      have hbw := hbel.size
      have p0 : wr.cell? ⟨b, off + k * 2, none⟩ = some (.int .u8 kk.toNat) := (hbel.cell (p := ⟨b, off + k * 2, none⟩) hb).trans c0
      have p1 : wr.cell? ⟨b, off + k * 2 + 1, none⟩ = some (.string (bs d)) := (hbel.cell (p := ⟨b, off + k * 2 + 1, none⟩) hb).trans c1
      have HK := Lib.hid hkd
      subst hao
      clear hc c0 c1 hkd
      go_wp2
      have hbd := hbel.drew
      have i1 : (k : Int) < (len : Int) := by omega
      have i2 : (0 : Int) ≤ (k : Int) := by omega
      have hbr : b < wr.heap.size := by omega
      have q : ∀ o, (wr.alloc o).drew.cell? ⟨b, off + k * 2, none⟩ = some (.int .u8 kk.toNat) ∧ (wr.alloc o).drew.cell? ⟨b, off + k * 2 + 1, none⟩ = some (.string (bs d)) := fun o =>
        ⟨(((Below.refl wr.heap.size wr).alloc (Nat.le_refl _) o).drew.cell (p := ⟨b, off + k * 2, none⟩) hbr).trans p0, (((Below.refl wr.heap.size wr).alloc (Nat.le_refl _) o).drew.cell (p := ⟨b, off + k * 2 + 1, none⟩) hbr).trans p1⟩
      go_region_held3 (fun w' => w'.cell? ⟨b, off + k * 2, none⟩ = some (.int .u8 kk.toNat) ∧ w'.cell? ⟨b, off + k * 2 + 1, none⟩ = some (.string (bs d)))
        (first | exact ⟨p0, p1⟩ | exact q _ | assumption)
        (first
          | (go_at_call 14; refine (cut_is (bs d) (d.take 60) 60 60 rfl (cut60 d) _).mono ?_; rintro e w1 ⟨rfl, rfl⟩)
          | (refine step_append_sl rfl (.tmp 16) (.tmp 29) 63 rfl w.heap.size 57 i0 _ 2 24 Try.underlying63 Hi.out Hz.out Hs.out Hb.out rfl (by decide) u3 k (rc (f60 (rs.take k))) (by simp [Act.eval]) (hown.alloc _).drew ⟨wr.heap.size, 0, none⟩ 1 1 [.int .u8 kk.toNat, .string (bs (d.take 60))] (by simp [Act.eval]) rfl (cells2 _ _ _ _ _ rfl) (by simp [Value.oneCell']) (by unfold maxLen; omega) (by omega) (by simp; omega) ?_; intro v2 w2 x2; have hb2 : Below w.heap.size w w2 := ((hbel.alloc hbw _).drew).trans (x2.below (Nat.le_refl _) (by simp; omega)); have r0 : w2.cell? ⟨b, off + k * 2, none⟩ = some (.int .u8 kk.toNat) ∧ w2.cell? ⟨b, off + k * 2 + 1, none⟩ = some (.string (bs d)) := ⟨(hb2.cell (p := ⟨b, off + k * 2, none⟩) hb).trans ((hbel.cell (p := ⟨b, off + k * 2, none⟩) hb).symm.trans p0), (hb2.cell (p := ⟨b, off + k * 2 + 1, none⟩) hb).trans ((hbel.cell (p := ⟨b, off + k * 2 + 1, none⟩) hb).symm.trans p1)⟩))
      go_wp2
      have ht : rs.take (k + 1) = rs.take k ++ [(kk, d)] := by
        have := HK.out
        rw [List.take_add_one, this]; rfl
      refine ⟨⟨k + 1, by go_num, by omega, ?_, hb2⟩, by simp [intOf]; omega⟩
      rw [ht, f60, List.map_append, rc_append]
      exact x2.now
    · have hv := hown
      have hkk : k = rs.length := by omega
      subst hkk
      rw [List.take_length] at hv
      obtain ⟨a, c, he⟩ := hv.slice
      rw [he] at hv
      have hl60 : (f60 rs).length = rs.length := by simp [f60]
      have HE := Lib.hid he
      have HV := Lib.hid hv
      clear he hv
      go_wp2
      all_goals
        go_ret
        refine ⟨a, c, ?_, by rw [hl60]; exact HV.out, hbel⟩
        rw [hl60, ← HE.out]
        rfl

/-- The answer: bytes as a text, where each ends. -/
def Ends (w : World) (rs : List Fr.Rc) (e : Ending) (w' : World) : Prop :=
  ∃ a cap, e = .returned (.tuple #[.string (bs (Fr.laid rs)), .slice a rs.length cap]) ∧ Sl w' w.heap.size 1 (.slice a rs.length cap) rs.length ((List.range rs.length).map fun j => .int .i64 (Fr.laid (rs.take (j + 1))).length) ∧ Below w.heap.size w w'

theorem bi_int : (Try.prog.info? 3).map (fun i => (i.zero, i.size, i.bytes)) = some (some (.int .i64 0), 1, 8) := by kernel_rfl

theorem sl_recs {w : World} {base g off n cap : Nat} {rs : List Fr.Rc} (h : Sl w base 2 (.slice (some ⟨g, off, none⟩) n cap) n (rc rs)) (i : Nat) (k : UInt8) (d : List UInt8) (hi : rs[i]? = some (k, d)) :
    w.cell? ⟨g, off + i * 2, none⟩ = some (.int .u8 k.toNat) ∧ w.cell? ⟨g, off + i * 2 + 1, none⟩ = some (.string (bs d)) := by
  have hlt : i < rs.length := (List.getElem?_eq_some_iff.1 hi).1
  have hn : rs.length = n := by have := h.1; rw [rc_length] at this; omega
  have hc : ∀ (rs : List Fr.Rc) (i : Nat) (k : UInt8) (d : List UInt8), rs[i]? = some (k, d) → (rc rs)[i * 2]? = some (.int .u8 k.toNat) ∧ (rc rs)[i * 2 + 1]? = some (.string (bs d)) := by
    intro rs
    induction rs with
    | nil => intro i k d h; simp at h
    | cons x rs ih =>
      intro i k d h
      cases i with
      | zero =>
        have : x = (k, d) := by simpa using h
        subst this
        exact ⟨rfl, rfl⟩
      | succ i =>
        have := ih i k d (by simpa using h)
        have e1 : rc (x :: rs) = .int .u8 x.1.toNat :: .string (bs x.2) :: rc rs := by simp [rc]
        rw [e1, show (i + 1) * 2 = i * 2 + 1 + 1 by omega]
        simpa using this
  rcases h.2 with ⟨h0, _⟩ | ⟨g', off', cap', he, _, _, _, _, _, hcell⟩
  · cases h0
  · cases he
    obtain ⟨h1, h2⟩ := hc rs i k d hi
    exact ⟨by rw [hcell _ (by omega)]; exact h1, by rw [Nat.add_assoc, hcell _ (by omega)]; exact h2⟩

set_option maxHeartbeats 1000000 in
set_option maxRecDepth 100000 in
theorem laid_any (base : Nat) (ao : Option Addr) (cap : Nat) (rs : List Fr.Rc) (w : World) (hown : Sl w base 2 (.slice ao rs.length cap) rs.length (rc rs)) (hrs : ∀ r ∈ rs, r.2.length ≤ 60) (hn : rs.length ≤ 6) :
    Calls Try.prog 42 #[.slice ao rs.length cap] w (Ends w rs) := by
  obtain ⟨i0, hi, hz0, hz1, hz2⟩ := info_parts bi_int
  have Hz := Lib.hid hz0; have Hs := Lib.hid hz1; have Hb := Lib.hid hz2; have Hi := Lib.hid hi
  clear hz0 hz1 hz2 hi
  have hlaid := Fr.laid_le rs hrs
  go_enter Try.func42, Try.ntmps42
  go_wp2
  go_loopw [4, 5, 11] (fun b' e' i' wr => ∃ (k : Nat) (a2 : Option Addr) (c2 : Nat), i' = .int .i64 k ∧ k ≤ rs.length ∧ b' = .slice a2 (Fr.laid (rs.take k)).length c2 ∧ Sl wr w.heap.size 1 b' (Fr.laid (rs.take k)).length (cb (Fr.laid (rs.take k))) ∧ Sl wr w.heap.size 1 e' k ((List.range k).map fun j => .int .i64 (Fr.laid (rs.take (j + 1))).length) ∧ Below w.heap.size w wr) (fun _ _ i' _ => rs.length - (intOf i').toNat)
  case atStart => exact ⟨0, none, 0, rfl, Nat.zero_le _, rfl, Sl.nil _ _ _, by simpa using sl_empty w _ 1, (Below.refl _ _).alloc (Nat.le_refl _) _⟩
  case round =>
    obtain ⟨k, a2, c2, rfl, hk, rfl, hb1, he1, hbel⟩ := hrel
    by_cases hlt : k < rs.length
    · obtain ⟨kk, d, hkd⟩ : ∃ kk d, rs[k]? = some (kk, d) := ⟨_, _, List.getElem?_eq_getElem hlt⟩
      obtain ⟨g, off, hao, hg⟩ : ∃ g off, ao = some ⟨g, off, none⟩ ∧ g < w.heap.size := by
        rcases hown.2 with ⟨_, h0⟩ | ⟨g, off, cap', he, _, hg, _⟩
        · omega
        · cases he; exact ⟨g, off, rfl, hg⟩
      subst hao
      obtain ⟨c0, c1⟩ := sl_recs hown k kk d hkd
      have p0 : wr.cell? ⟨g, off + k * 2, none⟩ = some (.int .u8 kk.toNat) := (hbel.cell (p := ⟨g, off + k * 2, none⟩) hg).trans c0
      have p1 : wr.cell? ⟨g, off + k * 2 + 1, none⟩ = some (.string (bs d)) := (hbel.cell (p := ⟨g, off + k * 2 + 1, none⟩) hg).trans c1
      have hL : Fr.laid (rs.take (k + 1)) = Fr.laid (rs.take k) ++ Fr.rec kk d := by
        rw [List.take_add_one, hkd, Fr.laid_append]; simp [Fr.laid]
      have hd : d.length ≤ 60 := hrs (kk, d) (List.mem_of_getElem? hkd)
      have hk6 : (Fr.laid (rs.take k)).length ≤ 450 := by
        have := Fr.laid_le (rs.take k) (fun r hr => hrs r (List.mem_of_mem_take hr))
        rw [List.length_take] at this
        omega
      have hbw := hbel.size
      have HL := Lib.hid hL
      clear c0 c1 hkd hL
      go_wp2_with (first
        | (go_at_call 36; refine (append_any w.heap.size a2 (Fr.laid (rs.take k)).length c2 (Fr.laid (rs.take k)) kk d _ (hb1.alloc _) (by omega)).mono ?_; intro e w2 hA; rw [← HL.out] at hA; obtain ⟨a3, c3, rfl, s3, b3⟩ := hA; have z3 := b3.size)
        | (at_builtin; refine wpList_append_sl _ rfl (.tmp 18) (.tmp 21) 76 rfl w.heap.size 3 i0 (.int .i64 0) 1 8 Try.underlying76 Hi.out Hz.out Hs.out Hb.out rfl (by decide) _ k _ rfl (((he1.alloc _).on b3).alloc _) ⟨w2.heap.size, 0, none⟩ 1 1 [.int .i64 (Fr.laid (rs.take (k + 1))).length] rfl rfl (cell_one_new _ _ _) (by simp [Value.oneCell']) (by unfold maxLen; omega) (by omega) (by simp at z3 ⊢; omega) ?_; intro v4 w4 x4))
      have hb2 : Below w.heap.size w w2 := below_step (hbel.alloc hbw _) b3
      have hb4 : Below w.heap.size w w4 := (hb2.alloc hb2.size _).trans (x4.below (Nat.le_refl _) (by have := hb2.size; simp; omega))
      refine ⟨⟨k + 1, a3, c3, by go_num, by omega, rfl, ?_, ?_, hb4⟩, by simp [intOf]; omega⟩
      · have s4 := (s3.mono (by simp; omega : w.heap.size ≤ (wr.alloc (.cells #[.int .u8 kk.toNat, .string (bs d)] 57)).heap.size)).alloc (.cells #[.int .i64 (Fr.laid (rs.take (k + 1))).length] 3)
        refine s4.kept x4.grown ?_
        right
        intro e
        cases hv : (Value.slice a3 (Fr.laid (rs.take (k + 1))).length c3).ownBlock with
        | none =>
          rcases s3.2 with ⟨_, h0⟩ | ⟨g', o', c', he', _⟩
          · have := (Fr.rec_len kk d).1
            have h1 := congrArg List.length HL.out
            rw [List.length_append] at h1
            omega
          · cases he'
            simp [Value.ownBlock] at hv
        | some z =>
          rw [hv] at e
          have h1 := (s3.lt z hv).1
          have h2 := (he1.lt z e.symm).2
          simp at h1
          omega
      · rw [List.range_succ, List.map_append]
        exact x4.now
    · have hkk : k = rs.length := by omega
      subst hkk
      rw [List.take_length] at hb1
      have hc := text_conv hb1
      obtain ⟨a5, c5, he⟩ := he1.slice
      rw [he] at he1
      have HE := Lib.hid he
      have HV := Lib.hid he1
      clear he he1
      go_wp2
      go_ret2
      refine ⟨a5, c5, ?_, HV.out, hbel⟩
      rw [← HE.out]
      rfl
end Go.Proofs.Ytbebgdjlabincaa
