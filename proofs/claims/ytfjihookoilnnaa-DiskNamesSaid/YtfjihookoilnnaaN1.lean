/- DiskNames: a map of counts beside a disk. -/
import Derived.Test.YtfjihookoilnnaaG12
namespace Go.Proofs.Ytfjihookoilnnaa
open Go.Conc Go.RowKit
open Go.Proofs (encStr)
open Go.ChangeMaps (setBlock)

theorem borns_injE : ∀ (fs : List En), (fs.map (·.born)).Nodup → ∀ x ∈ fs, ∀ y ∈ fs, x.born = y.born → x = y
  | [], _, x, hx, _, _, _ => by cases hx
  | e :: es, h, x, hx, y, hy, he => by
    rw [List.map_cons, List.nodup_cons] at h
    rcases List.mem_cons.1 hx with hxe | hx
    · rcases List.mem_cons.1 hy with hye | hy
      · rw [hxe, hye]
      · exact absurd (show e.born ∈ es.map (·.born) from List.mem_map.2 ⟨y, hy, by rw [← he, hxe]⟩) h.1
    · rcases List.mem_cons.1 hy with hye | hy
      · exact absurd (show e.born ∈ es.map (·.born) from List.mem_map.2 ⟨x, hx, by rw [he, hye]⟩) h.1
      · exact borns_injE es h.2 x hx y hy he
theorem borns_permE (fs vs : List En) (h : (fs.map (·.born)).Nodup) (hv : vs.Nodup) (hsub : ∀ x ∈ vs, x ∈ fs) (hall : ∀ x ∈ fs, x.born ∈ vs.map (·.born)) : vs.Perm fs := by
  refine (List.perm_ext_iff_of_nodup hv (nodup_of_map _ fs h)).2 fun x => ⟨hsub x, fun hx => ?_⟩
  obtain ⟨y, hy, he⟩ := List.mem_map.1 (hall x hx)
  rw [borns_injE fs h x hx y (hsub y hy) he.symm]
  exact hy
abbrev entsE (fs : List En) : Array MapEntry := (fs.map En.ent).toArray
theorem left_noneE (fs vs : List En) (h : (leftOf (entsE fs) (vs.map (·.born)).toArray).size = 0) : ∀ x ∈ fs, x.born ∈ vs.map (·.born) := by
  intro x hx
  have h0 := Array.eq_empty_of_size_eq_zero h
  unfold leftOf at h0
  rw [Array.filter_eq_empty_iff] at h0
  have := h0 x.ent (by simp only [entsE]; rw [List.mem_toArray]; exact List.mem_map.2 ⟨x, hx, rfl⟩)
  simpa [En.ent] using this
theorem left_someE (fs vs : List En) (e : MapEntry) (h : e ∈ (leftOf (entsE fs) (vs.map (·.born)).toArray).toList) : ∃ x ∈ fs, e = x.ent ∧ x.born ∉ vs.map (·.born) := by
  unfold leftOf at h
  rw [Array.mem_toList_iff, Array.mem_filter] at h
  obtain ⟨h1, h2⟩ := h
  simp only [entsE, List.mem_toArray, List.mem_map] at h1
  obtain ⟨x, hx, rfl⟩ := h1
  exact ⟨x, hx, rfl, by simpa [En.ent] using h2⟩
theorem borns_nextE (vs : List En) (hv : (vs.map (·.born)).Nodup) (x : En) (hn : x.born ∉ vs.map (·.born)) : ((vs ++ [x]).map (·.born)).Nodup := by
  rw [List.map_append, List.nodup_append]
  refine ⟨hv, by simp, fun a ha b hb => ?_⟩
  rw [List.map_singleton, List.mem_singleton] at hb
  rintro rfl
  exact hn (hb ▸ ha)
theorem borns_lenE (fs vs : List En) (hv : (vs.map (·.born)).Nodup) (hsub : ∀ x ∈ vs, x ∈ fs) (x : En) (hx : x ∈ fs) (hn : x.born ∉ vs.map (·.born)) : vs.length < fs.length := by
  have := nat_len _ (fs.map (·.born)) (borns_nextE vs hv x hn) fun y hy => by
    obtain ⟨z, hz, rfl⟩ := List.mem_map.1 hy
    rw [List.mem_append, List.mem_singleton] at hz
    rcases hz with hz | rfl
    · exact List.mem_map.2 ⟨z, hsub z hz, rfl⟩
    · exact List.mem_map.2 ⟨z, hx, rfl⟩
  simp at this
  omega

def StampsE (es : List En) (clock : Nat) : Prop := (∀ x ∈ es, x.born < clock) ∧ (es.map (·.born)).Nodup
theorem set_bornE (k : ByteArray) (v : Value) (b : Nat) : ∀ es : List En, (setE k v b es).map (·.born) = if (lookE k es).isSome then es.map (·.born) else es.map (·.born) ++ [b]
  | [] => rfl
  | e :: es => by
    have := set_bornE k v b es
    unfold setE lookE
    by_cases hk : k = e.name
    · rw [if_pos hk, if_pos hk]; rfl
    · rw [if_neg hk, if_neg hk, List.map_cons, this]
      split <;> simp
theorem StampsE.set {es : List En} {clock : Nat} (h : StampsE es clock) (k : ByteArray) (v : Value) : StampsE (setE k v clock es) (if (lookE k es).isSome then clock else clock + 1) := by
  have hb := set_bornE k v clock es
  have hall : ∀ x ∈ setE k v clock es, x.born ∈ (if (lookE k es).isSome then es.map (·.born) else es.map (·.born) ++ [clock]) := fun x hx => by
    rw [← hb]; exact List.mem_map.2 ⟨x, hx, rfl⟩
  refine ⟨fun x hx => ?_, ?_⟩
  · have := hall x hx
    split at this
    · rename_i hs
      rw [if_pos hs]
      obtain ⟨y, hy, he⟩ := List.mem_map.1 this
      rw [← he]; exact h.1 y hy
    · rename_i hs
      rw [if_neg hs]
      rw [List.mem_append, List.mem_singleton] at this
      rcases this with this | this
      · obtain ⟨y, hy, he⟩ := List.mem_map.1 this
        have := h.1 y hy
        omega
      · omega
  · rw [hb]
    split
    · exact h.2
    · rw [List.nodup_append]
      refine ⟨h.2, by simp, fun a ha b hb' => ?_⟩
      obtain ⟨y, hy, he⟩ := List.mem_map.1 ha
      have h1 := h.1 y hy
      rw [List.mem_singleton] at hb'
      omega
def addN (k : ByteArray) : List ByteArray → List ByteArray
  | [] => [k]
  | n :: ns => if k = n then n :: ns else n :: addN k ns
theorem names_setE (k : ByteArray) (v : Value) (b : Nat) : ∀ es : List En, (setE k v b es).map (·.name) = addN k (es.map (·.name))
  | [] => rfl
  | e :: es => by
    have ih := names_setE k v b es
    unfold setE
    simp only [List.map_cons, addN]
    by_cases hk : k = e.name
    · rw [if_pos hk, if_pos hk]; rfl
    · rw [if_neg hk, if_neg hk, List.map_cons, ih]
theorem names_setF (k : ByteArray) (v : Value) (data : List UInt8) (s b : Nat) : ∀ fs : List Fl, (setF k v data s b fs).map (·.name) = addN k (fs.map (·.name))
  | [] => rfl
  | e :: es => by
    have ih := names_setF k v data s b es
    unfold setF
    simp only [List.map_cons, addN]
    by_cases hk : k = e.name
    · rw [if_pos hk, if_pos hk]; rfl
    · rw [if_neg hk, if_neg hk, List.map_cons, ih]
theorem look_namesE (k : ByteArray) : ∀ es : List En, k ∈ es.map (·.name) → (lookE k es).isSome = true
  | [], h => by simp at h
  | e :: es, h => by
    unfold lookE
    by_cases hk : k = e.name
    · rw [if_pos hk]; rfl
    · rw [if_neg hk]
      rw [List.map_cons, List.mem_cons] at h
      exact look_namesE k es (h.resolve_left hk)

/-- The disk, another block having turned. -/
theorem DiskAt.other {base d f c m mp : Nat} {room : Int} {fs : List Fl} {A : List Ft} {clock : Nat} {w w' : World} (h : DiskAt base d f c m room fs A clock w) (t : Turn (fun j => j = mp) w w') (hm : ¬ Mine d f c m fs mp) : DiskAt base d f c m room fs A clock w' := by
  have hd : d < w.heap.size := Nat.lt_of_lt_of_le h.dlt h.hb
  have n1 : d ≠ mp := fun e => hm (.inl e.symm)
  have n2 : f ≠ mp := fun e => hm (.inr (.inl e.symm))
  have n3 : c ≠ mp := fun e => hm (.inr (.inr (.inl e.symm)))
  have n4 : m ≠ mp := fun e => hm (.inr (.inr (.inr (.inl e.symm))))
  exact ⟨Nat.le_trans h.hb t.size, h.dlt, h.flt, h.clt, h.mlt, h.df, h.dc, h.dm, h.fc, h.fm, h.cm, (t.cell (p := ⟨d, 0, none⟩) hd n1).trans h.c0, (t.cell (p := ⟨d, 1, none⟩) hd n1).trans h.c1, (t.cell (p := ⟨d, 2, none⟩) hd n1).trans h.c2, (t.cell (p := ⟨d, 3, none⟩) hd n1).trans h.c3, (t.frozen (p := ⟨d, 2, none⟩) hd n1).trans h.f2,
    h.fuse.turn t n2 n3, h.map.turn t n4, ⟨fun x hx => (h.files.sl x hx).same t.size fun k hk => t.block k ((h.files.sl x hx).lt k hk).2 fun e => hm (.inr (.inr (.inr (.inr ⟨x, hx, by rw [← e]; exact hk⟩)))), h.files.sure, h.files.names, h.files.apart⟩, h.room0, h.room1, h.small, h.stamps⟩

/-- DiskNames' counts. -/
structure Counted (es : List En) (fs : List Fl) (ck i : Nat) : Prop where
  vals : ∀ e ∈ es, ∃ c : Nat, e.val = .int .i64 c ∧ 1 ≤ c ∧ c ≤ i
  names : es.map (·.name) = fs.map (·.name)
  stamps : StampsE es ck
theorem Counted.logged {es : List En} {fs : List Fl} {ck i : Nat} (h : Counted es fs ck i) : Logged es [] i := ⟨h.vals, by simp, by simp⟩
theorem Counted.set {es : List En} {fs : List Fl} {ck i : Nat} (h : Counted es fs ck i) (n : ByteArray) (v : Value) (data : List UInt8) (s b : Nat) :
    Counted (setE n (.int .i64 ((countE n es : Nat) + 1)) ck es) (setF n v data s b fs) (if (lookE n es).isSome then ck else ck + 1) (i + 1) := by
  have hc := count_val h.logged n
  refine ⟨fun e he => ?_, ?_, h.stamps.set _ _⟩
  · rcases set_memE _ _ _ _ _ he with h1 | h1
    · obtain ⟨c, h2, h3, h4⟩ := h.vals e h1
      exact ⟨c, h2, h3, by omega⟩
    · exact ⟨countE n es + 1, by rw [h1]; simp, by omega, by omega⟩
  · rw [names_setE, names_setF, h.names]
theorem Counted.more {es : List En} {fs : List Fl} {ck i : Nat} (h : Counted es fs ck i) : Counted es fs ck (i + 1) :=
  ⟨fun e he => by obtain ⟨c, h1, h2, h3⟩ := h.vals e he; exact ⟨c, h1, h2, by omega⟩, h.names, h.stamps⟩
/-- How many names begin so. -/
def wantE (p : ByteArray) (es : List En) : Nat := ((es.map (·.name.data.toList)).filter (pre p.data.toList)).length
theorem want_names {es : List En} {fs : List Fl} (h : es.map (·.name) = fs.map (·.name)) (p : ByteArray) : wantE p es = (namesF p fs).length := by
  unfold wantE namesF
  have : es.map (fun e => e.name.data.toList) = fs.map nm := by
    have := congrArg (List.map fun b : ByteArray => b.data.toList) h
    simpa [List.map_map, Function.comp_def] using this
  rw [this]
end Go.Proofs.Ytfjihookoilnnaa
