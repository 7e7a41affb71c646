/- Layer 6's statements: any pairs make the set that they should. -/
import Derived.Test.YtmgnmppdeiflbaaDoorLQ
import Derived.Test.YtmgnmppdeiflbaaDoorLU
import Derived.Test.YtmgnmppdeiflbaaDoorLA
import Derived.Test.YtmgnmppdeiflbaaDoorLB
namespace Go.Proofs.YtmgnmppdeiflbaaDoor
open Go.RowKit Go.Lib

theorem encT_len (l : List UInt8) : (Leb.encT l).length ≤ l.length + 10 := by
  unfold Leb.encT
  rw [List.length_append]
  have := (Leb.encU_len l.length).2
  omega
theorem txt_42 : ∀ (ds : List Pr), (∀ x ∈ ds, x.n.length ≤ 42 ∧ x.v.length ≤ 42) → (txt ds).length ≤ ds.length * 86 ∧ (txtR ds).length ≤ ds.length * 86 ∧ (ds.flatMap keyP).length ≤ ds.length * 104
  | [], _ => by simp [txt, txtR]
  | x :: ds, h => by
    obtain ⟨h1, h2⟩ := h x (by simp)
    obtain ⟨i1, i2, i3⟩ := txt_42 ds fun y hy => h y (by simp [hy])
    have e1 : (txt (x :: ds)).length = x.n.length + 1 + x.v.length + (txtR ds).length := by simp [txt, pairT]; omega
    have e2 : (txtR (x :: ds)).length = 1 + (x.n.length + 1 + x.v.length) + (txtR ds).length := by simp [txtR, pairT]; omega
    have e3 : ((x :: ds).flatMap keyP).length = (Leb.encT x.n).length + (Leb.encT x.v).length + (ds.flatMap keyP).length := by rw [List.flatMap_cons, List.length_append, keyP, List.length_append]
    have k1 := encT_len x.n
    have k2 := encT_len x.v
    rw [e1, e2, e3, List.length_cons]
    omega
theorem f42_small (ds : List Pr) : ∀ x ∈ f42 ds, x.n.length ≤ 42 ∧ x.v.length ≤ 42 := by
  intro x hx
  unfold f42 at hx
  obtain ⟨y, _, rfl⟩ := List.mem_map.1 hx
  simp only [List.length_take]
  omega

set_option maxHeartbeats 4000000 in
set_option maxRecDepth 100000 in
theorem makes_any (a0 : Option Addr) (len0 cap0 : Nat) (z0 : List Pr) (a1 : ByteArray) (w : World) (m0 : len0 ≤ maxLen) (w0 : PrsAt w a0 len0 z0) :
    Calls Tryd.prog 3 #[.slice a0 len0 cap0, .string a1] w fun e w' => e = .returned (.bool true) ∧ Below w.heap.size w w' := by
  obtain ⟨A, hA⟩ : ∃ A, A = f42 z0 := ⟨_, rfl⟩
  have lA : A.length ≤ 10 := by rw [hA]; exact w0.len
  have F0 := Lib.hid (fun W (b : Below w.heap.size w W) => show Calls Tryd.prog 5 #[.slice a0 len0 cap0] W (NewP W A) by rw [hA]; exact few_any a0 len0 cap0 z0 W m0 (w0.below b))
  obtain ⟨t1, t2, t3⟩ := txt_42 A (by rw [hA]; exact f42_small z0)
  obtain ⟨q, hq⟩ : ∃ q, q = a1.data.toList.take 42 := ⟨_, rfl⟩
  have CU := Lib.hid (fun W => show Calls Tryd.prog 6 #[.string a1, .int .i64 42] W (fun e w' => e = .returned (.string (bs q)) ∧ W = w') by
    have := cut42 a1.data.toList W
    rw [bs_of, ← hq] at this
    exact this)
  have MK := Lib.hid (fun u base W (h : Sl W base 2 u A.length (prc A)) => make_any u A base W h (by omega))
  have TO := Lib.hid (fun u W (h : Rd W 2 u A.length (prc A)) => told_any u A W h (by omega))
  have SO := Lib.hid (fun u W (h : Rd W 2 u A.length (prc A)) => rsorted_any u A W h (by omega))
  have RC := Lib.hid (fun u (ds : List Pr) W (hl : ds.length ≤ 10) (h : Rd W 2 u ds.length (prc ds)) => rcheck_any u ds W h (by omega))
  have PC := Lib.hid (fun u (ds : List Pr) W (hl : ds.length ≤ 10) (h : Rd W 2 u ds.length (prc ds)) => check_any u ds W h (by omega))
  have UL := Lib.hid (fun u W (h : Rd W 2 u A.length (prc A)) => unlikeS_any u A W h (by omega))
  have IS := Lib.hid (fun u v (ds : List Pr) W (hl : ds.length ≤ 10) (h : Rd W 2 u ds.length (prc ds)) (k : Rd W 2 v ds.length (prc ds)) => is_same u v ds W h k (by omega))
  obtain ⟨G, hG⟩ : ∃ G, G = bs (getP q A) := ⟨_, rfl⟩
  obtain ⟨K, hK⟩ : ∃ K, K = bs (keyL A) := ⟨_, rfl⟩
  obtain ⟨T, hT⟩ : ∃ T, T = bs (txt A) := ⟨_, rfl⟩
  have PG := Lib.hid (fun u W (h : Rd W 2 u A.length (prc A)) => show Calls Tryd.prog 15 #[u, .string (bs q)] W (fun e w' => e = .returned (.string G) ∧ Below W.heap.size W w') by rw [hG]; exact get_lb u A q W h (by omega))
  have RG := Lib.hid (fun u W (h : Rd W 2 u A.length (prc A)) => show Calls Tryd.prog 16 #[u, .string (bs q)] W (fun e w' => e = .returned (.string G) ∧ Below W.heap.size W w') by rw [hG]; exact rget_any u A q W h (by omega))
  have PK := Lib.hid (fun u W (h : Rd W 2 u A.length (prc A)) => show Calls Tryd.prog 17 #[u] W (fun e w' => e = .returned (.string K) ∧ Below W.heap.size W w') by rw [hK]; exact key_lb u A W h (by omega) (by omega))
  have RK := Lib.hid (fun u W (h : Rd W 2 u A.length (prc A)) => show Calls Tryd.prog 18 #[u] W (fun e w' => e = .returned (.string K) ∧ Below W.heap.size W w') by rw [hK]; exact rkey_any u A W h (by omega) (by omega))
  have PT := Lib.hid (fun u W (h : Rd W 2 u A.length (prc A)) => show Calls Tryd.prog 19 #[u] W (fun e w' => e = .returned (.string T) ∧ Below W.heap.size W w') by rw [hT]; exact string_lb u A W h (by omega) (by omega))
  have RT := Lib.hid (fun u W (h : Rd W 2 u A.length (prc A)) => show Calls Tryd.prog 20 #[u] W (fun e w' => e = .returned (.string T) ∧ Below W.heap.size W w') by rw [hT]; exact rtext06_any u A W h (by omega) (by omega))
  have lP : (sortP A).length ≤ 10 := by rw [(sortP_perm A).length_eq]; exact lA
  have lS : (sortS A).length ≤ 10 := by rw [sortS_len]; exact lA
  have HCS := Lib.hid (chk_sortS A)
  have HSD := Lib.hid (sortS_diff A)
  clear hA hq hG hK hT w0 t1 t2 t3
  go_enter Tryd.func3, Tryd.ntmps3
  go_wp2_with fail
  refine (F0.out _ (Below.refl _ _)).mono ?_
  rintro e w1 ⟨u0, rfl, s1, b1⟩
  have S1 := Lib.hid s1
  have B1 := Lib.hid b1
  clear s1 b1
  go_wp2_with fail
  refine (CU.out _).mono ?_
  rintro e _ ⟨rfl, rfl⟩
  go_wp2_with fail
  refine (MK.out _ _ _ S1.out).mono ?_
  rintro e w2 ⟨v2, rfl, s2, b2⟩
  have P2 := Lib.hid (Rd.of_sl s2)
  have R2 := Lib.hid ((Rd.of_sl S1.out).on b2)
  have B2 := Lib.hid (below_step B1.out b2)
  obtain ⟨c, hc⟩ : ∃ c, c = chk (sortP A) := ⟨_, rfl⟩
  obtain ⟨E, hE⟩ : ∃ E, E = cE c := ⟨_, rfl⟩
  rw [← hc, ← hE]
  have HC := Lib.hid hc
  have HE := Lib.hid hE
  clear s2 b2 hc hE
  go_wp2_with fail
  refine (TO.out _ _ R2.out).mono ?_
  rintro e w3 ⟨v3, rfl, s3, b3⟩
  have P3 := Lib.hid (P2.out.on b3); have R3 := Lib.hid (R2.out.on b3); have B3 := Lib.hid (below_step B2.out b3)
  have Q3 := Lib.hid (Rd.of_sl s3)
  clear s3 b3
  go_wp2_with fail
  refine (SO.out _ _ Q3.out).mono ?_
  rintro e w4 ⟨v4, rfl, s4, b4⟩
  have P4 := Lib.hid (P3.out.on b4); have R4 := Lib.hid (R3.out.on b4); have B4 := Lib.hid (below_step B3.out b4)
  have Q4 := Lib.hid (Rd.of_sl s4)
  clear s4 b4
  go_wp2_with fail
  refine (lawake_any _).mono ?_
  rintro e w5 ⟨rfl, b5⟩
  have P5 := Lib.hid (P4.out.on b5); have R5 := Lib.hid (R4.out.on b5); have B5 := Lib.hid (below_step B4.out b5)
  have Q5 := Lib.hid (Q4.out.on b5)
  clear b5
  go_wp2_with fail
  refine (RC.out _ _ _ lS Q5.out).mono ?_
  rw [HCS.out, ← HC.out]
  rintro e w6 ⟨rfl, b6⟩
  have P6 := Lib.hid (P5.out.on b6); have R6 := Lib.hid (R5.out.on b6); have B6 := Lib.hid (below_step B5.out b6)
  have Q6 := Lib.hid (Q5.out.on b6)
  clear b6
  have PC6 := Lib.hid (show Calls Tryd.prog 12 #[v2] w6 (fun e w' => e = .returned (.int .i64 E) ∧ Below w6.heap.size w6 w') by have := PC.out _ _ _ lP P6.out; rw [← HC.out, ← HE.out] at this; exact this)
  have hcE : (c = true ∧ E = 0) ∨ (c = false ∧ E = 12) := by
    rw [HE.out]
    cases c
    · exact .inr ⟨rfl, rfl⟩
    · exact .inl ⟨rfl, rfl⟩
  have HCE := Lib.hid hcE
  clear hcE HE
  rcases HCE.out with ⟨rfl, rfl⟩ | ⟨rfl, rfl⟩
  all_goals
    clear HCE
    go_wp2_with fail
    refine PC6.out.mono ?_
    rintro e w7 ⟨rfl, b7⟩
    have P7 := Lib.hid (P6.out.on b7); have R7 := Lib.hid (R6.out.on b7); have B7 := Lib.hid (below_step B6.out b7)
    have Q7 := Lib.hid (Q6.out.on b7)
    clear b7
    go_wp2_with fail
    refine (UL.out _ _ R7.out).mono ?_
    rintro e w8' ⟨b, nq, rfl, rfl, hb⟩
    have bq := below_draw (Below.refl w7.heap.size w7) nq
    have P8 := Lib.hid (P7.out.on bq); have R8 := Lib.hid (R7.out.on bq); have B8 := Lib.hid (below_draw B7.out nq)
    have Q8 := Lib.hid (Q7.out.on bq)
    have HB := Lib.hid hb
    clear bq hb
    generalize w7.drewN nq = w8 at *
    cases b
    case' true =>
      have Q9 := Lib.hid (show Rd w8 2 v4 (sortP A).length (prc (sortP A)) by have := Q8.out; rw [HSD.out (HB.out rfl)] at this; exact this)
      go_wp2_with fail
      refine (IS.out _ _ _ _ lP P8.out Q9.out).mono ?_
      rintro e w9 ⟨rfl, b9⟩
      have R9 := Lib.hid (R8.out.on b9); have B9 := Lib.hid (below_step B8.out b9)
      clear b9 Q9
      go_wp2_with fail
    case' false =>
      have R9 := R8; have B9 := B8
      go_wp2_with fail
    all_goals
      refine (PG.out _ _ R9.out).mono ?_
      rintro e w10 ⟨rfl, b10⟩
      have R10 := Lib.hid (R9.out.on b10); have B10 := Lib.hid (below_step B9.out b10)
      clear b10
      go_wp2_with fail
      refine (TO.out _ _ R10.out).mono ?_
      rintro e w11 ⟨v11, rfl, s11, b11⟩
      have R11 := Lib.hid (R10.out.on b11); have B11 := Lib.hid (below_step B10.out b11)
      have T11 := Lib.hid (Rd.of_sl s11)
      clear s11 b11
      go_wp2_with fail
      refine (RG.out _ _ T11.out).mono ?_
      rintro e w12 ⟨rfl, b12⟩
      have R12 := Lib.hid (R11.out.on b12); have B12 := Lib.hid (below_step B11.out b12)
      clear b12
      go_wp2_with fail
      refine (PK.out _ _ R12.out).mono ?_
      rintro e w13 ⟨rfl, b13⟩
      have R13 := Lib.hid (R12.out.on b13); have B13 := Lib.hid (below_step B12.out b13)
      clear b13
      go_wp2_with fail
      refine (TO.out _ _ R13.out).mono ?_
      rintro e w14 ⟨v14, rfl, s14, b14⟩
      have R14 := Lib.hid (R13.out.on b14); have B14 := Lib.hid (below_step B13.out b14)
      have T14 := Lib.hid (Rd.of_sl s14)
      clear s14 b14
      go_wp2_with fail
      refine (RK.out _ _ T14.out).mono ?_
      rintro e w15 ⟨rfl, b15⟩
      have R15 := Lib.hid (R14.out.on b15); have B15 := Lib.hid (below_step B14.out b15)
      clear b15
      go_wp2_with fail
      refine (PT.out _ _ R15.out).mono ?_
      rintro e w16 ⟨rfl, b16⟩
      have R16 := Lib.hid (R15.out.on b16); have B16 := Lib.hid (below_step B15.out b16)
      clear b16
      go_wp2_with fail
      refine (TO.out _ _ R16.out).mono ?_
      rintro e w17 ⟨v17, rfl, s17, b17⟩
      have R17 := Lib.hid (R16.out.on b17); have B17 := Lib.hid (below_step B16.out b17)
      have T17 := Lib.hid (Rd.of_sl s17)
      clear s17 b17
      go_wp2_with fail
      refine (RT.out _ _ T17.out).mono ?_
      rintro e w18 ⟨rfl, b18⟩
      have R18 := Lib.hid (R17.out.on b18); have B18 := Lib.hid (below_step B17.out b18)
      clear b18
      go_wp2_with fail
      obtain ⟨d, hd⟩ : ∃ d, d = chk A := ⟨_, rfl⟩
      have PCA := Lib.hid (show Calls Tryd.prog 12 #[u0] w18 (fun e w' => e = .returned (.int .i64 (cE d)) ∧ Below w18.heap.size w18 w') by rw [hd]; exact PC.out _ _ _ lA R18.out)
      have HD := Lib.hid hd
      clear hd
      refine (PCA.out).mono ?_
      rintro e w19 ⟨rfl, b19⟩
      have R19 := Lib.hid (R18.out.on b19); have B19 := Lib.hid (below_step B18.out b19)
      clear b19
      go_wp2_with fail
      refine (TO.out _ _ R19.out).mono ?_
      rintro e w20 ⟨v20, rfl, s20, b20⟩
      have R20 := Lib.hid (R19.out.on b20); have B20 := Lib.hid (below_step B19.out b20)
      have T20 := Lib.hid (Rd.of_sl s20)
      clear s20 b20
      go_wp2_with fail
      have RCA := Lib.hid (show Calls Tryd.prog 11 #[v20] w20 (fun e w' => e = .returned (.bool d) ∧ Below w20.heap.size w20 w') by rw [HD.out]; exact RC.out _ _ _ lA T20.out)
      refine RCA.out.mono ?_
      rintro e w21 ⟨rfl, b21⟩
      have B21 := Lib.hid (below_step B20.out b21)
      clear b21 HD PCA RCA
      have hcd : ((cE d == 0) == d) = true := by cases d <;> rfl
      cases d
      · have hc0 : (cE false == 0) = false := rfl
        go_wp2_with fail
        go_ret
        exact ⟨by simp, B21.out⟩
      · have hc0 : (cE true == 0) = true := rfl
        go_wp2_with fail
        go_ret
        exact ⟨by simp, B21.out⟩
end Go.Proofs.YtmgnmppdeiflbaaDoor
