import Derived.Test.YtaidbcppecoenaaL08E
import Derived.Test.YtaidbcppecoenaaL08A
import Derived.Test.YtaidbcppecoenaaElimM
import Derived.Deep.DeepCutAuto
/- ElimPuts: its walk. -/
namespace Go.Proofs.Ytaidbcppecoenaa
open Go.RowKit
set_option linter.unusedVariables false
set_option maxRecDepth 100000

theorem OwnR.rlv {w : World} {B n c : Nat} {A : Option Addr} {L : List RowL} (h : OwnR w B (.slice A n c) L) : n = L.length ∧ RL w w.heap.size A n L := by
  obtain ⟨A', c', e, hr, _, _⟩ := h.rl
  injection e with e1 e2 e3
  subst e1 e2
  exact ⟨rfl, hr⟩
theorem same8_self (L : List RowL) : same8 L L = true := by simp [same8]
theorem few8_row {l : List RowL} {j : Nat} (h : few8B l = true) : (l[j]?.getD ([], [])).1.length ≤ 20 ∧ (l[j]?.getD ([], [])).2.length ≤ 20 := by
  unfold few8B at h
  rw [Bool.and_eq_true] at h
  by_cases hj : j < l.length
  · rw [List.getElem?_eq_getElem hj, Option.getD_some]
    have := List.all_eq_true.1 h.1 _ (List.getElem_mem hj)
    simpa [small8] using this
  · rw [List.getElem?_eq_none (by omega)]; simp
theorem lit07 (w : World) : Below w.heap.size w (w.alloc (.cells #[.int .u8 0, .int .u8 7] 5)) ∧ RowIs (w.alloc (.cells #[.int .u8 0, .int .u8 7] 5)) ([0, 7], []) (.agg #[.slice (some ⟨w.heap.size, 0, none⟩) 2 2, .slice none 0 0]) := by
  have h1 := Blk.new w 5 (bvs [0, 7]).toArray
  exact ⟨balloc w _, RowIs.mk (r := ([0, 7], [])) ((Rd.of_blk (us := [0, 7]) h1).more h1.lt) Rd.nil (by omega) (by omega)⟩
set_option maxHeartbeats 8000000 in
theorem puts_main {w : World} {k t n c : Nat} {A : Option Addr} {l : List RowL} {i : Int} (hL : RL w w.heap.size A n l) (h1 : 1 ≤ k) (h2 : k ≤ 20) (h3 : t ≤ 20) (hfew : few8B l = true) (z1 : -9223372036854775808 ≤ i) (z2 : i ≤ 9223372036854775807) :
    Calls Try.prog 5 #[.int .i64 (k : Int), .int .i64 (t : Int), .slice A n c, .int .i64 i] w (GridEnds (.bool true) w) := by
  have HRL := Lib.hid fun W (hW : Below w.heap.size w W) => hL.step hW
  have HF := Lib.hid hfew
  have hn : n ≤ 30 := by
    have := hL.1
    unfold few8B at hfew
    rw [Bool.and_eq_true] at hfew
    have := of_decide_eq_true hfew.2
    omega
  have h1' : (1 : Int) ≤ (k : Int) := by omega
  have h2' : (k : Int) ≤ 20 := by omega
  have h3' : (t : Int) ≤ 20 := by omega
  have tk : ((k : Int) != (k : Int)) = false := by simp
  have tt : ((t : Int) != (t : Int)) = false := by simp
  clear hL hfew
  go_enter Try.func5, Try.ntmps5
  go_wp2_with fail
  refine (awake8 _).mono ?_
  rintro e w1 ⟨rfl, b1⟩
  have CF := few8_any (c := c) (HRL.out w1 b1) (by omega)
  rw [HF.out] at CF
  go_wp2_with fail
  refine CF.mono ?_
  rintro e w2 ⟨rfl, b2⟩
  have hb2 := bstep b1 b2
  clear CF b1 b2
  go_wp2_with fail
  refine (enew_ok k t w2 h1 (by omega) (by omega)).mono ?_
  rintro e w3 ⟨p, rfl, hg, hge, b3⟩
  have hS := Sys.fresh hg h1 (by omega) (by omega)
  have hb3 := bstep hb2 b3
  have hgw : w.heap.size ≤ p := Nat.le_trans hb2.size hge
  clear hg hge hb2 b3
  go_wp2_with fail
  refine (esize_any hS).mono ?_
  rintro e w4 ⟨rfl, b4⟩
  have hS4 := hS.step b4
  have hb4 := bstep hb3 b4
  have hst : OwnR w4 w.heap.size (.slice none 0 0) [] := OwnR.nil _ _
  have HIt : Hid (∀ q, Its p (.slice none 0 0) q → w.heap.size ≤ q) := Lib.hid fun q hq => by
    rcases hq with rfl | hq
    · exact hgw
    · simp [Value.ownBlock] at hq
  clear hS hb3 b4 hgw
  go_wp2_with fail
  clear tk tt
  go_loopw [13, 89] (fun v y wr => ∃ (dv : Value) (d : List RowL) (sv : Value) (j : Nat), j ≤ n ∧ dv = v ∧ y = .int .i64 (j : Int) ∧ Sys wr p k t (rowsD d) sv ∧ OwnR wr w.heap.size dv d ∧ Hid (Held8 k t d) ∧ d.length ≤ j ∧ Hid (∀ q, Its p sv q → w.heap.size ≤ q) ∧ Below w.heap.size w wr) (fun _ y _ => n - (intOf y).toNat)
  case atStart => exact ⟨_, [], _, 0, by omega, rfl, rfl, hS4, hst, Lib.hid (Held8.nil _ _), by simp, HIt, hb4⟩
  case round =>
    clear hS4 hst HIt hb4
    obtain ⟨wo, rfl⟩ : ∃ wo : World, wo = wr := ⟨_, rfl⟩
    obtain ⟨dv, d, sv, j, hj, rfl, rfl, hS, hown, Hd, hdj, HsI, hb⟩ := hrel
    by_cases hlt : j < n
    · obtain ⟨g0, o0, A1, n1, c1, A2, n2, c2, rfl, k0, k1, r⟩ := (HRL.out _ hb).at_ hlt
      obtain ⟨Ad, cd, rfl, _, _, _⟩ := hown.rl
      have hdl : d.length ≤ 60000 := by omega
      have hsz := few8_row (j := j) HF.out
      have kb := balloc wo (.cells #[.slice A1 n1 c1, .slice A2 n2 c2] 54)
      have hI : Bun w p k t (rowsD d) sv (.slice Ad d.length cd) d wo.heap.size A1 n1 c1 A2 n2 c2 (l[j]?.getD ([], [])) (wo.alloc (.cells #[.slice A1 n1 c1, .slice A2 n2 c2] 54)) :=
        ⟨hS.step kb, hown.step kb, Blk.new _ _ _, r.step kb, bstep hb kb⟩
      have HsL := Lib.hid hS.lt
      have hw0 := hb.size
      obtain ⟨r1, r2, _, _⟩ := r.parts
      have e1 := r1.1
      have e2 := r2.1
      have HVz : Hid (wo.heap.size < (wo.alloc (.cells #[.slice A1 n1 c1, .slice A2 n2 c2] 54)).heap.size) := Lib.hid (by simp)
      generalize l[j]?.getD ([], []) = x at *
      have HE1 := Lib.hid e1
      have HE2 := Lib.hid e2
      clear kb hS hown hb r r1 r2 e1 e2
      go_wp2_with fail
      clear k0 k1
      generalize wo.alloc (.cells #[.slice A1 n1 c1, .slice A2 n2 c2] 54) = V at *
      refine (eclone_any hI.1).mono ?_
      rintro e w1 ⟨g, cv, rfl, hC, hcI, b1⟩
      have HcI : Hid (∀ q, Its g cv q → wo.heap.size < q ∧ w.heap.size ≤ q) := Lib.hid fun q hq => by
        have h9 := hcI q hq
        have h8 := HVz.out
        exact ⟨Nat.lt_of_lt_of_le h8 h9, by omega⟩
      have HDis : Hid (∀ q, Its g cv q → ¬ Its p sv q) := Lib.hid fun q hq h2 => by
        have h9 := (HcI.out q hq).1
        have h8 := HsL.out q h2
        omega
      replace hI := hI.step b1
      clear hcI b1 HVz
      by_cases hfit : x.1.length = k ∧ x.2.length = t
      · have E1 := Lib.hid hfit.1
        have E2 := Lib.hid hfit.2
        have HdP := Lib.hid (Held8.put Hd.out hfit.1 hfit.2)
        have HPut := Lib.hid HdP.out.2
        have t3 : ((n1 : Int) != (k : Int)) = false := by rw [← HE1.out, hfit.1]; simp
        have t4 : ((n2 : Int) != (t : Int)) = false := by rw [← HE2.out, hfit.2]; simp
        have Hus : Hid (∀ us, knownD (rowsD (putD d x).1) i = some us → us.length ≤ 20) := Lib.hid fun us hus => by
          unfold knownD at hus
          rw [Option.map_eq_some_iff] at hus
          obtain ⟨q, hq, rfl⟩ := hus
          have := HdP.out.1.good.1.1 q (List.mem_of_find?_eq_some hq)
          omega
        clear hfit
        obtain ⟨a0, a1, _, _⟩ := cells2 hI.2.2.1
        go_wp2_with fail
        refine (c_make hI.2.2.2.1).mono ?_
        rintro e w2 ⟨y2, rfl, hy2, b2⟩
        replace hI := hI.step b2
        replace hC := hC.step b2
        clear b2 a0 a1
        go_wp2_with fail
        refine (erest_any hI.1 hy2 E1.out E2.out).mono ?_
        rintro e w3 ⟨y3, rfl, ⟨A3, n3, c3, A4, n4, c4, rfl, q3, q4, l3, l4⟩, b3⟩
        have kb3 := balloc w3 (.cells #[.slice A3 n3 c3, .slice A4 n4 c4] 58)
        have hrest := (RowIs.mk (r := restL (rowsD d) x) (c := c3) (c2 := c4) q3 q4 l3 l4).step kb3
        have hrb := Blk.new w3 58 #[.slice A3 n3 c3, .slice A4 n4 c4]
        have hrz : wo.heap.size < w3.heap.size := by have := hI.2.2.1.lt; have := b3.size; omega
        have hcL3 : Hid (∀ q, Its g cv q → q < w3.heap.size) := Lib.hid fun q hq => Nat.lt_of_lt_of_le (hC.lt q hq) b3.size
        replace hI := (hI.step b3).step kb3
        replace hC := (hC.step b3).step kb3
        clear b3 kb3 q3 q4
        obtain ⟨a0, a1, _, _⟩ := cells2 hI.2.2.1
        go_wp2_with fail
        generalize hrN : w3.heap.size = rb at *
        generalize w3.alloc (.cells #[.slice A3 n3 c3, .slice A4 n4 c4] 58) = V3 at *
        clear hrN
        refine (c_make hI.2.2.2.1).mono ?_
        rintro e w4 ⟨y4, rfl, hy4, b4⟩
        replace hI := hI.step b4
        replace hC := hC.step b4
        replace hrb := hrb.below b4 hrb.lt
        replace hrest := hrest.step b4
        clear b4 a0 a1
        have Hrb4 := Lib.hid hrb.lt
        have CP := eput_ok hI.1 hy4 E1.out E2.out
        rw [HPut.out] at CP
        go_wp2_with fail
        refine CP.mono ?_
        rintro e w5 ⟨sv', rfl, hS', hI5, hCh⟩
        have hSb := hI.1.byteless
        replace hC := hC.chg hCh hSb (fun q hq h2 => HDis.out q hq h2)
        replace hrb := hrb.chg hCh (fun h2 => by have := HsL.out _ h2; omega)
        replace hrest := hrest.chg hCh hSb
        have HI5 : Hid (∀ q, Its p sv' q → w.heap.size ≤ q) := Lib.hid fun q hq => by
          rcases hI5 q hq with h2 | h2
          · exact HsI.out q h2
          · have := hI.2.2.2.2.size; omega
        have HD5 : Hid (∀ q, Its p sv' q → ¬ Its g cv q) := Lib.hid fun q hq h3 => by
          rcases hI5 q hq with h2 | h2
          · exact HDis.out q h3 h2
          · have := hcL3.out q h3; have := Hrb4.out; omega
        replace hI := hI.put hS' hCh (fun h2 => by have := HsL.out _ h2; omega) HsI.out
        clear CP hS' hI5 hCh hSb hy4 hy2
        obtain ⟨kb5, hlit⟩ := lit07 w5
        have CFt := fit_any (k := k) (t := t) hlit (by omega) (by omega)
        replace hI := hI.step kb5
        replace hC := hC.step kb5
        replace hrb := hrb.below kb5 hrb.lt
        replace hrest := hrest.step kb5
        clear kb5 hlit
        go_wp2_with fail
        refine CFt.mono ?_
        rintro e w6 ⟨y6, rfl, hy6, b6⟩
        replace hI := hI.step b6
        replace hC := hC.step b6
        replace hrb := hrb.below b6 hrb.lt
        replace hrest := hrest.step b6
        clear b6 CFt
        go_wp2_with fail
        refine (c_make hy6).mono ?_
        rintro e w7 ⟨y7, rfl, hy7, b7⟩
        replace hI := hI.step b7
        replace hC := hC.step b7
        replace hrb := hrb.below b7 hrb.lt
        replace hrest := hrest.step b7
        clear b7 hy6
        go_wp2_with fail
        refine (eput_ok hC hy7 (fitR_len _ _ _).1 (fitR_len _ _ _).2).mono ?_
        rintro e w8 ⟨cv', rfl, _, _, hCh⟩
        have hCb := hC.byteless
        replace hI := hI.other hCh hCb (fun q hq h3 => HD5.out q hq h3) (hC.not_row hI.2.1) (fun h3 => by have := HcI.out _ h3; omega) (fun q h3 => by have := HcI.out _ h3; omega)
        replace hrb := hrb.chg hCh (fun h3 => by have := hcL3.out _ h3; omega)
        replace hrest := hrest.chg hCh hCb
        clear hCh hCb hy7 hC
        obtain ⟨a0, a1, _, _⟩ := cells2 hI.2.2.1
        obtain ⟨m0, m1, _, _⟩ := cells2 hrb
        go_wp2_with fail
        refine (c_ref hI.2.2.2.1).mono ?_
        rintro e w9 ⟨y9, rfl, hy9, b9⟩
        replace hI := hI.step b9
        replace hrb := hrb.below b9 hrb.lt
        replace hrest := hrest.step b9
        clear b9 a0 a1 m0 m1
        have CRr := refrest8_any (c := cd) (hI.2.1.rlv.2) Hd.out.1 Hd.out.2.1 hdl hy9 E1.out E2.out
        go_wp2_with fail
        refine CRr.mono ?_
        rintro e w10 ⟨y10, rfl, ⟨A5, n5, c5, A6, n6, c6, rfl, q5, q6, l5, l6⟩, b10⟩
        have kb10 := balloc w10 (.cells #[.slice A5 n5 c5, .slice A6 n6 c6] 65)
        have hwant := (RowIs.mk (r := restL (rowsD d) x) (c := c5) (c2 := c6) q5 q6 l5 l6).step kb10
        have hwb := Blk.new w10 65 #[.slice A5 n5 c5, .slice A6 n6 c6]
        replace hI := (hI.step b10).step kb10
        replace hrb := (hrb.below b10 hrb.lt).below kb10 (hrb.below b10 hrb.lt).lt
        replace hrest := (hrest.step b10).step kb10
        clear b10 kb10 q5 q6 CRr hy9
        obtain ⟨a0, a1, _, _⟩ := cells2 hI.2.2.1
        go_wp2_with fail
        generalize hwN : w10.heap.size = wb at *
        generalize w10.alloc (.cells #[.slice A5 n5 c5, .slice A6 n6 c6] 65) = V10 at *
        clear hwN
        refine (c_ref hI.2.2.2.1).mono ?_
        rintro e w11 ⟨y11, rfl, hy11, b11⟩
        replace hI := hI.step b11
        replace hrb := hrb.below b11 hrb.lt
        replace hrest := hrest.step b11
        replace hwb := hwb.below b11 hwb.lt
        replace hwant := hwant.step b11
        clear b11 a0 a1
        have CPd := refput8_any hI.2.1 hI.2.2.2.2.size Hd.out hdl hy11 E1.out E2.out
        go_wp2_with fail
        refine CPd.mono ?_
        rintro e w12 ⟨dv', rfl, hown', b12⟩
        replace hrb := hrb.below b12 hrb.lt
        replace hrest := hrest.step b12
        replace hwb := hwb.below b12 hwb.lt
        replace hwant := hwant.step b12
        have hS12 := hI.1.step b12
        have hb12 := bstep hI.2.2.2.2 b12
        clear CPd b12 hI hy11
        have HS : Hid (∀ W, Below w12.heap.size w12 W → Below w12.heap.size w12 W ∧ W.cell? ⟨rb, 0, none⟩ = some (.slice A3 n3 c3) ∧ W.cell? ⟨rb, 1, none⟩ = some (.slice A4 n4 c4) ∧ W.cell? ⟨wb, 0, none⟩ = some (.slice A5 n5 c5) ∧ W.cell? ⟨wb, 1, none⟩ = some (.slice A6 n6 c6)) := Lib.hid fun W hW => by
          obtain ⟨x0, x1, _, _⟩ := cells2 (hrb.below hW hrb.lt)
          obtain ⟨x2, x3, _, _⟩ := cells2 (hwb.below hW hwb.lt)
          exact ⟨hW, x0, x1, x2, x3⟩
        have HC1 := Lib.hid fun W (hW : Below w12.heap.size w12 W) => c_of (hrest.step hW)
        have HC2 := Lib.hid fun W z (hW : Below w12.heap.size w12 W) (hz : RowIs W (restL (rowsD d) x) z) => c_refsame_self hz (hwant.step hW)
        have Hd' := Lib.hid HdP.out.1
        have hdl' := putD_len d x
        generalize (putD d x).2 = z at *
        generalize (putD d x).1 = d' at *
        clear hrb hrest hwb hwant HPut HdP
        have tz : (z != z) = false := by simp
        go_wp2_with fail
        go_region_held3 (fun W => Below w12.heap.size w12 W ∧ W.cell? ⟨rb, 0, none⟩ = some (.slice A3 n3 c3) ∧ W.cell? ⟨rb, 1, none⟩ = some (.slice A4 n4 c4) ∧ W.cell? ⟨wb, 0, none⟩ = some (.slice A5 n5 c5) ∧ W.cell? ⟨wb, 1, none⟩ = some (.slice A6 n6 c6))
          ((refine HS.out _ ?_; first | exact (Below.refl _ _).drew | assumption))
          (first
            | (go_at_call 38; (with_reducible refine (HC1.out _ (And.left ‹Below w12.heap.size w12 _ ∧ _›)).mono ?_); rintro e w13 ⟨y13, rfl, hy13, b13⟩; have kB13 := bstep (And.left ‹Below w12.heap.size w12 _ ∧ _›) b13)
            | (go_at_call 37; (with_reducible refine (HC2.out _ _ kB13 hy13).mono ?_); rintro e w14 ⟨rfl, b14⟩; have kB14 := bstep kB13 b14))
        have hS14 := hS12.step kB14
        have hown14 := OwnR.step hown' kB14
        have hb14 := bstep hb12 kB14
        clear hS12 hown' hb12 kB13 kB14 HS HC1 HC2 b13 b14 hy13
        obtain ⟨Ad', cd', rfl, _, _, _⟩ := hown14.rl
        have CK := eknown_any (i := i) hS14 z1 z2
        rw [known_same hS14.2.2.1] at CK
        go_wp2_with fail
        refine CK.mono ?_
        rintro e w15 ⟨hk15, b15⟩
        have hS15 := hS14.step b15
        have hown15 := hown14.step b15
        have hb15 := bstep hb14 b15
        have CD := refknown8_any (c := cd') (i := i) hown15.rlv.2 Hd'.out.1 Hd'.out.2.1 (by omega) z1 z2
        have HLen := Lib.hid Hd'.out.len
        clear CK hS14 hown14 hb14 b15
        cases hkn : knownD (rowsD d') i with
        | none =>
          rw [hkn] at hk15 CD
          have hk15' : e = .returned (.tuple #[.slice none 0 0, .bool false]) := hk15
          subst hk15'
          clear hkn hk15
          go_wp2_with fail
          refine CD.mono ?_
          rintro e w16 ⟨hk16, b16⟩
          have hk16' : e = .returned (.tuple #[.slice none 0 0, .bool false]) := hk16
          subst hk16'
          clear hk16
          have hrA : Rd w16 w16.heap.size none 0 [] := Rd.nil
          have hrB : Rd w16 w16.heap.size none 0 [] := Rd.nil
          have hS16 := hS15.step b16
          have hown16 := hown15.step b16
          have hb16 := bstep hb15 b16
          clear CD hS15 hown15 hb15 b16
          go_wp2_with fail
          refine (erank_any hS16).mono ?_
          rintro e w' ⟨rfl, rfl⟩
          rw [HLen.out]
          have t2 : ((d'.length : Int) != (d'.length : Int)) = false := by simp
          go_wp2_with fail
          refine (erows_any hS16).mono ?_
          rintro e w17 ⟨g17, rfl, hrl17, _, b17⟩
          have hS17 := hS16.step b17
          have hown17 := hown16.step b17
          have hb17 := bstep hb16 b17
          have hrA17 := hrA.step b17
          have hrB17 := hrB.step b17
          have CR := refrows_any (c := cd') hown17.rlv.2 Hd'.out.1 Hd'.out.2.1 (by omega)
          clear hS16 hown16 hb16 hrA hrB b17
          go_wp2_with fail
          refine CR.mono ?_
          rintro e w18 ⟨A18, c18, rfl, ho18, b18⟩
          have hS18 := hS17.step b18
          have hown18 := hown17.step b18
          have hb18 := bstep hb17 b18
          have hrA18 := hrA17.step b18
          have hrB18 := hrB17.step b18
          have hl18 : (rowsD d').length ≤ 140737488355327 := by rw [HLen.out]; omega
          have CSm := same8_any (c := (rowsD d').length) (c2 := c18) (hrl17.step b18 |>.more b18.size) (ho18.rlv.2) hl18
          rw [same8_self] at CSm
          clear CR hS17 hown17 hb17 hrA17 hrB17 b18 ho18 hrl17 hl18
          go_wp2_with fail
          refine CSm.mono ?_
          rintro e w19 ⟨rfl, b19⟩
          have hS19 := hS18.step b19
          have hown19 := hown18.step b19
          have hb19 := bstep hb18 b19
          have hrA19 := hrA18.step b19
          have hrB19 := hrB18.step b19
          have hn19 := hrA19.1
          clear CSm hS18 hown18 hb18 hrA18 hrB18 b19
          have CE := same_any (c := 0) (c2 := 0) hrA19 hrB19 (Nat.le_refl _) (Nat.le_refl _) (by omega)
          rw [beq_self_eq_true] at CE
          clear hn19
          go_wp2_with fail
          refine CE.mono ?_
          rintro e w20 ⟨rfl, b20⟩
          have hS20 := hS19.step b20
          have hown20 := hown19.step b20
          have hb20 := bstep hb19 b20
          clear CE hS19 hown19 hb19 hrA19 hrB19 b20 t2 tz
          go_wp2_with fail
          go_roundw
          case rel => exact ⟨_, d', sv', j + 1, by omega, rfl, by go_num, hS20, hown20, Hd', by omega, HI5, hb20⟩
          case measure => simp [intOf]; omega
        | some us =>
          rw [hkn] at hk15 CD
          have hk15' : ∃ A n c, e = .returned (.tuple #[.slice A n c, .bool true]) ∧ Rd w15 w15.heap.size A n us := hk15
          obtain ⟨A7, n7, c7, rfl, hr7⟩ := hk15'
          have hus20 := Hus.out us hkn
          clear hkn hk15
          go_wp2_with fail
          refine CD.mono ?_
          rintro e w16 ⟨hk16, b16⟩
          have hk16' : ∃ A n c, e = .returned (.tuple #[.slice A n c, .bool true]) ∧ Rd w16 w16.heap.size A n us := hk16
          obtain ⟨A8, n8, c8, rfl, hrB⟩ := hk16'
          clear hk16
          have hrA := hr7.step b16
          have hS16 := hS15.step b16
          have hown16 := hown15.step b16
          have hb16 := bstep hb15 b16
          clear CD hS15 hown15 hb15 b16
          go_wp2_with fail
          refine (erank_any hS16).mono ?_
          rintro e w' ⟨rfl, rfl⟩
          rw [HLen.out]
          have t2 : ((d'.length : Int) != (d'.length : Int)) = false := by simp
          go_wp2_with fail
          refine (erows_any hS16).mono ?_
          rintro e w17 ⟨g17, rfl, hrl17, _, b17⟩
          have hS17 := hS16.step b17
          have hown17 := hown16.step b17
          have hb17 := bstep hb16 b17
          have hrA17 := hrA.step b17
          have hrB17 := hrB.step b17
          have CR := refrows_any (c := cd') hown17.rlv.2 Hd'.out.1 Hd'.out.2.1 (by omega)
          clear hS16 hown16 hb16 hrA hrB b17
          go_wp2_with fail
          refine CR.mono ?_
          rintro e w18 ⟨A18, c18, rfl, ho18, b18⟩
          have hS18 := hS17.step b18
          have hown18 := hown17.step b18
          have hb18 := bstep hb17 b18
          have hrA18 := hrA17.step b18
          have hrB18 := hrB17.step b18
          have hl18 : (rowsD d').length ≤ 140737488355327 := by rw [HLen.out]; omega
          have CSm := same8_any (c := (rowsD d').length) (c2 := c18) (hrl17.step b18 |>.more b18.size) (ho18.rlv.2) hl18
          rw [same8_self] at CSm
          clear CR hS17 hown17 hb17 hrA17 hrB17 b18 ho18 hrl17 hl18
          go_wp2_with fail
          refine CSm.mono ?_
          rintro e w19 ⟨rfl, b19⟩
          have hS19 := hS18.step b19
          have hown19 := hown18.step b19
          have hb19 := bstep hb18 b19
          have hrA19 := hrA18.step b19
          have hrB19 := hrB18.step b19
          have hn19 := hrA19.1
          clear CSm hS18 hown18 hb18 hrA18 hrB18 b19
          have CE := same_any (c := c7) (c2 := c8) hrA19 hrB19 (Nat.le_refl _) (Nat.le_refl _) (by omega)
          rw [beq_self_eq_true] at CE
          clear hn19
          go_wp2_with fail
          refine CE.mono ?_
          rintro e w20 ⟨rfl, b20⟩
          have hS20 := hS19.step b20
          have hown20 := hown19.step b20
          have hb20 := bstep hb19 b20
          clear CE hS19 hown19 hb19 hrA19 hrB19 b20 t2 tz
          go_wp2_with fail
          go_roundw
          case rel => exact ⟨_, d', sv', j + 1, by omega, rfl, by go_num, hS20, hown20, Hd', by omega, HI5, hb20⟩
          case measure => simp [intOf]; omega
      · have HB := Lib.hid hfit
        by_cases hn1 : n1 = k
        · have t3 : ((n1 : Int) != (k : Int)) = false := by rw [hn1]; simp
          have t4 : ((n2 : Int) != (t : Int)) = true := by
            rw [bne_iff_ne]
            intro h
            exact hfit ⟨HE1.out.trans hn1, by have := HE2.out; omega⟩
          clear hfit hn1
          obtain ⟨a0, a1, _, _⟩ := cells2 hI.2.2.1
          go_wp2_with fail
          refine (c_make hI.2.2.2.1).mono ?_
          rintro e w2 ⟨y2, rfl, hy2, b2⟩
          replace hI := hI.step b2
          replace hC := hC.step b2
          clear b2 a0 a1
          go_wp2_with fail
          refine (erest_bad hI.1 hy2 HB.out).mono ?_
          rintro e w3 ⟨y3, rfl, ⟨A3, n3, c3, A4, n4, c4, rfl, q3, q4, l3, l4⟩, b3⟩
          obtain rfl : 0 = n3 := q3.1
          obtain rfl : 0 = n4 := q4.1
          have kb3 := balloc w3 (.cells #[.slice A3 0 c3, .slice A4 0 c4] 58)
          have hrb := Blk.new w3 58 #[.slice A3 0 c3, .slice A4 0 c4]
          have hrz : wo.heap.size < w3.heap.size := by have := hI.2.2.1.lt; have := b3.size; omega
          have hcL3 : Hid (∀ q, Its g cv q → q < w3.heap.size) := Lib.hid fun q hq => Nat.lt_of_lt_of_le (hC.lt q hq) b3.size
          replace hI := (hI.step b3).step kb3
          replace hC := (hC.step b3).step kb3
          clear b3 kb3 q3 q4
          obtain ⟨a0, a1, _, _⟩ := cells2 hI.2.2.1
          go_wp2_with fail
          generalize hrN : w3.heap.size = rb at *
          generalize w3.alloc (.cells #[.slice A3 0 c3, .slice A4 0 c4] 58) = V3 at *
          clear hrN
          refine (c_make hI.2.2.2.1).mono ?_
          rintro e w4 ⟨y4, rfl, hy4, b4⟩
          replace hI := hI.step b4
          replace hC := hC.step b4
          replace hrb := hrb.below b4 hrb.lt
          clear b4 a0 a1
          go_wp2_with fail
          refine (eput_bad hI.1 hy4 HB.out).mono ?_
          rintro e w5 ⟨rfl, b5⟩
          replace hI := hI.step b5
          replace hC := hC.step b5
          replace hrb := hrb.below b5 hrb.lt
          clear b5 hy4 hy2
          obtain ⟨kb5, hlit⟩ := lit07 w5
          have CFt := fit_any (k := k) (t := t) hlit (by omega) (by omega)
          replace hI := hI.step kb5
          replace hC := hC.step kb5
          replace hrb := hrb.below kb5 hrb.lt
          clear kb5 hlit
          go_wp2_with fail
          refine CFt.mono ?_
          rintro e w6 ⟨y6, rfl, hy6, b6⟩
          replace hI := hI.step b6
          replace hC := hC.step b6
          replace hrb := hrb.below b6 hrb.lt
          clear b6 CFt
          go_wp2_with fail
          refine (c_make hy6).mono ?_
          rintro e w7 ⟨y7, rfl, hy7, b7⟩
          replace hI := hI.step b7
          replace hC := hC.step b7
          replace hrb := hrb.below b7 hrb.lt
          clear b7 hy6
          go_wp2_with fail
          refine (eput_ok hC hy7 (fitR_len _ _ _).1 (fitR_len _ _ _).2).mono ?_
          rintro e w8 ⟨cv', rfl, _, _, hCh⟩
          have hCb := hC.byteless
          replace hI := hI.other hCh hCb (fun q hq h3 => HDis.out q h3 hq) (hC.not_row hI.2.1) (fun h3 => by have := HcI.out _ h3; omega) (fun q h3 => by have := HcI.out _ h3; omega)
          replace hrb := hrb.chg hCh (fun h3 => by have := hcL3.out _ h3; omega)
          clear hCh hCb hy7 hC
          obtain ⟨a0, a1, _, _⟩ := cells2 hI.2.2.1
          obtain ⟨m0, m1, _, _⟩ := cells2 hrb
          go_wp2_with fail
          go_roundw
          case rel => exact ⟨_, d, sv, j + 1, by omega, rfl, by go_num, hI.1, hI.2.1, Hd, by omega, HsI, hI.2.2.2.2⟩
          case measure => simp [intOf]; omega
        · have t3 : ((n1 : Int) != (k : Int)) = true := by rw [bne_iff_ne]; omega
          clear hfit hn1
          obtain ⟨a0, a1, _, _⟩ := cells2 hI.2.2.1
          go_wp2_with fail
          refine (c_make hI.2.2.2.1).mono ?_
          rintro e w2 ⟨y2, rfl, hy2, b2⟩
          replace hI := hI.step b2
          replace hC := hC.step b2
          clear b2 a0 a1
          go_wp2_with fail
          refine (erest_bad hI.1 hy2 HB.out).mono ?_
          rintro e w3 ⟨y3, rfl, ⟨A3, n3, c3, A4, n4, c4, rfl, q3, q4, l3, l4⟩, b3⟩
          obtain rfl : 0 = n3 := q3.1
          obtain rfl : 0 = n4 := q4.1
          have kb3 := balloc w3 (.cells #[.slice A3 0 c3, .slice A4 0 c4] 58)
          have hrb := Blk.new w3 58 #[.slice A3 0 c3, .slice A4 0 c4]
          have hrz : wo.heap.size < w3.heap.size := by have := hI.2.2.1.lt; have := b3.size; omega
          have hcL3 : Hid (∀ q, Its g cv q → q < w3.heap.size) := Lib.hid fun q hq => Nat.lt_of_lt_of_le (hC.lt q hq) b3.size
          replace hI := (hI.step b3).step kb3
          replace hC := (hC.step b3).step kb3
          clear b3 kb3 q3 q4
          obtain ⟨a0, a1, _, _⟩ := cells2 hI.2.2.1
          go_wp2_with fail
          generalize hrN : w3.heap.size = rb at *
          generalize w3.alloc (.cells #[.slice A3 0 c3, .slice A4 0 c4] 58) = V3 at *
          clear hrN
          refine (c_make hI.2.2.2.1).mono ?_
          rintro e w4 ⟨y4, rfl, hy4, b4⟩
          replace hI := hI.step b4
          replace hC := hC.step b4
          replace hrb := hrb.below b4 hrb.lt
          clear b4 a0 a1
          go_wp2_with fail
          refine (eput_bad hI.1 hy4 HB.out).mono ?_
          rintro e w5 ⟨rfl, b5⟩
          replace hI := hI.step b5
          replace hC := hC.step b5
          replace hrb := hrb.below b5 hrb.lt
          clear b5 hy4 hy2
          obtain ⟨kb5, hlit⟩ := lit07 w5
          have CFt := fit_any (k := k) (t := t) hlit (by omega) (by omega)
          replace hI := hI.step kb5
          replace hC := hC.step kb5
          replace hrb := hrb.below kb5 hrb.lt
          clear kb5 hlit
          go_wp2_with fail
          refine CFt.mono ?_
          rintro e w6 ⟨y6, rfl, hy6, b6⟩
          replace hI := hI.step b6
          replace hC := hC.step b6
          replace hrb := hrb.below b6 hrb.lt
          clear b6 CFt
          go_wp2_with fail
          refine (c_make hy6).mono ?_
          rintro e w7 ⟨y7, rfl, hy7, b7⟩
          replace hI := hI.step b7
          replace hC := hC.step b7
          replace hrb := hrb.below b7 hrb.lt
          clear b7 hy6
          go_wp2_with fail
          refine (eput_ok hC hy7 (fitR_len _ _ _).1 (fitR_len _ _ _).2).mono ?_
          rintro e w8 ⟨cv', rfl, _, _, hCh⟩
          have hCb := hC.byteless
          replace hI := hI.other hCh hCb (fun q hq h3 => HDis.out q h3 hq) (hC.not_row hI.2.1) (fun h3 => by have := HcI.out _ h3; omega) (fun q h3 => by have := HcI.out _ h3; omega)
          replace hrb := hrb.chg hCh (fun h3 => by have := hcL3.out _ h3; omega)
          clear hCh hCb hy7 hC
          obtain ⟨a0, a1, _, _⟩ := cells2 hI.2.2.1
          obtain ⟨m0, m1, _, _⟩ := cells2 hrb
          go_wp2_with fail
          go_roundw
          case rel => exact ⟨_, d, sv, j + 1, by omega, rfl, by go_num, hI.1, hI.2.1, Hd, by omega, HsI, hI.2.2.2.2⟩
          case measure => simp [intOf]; omega
    · obtain rfl : j = n := by omega
      have hLen := Hd.out.len
      have hgood := Lib.hid hS.2.2.1
      have hred := Lib.hid hS.2.2.2.1
      have hSl := hS.len
      obtain ⟨Ad, cd, rfl, _, _, _⟩ := hown.rl
      rw [hLen] at hSl
      clear hlt HRL
      by_cases hfull : d.length < k
      · have hfz : (d.length : Int) < (k : Int) := by omega
        have CS := esolve_wait hS (by rw [hLen]; exact hfull)
        clear hLen hfull
        go_wp2_with fail
        refine CS.mono ?_
        rintro e w1 ⟨rfl, b1⟩
        go_wp2_with fail
        go_ret
        exact ⟨rfl, bstep hb b1⟩
      · have hk : d.length = k := by omega
        have CS := esolve_full hS (by rw [hLen]; exact hk)
        have HLk : Hid ((rowsD d).length = k) := Lib.hid (by rw [hLen, hk])
        have t5 : decide (d.length < k) = false := by simp; omega
        clear hLen hfull hSl
        go_wp2_with fail
        refine CS.mono ?_
        rintro e w1 ⟨g1, rfl, hFl, _, b1⟩
        have hS1 := hS.step b1
        have hb1 := bstep hb b1
        have hall := hFl.rds (by rw [List.length_map, HLk.out])
        have HSy := Lib.hid fun W (hW : Below w1.heap.size w1 W) => hS1.step hW
        have HAl := Lib.hid fun W (hW : Below w1.heap.size w1 W) => hall.step hW
        clear CS hS hown hb hFl hall hS1 b1
        go_wp2_with fail
        go_loopw [233] (fun v wr => ∃ m : Nat, m ≤ k ∧ v = .int .i64 (m : Int) ∧ Below w1.heap.size w1 wr) (fun v _ => k - (intOf v).toNat)
        case atStart => exact ⟨0, by omega, rfl, Below.refl _ _⟩
        case round =>
          obtain ⟨wq, rfl⟩ : ∃ wq : World, wq = wr := ⟨_, rfl⟩
          obtain ⟨m, hm, rfl, hbq⟩ := hrel
          by_cases hmk : m < k
          · have CK := eknown_any (i := (m : Int)) (HSy.out _ hbq) (by omega) (by omega)
            rw [full_known hgood.out hred.out HLk.out hmk] at CK
            have hmz : (m : Int) < (k : Int) := by omega
            go_wp2_with fail
            refine CK.mono ?_
            rintro e w2 ⟨hk2, b2⟩
            have hk2' : ∃ A n c, e = .returned (.tuple #[.slice A n c, .bool true]) ∧ Rd w2 w2.heap.size A n ((rowsD d)[m]?.getD ([], [])).2 := hk2
            obtain ⟨A7, n7, c7, rfl, hr7⟩ := hk2'
            have hb2 := bstep hbq b2
            obtain ⟨b8, o8, A8, c8, e8, _, hc8, hr8⟩ := (HAl.out _ hb2).at_ hmk
            injection e8 with e8
            injection e8 with e8 e9
            subst e8 e9
            have hx8 : ((rowsD d).map (·.2))[m]?.getD [] = ((rowsD d)[m]?.getD ([], [])).2 := by
              rw [List.getElem?_map, List.getElem?_eq_getElem (by rw [HLk.out]; exact hmk)]
              rfl
            rw [hx8] at hc8 hr8
            have hlen7 := hr7.1
            have hle8 : n7 ≤ 20 := by
              have := (suit_at hgood.out.1 (show m < (rowsD d).length by rw [HLk.out]; exact hmk)).2.1
              omega
            rw [hlen7] at hc8 hr8
            generalize ((rowsD d)[m]?.getD ([], [])).2 = us at *
            rw [Nat.zero_add] at hc8
            clear hk2 CK hx8 hlen7
            go_wp2_with fail
            have CE := same_any (c := c7) (c2 := c8) hr7 hr8 (Nat.le_refl _) (Nat.le_refl _) (by omega)
            rw [beq_self_eq_true] at CE
            refine CE.mono ?_
            rintro e w3 ⟨rfl, b3⟩
            have hb3 := bstep hb2 b3
            clear CE hr7 hr8 hc8 b3 hb2 b2
            go_wp2_with fail
            go_roundw
            case rel => exact ⟨m + 1, by omega, by go_num, hb3⟩
            case measure => simp [intOf]; omega
          · obtain rfl : m = k := by omega
            clear hmk
            go_wp2_with fail
            go_ret
            exact ⟨rfl, bstep hb1 hbq⟩
end Go.Proofs.Ytaidbcppecoenaa

