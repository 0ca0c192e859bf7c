import Derived.Test.YtaidbcppecoenaaSysQ
import Derived.Deep.DeepCutAuto
/- ElimSolves: its walk. -/
namespace Go.Proofs.Ytaidbcppecoenaa
open Go.RowKit
set_option linter.unusedVariables false
set_option maxRecDepth 100000

theorem map_snoc {α β : Type} {f : α → β} {l : List α} {j : Nat} (d : α) (h : j < l.length) : (l.map f).take j ++ [f (l[j]?.getD d)] = (l.map f).take (j + 1) := by
  rw [← List.map_take, ← List.map_take, ← take_get d h, List.map_append, List.map_singleton]
theorem map_cut {α β : Type} {f : α → β} {l : List α} {j m : Nat} (h : l.length = m) (hj : j ≤ m) : ((l.map f).take j).length = j := by
  rw [List.length_take, List.length_map]; omega
theorem eqs_fst (fit vectors : List (List UInt8)) (k n i : Nat) : ((vectors.map (eqL fit k n)).take i).map (·.1) = (vectors.map (cutTo k)).take i := by
  rw [List.map_take, List.map_map]; rfl
theorem OwnV.rlv {w : World} {B n c : Nat} {A : Option Addr} {L : List RowL} (h : OwnV w B (.slice A n c) L) : RL w w.heap.size A n L := by
  obtain ⟨A', c', e, hr⟩ := h.rl
  injection e with e1 e2 e3
  subst e1 e2
  exact hr
theorem rev_drop {α : Type} (d : α) {l : List α} {q : Nat} (h : q < l.length) : (l.drop (q + 1)).reverse ++ [l[q]?.getD d] = (l.drop q).reverse := by
  rw [List.drop_eq_getElem_cons h, List.reverse_cons, List.getElem?_eq_getElem h]; rfl
theorem rd_cut {w : World} {g n : Nat} {us : List UInt8} (hl : us.length = n) (h : Blk w g 5 (bvs us).toArray) : Rd w w.heap.size (some ⟨g, 0, none⟩) n us := by
  have := (Rd.of_blk (us := us) h).more h.lt
  rwa [hl] at this
theorem solve_wrap (u : UInt8) : wrap64 ((bv u).tmod 21) = ((u.toNat % 21 : Nat) : Int) := by
  unfold bv
  rw [Int.tmod_eq_emod_of_nonneg (by omega)]
  have : (u.toNat : Int) % 21 = ((u.toNat % 21 : Nat) : Int) := by omega
  rw [this]
  have h2 : u.toNat % 21 < 21 := Nat.mod_lt _ (by omega)
  unfold wrap64
  omega
set_option maxHeartbeats 8000000 in
theorem solves_main {w : World} {k m c1 c2 : Nat} {A1 A2 : Option Addr} {u : UInt8} {symbols vectors : List (List UInt8)} (hS : Rds w w.heap.size A1 k symbols) (hV : Rds w w.heap.size A2 m vectors) (h1 : 1 ≤ k) (h2 : k ≤ 20) (h3 : m ≤ 30) :
    Calls Try.prog 6 #[.slice A1 k c1, .slice A2 m c2, .int .u8 (bv u)] w (GridEnds (.bool true) w) := by
  have HS := Lib.hid fun W (hW : Below w.heap.size w W) => hS.below hW
  have HV := Lib.hid fun W (hW : Below w.heap.size w W) => hV.below hW
  have HLs := Lib.hid hS.1
  have HLv := Lib.hid hV.1
  have h1' : (1 : Int) ≤ (k : Int) := by omega
  have h2' : (k : Int) ≤ 20 := by omega
  have h3' : (m : Int) ≤ 30 := by omega
  have hwr := solve_wrap u
  have hn : u.toNat % 21 ≤ 20 := by omega
  clear hS hV
  go_enter Try.func6, Try.ntmps6
  go_wp2_with fail
  refine (awake8 _).mono ?_
  rintro e w1 ⟨rfl, b1⟩
  go_wp2_with fail
  rw [hwr]
  clear hwr
  generalize u.toNat % 21 = n at *
  go_loopw [9, 58] (fun v y wr => ∃ (fv : Value) (j : Nat), j ≤ k ∧ fv = v ∧ y = .int .i64 (j : Int) ∧ OwnB wr w.heap.size fv ((symbols.map (cutTo n)).take j) ∧ Below w.heap.size w wr) (fun _ y _ => k - (intOf y).toNat)
  case atStart => exact ⟨_, 0, by omega, rfl, rfl, OwnB.nil _ _, b1⟩
  case round =>
    obtain ⟨wo, rfl⟩ : ∃ wo : World, wo = wr := ⟨_, rfl⟩
    obtain ⟨fv, j, hj, rfl, rfl, hown, hb⟩ := hrel
    have hz := hb.size
    by_cases hlt : j < k
    · obtain ⟨q1, o1, Ar, cr, rfl, hq1, hc1, hr1⟩ := (HS.out _ hb).at_ hlt
      have HR := Lib.hid (map_snoc (f := cutTo n) [] (show j < symbols.length by rw [HLs.out]; exact hlt))
      have Hk1 : Hid (((symbols.map (cutTo n)).take j).length = j) := Lib.hid (map_cut HLs.out hj)
      generalize symbols[j]?.getD [] = row at *
      have hmk := make_bytes n (by omega) wo
      have hg0 := Blk.new wo 5 (bvs (nulls n)).toArray
      have hB0 := balloc wo (.cells (bvs (nulls n)).toArray 5)
      have hr2 : Rd (wo.alloc (.cells (bvs (nulls n)).toArray 5)) w.heap.size Ar row.length row := hr1.below (hB0.mono hz)
      go_wp2_with (refine copy_some (o := ⟨some 66, _, _, _, _, _⟩) rfl (.tmp 64) (.tmp 65) rfl wo.heap.size n row.length cr Ar row rfl rfl hg0 hr2 wo.heap.size wo hB0 (Nat.le_refl _) ?_)
      intro w2 hg2 hb2
      have hz2 := hb2.size
      have kb2 := balloc w2 (.cells #[.slice (some ⟨wo.heap.size, 0, none⟩) n n] 52)
      have hrd2 := (rd_cut (cutTo_len n row) hg2).step kb2
      have hown2 := (hown.step hb2).step kb2
      have hb4 := bstep (bstep hb hb2) kb2
      have hbs := hb4.size
      have hcell := (Blk.new w2 52 #[.slice (some ⟨wo.heap.size, 0, none⟩) n n]).cell 0
      clear hown hg2 hg0 hB0 hr2 hr1 hmk hc1 kb2 hb2 hb
      go_wp2_with (at_builtin; refine push_b rfl (.tmp 67) (.tmp 69) rfl w.heap.size _ _ j n n 1 _ (cutTo n row) rfl hown2 Hk1.out hrd2 w2.heap.size rfl hcell ?d2 hbs ?_)
      case d2 => omega
      intro v3 w3 hw3 hc3 hb3
      rw [HR.out] at hw3
      have hb5 := hb4.trans hb3
      clear hb4 hb3 hc3 hown2 hrd2 hcell hbs
      go_wp2_with fail
      go_roundw
      case rel => exact ⟨_, j + 1, by omega, rfl, by go_num, hw3, hb5⟩
      case measure => simp [intOf]; omega
    · obtain rfl : j = k := by omega
      have hfa : (symbols.map (cutTo n)).take j = symbols.map (cutTo n) := List.take_of_length_le (by rw [List.length_map, HLs.out]; exact Nat.le_refl _)
      rw [hfa] at hown
      have hfl : (symbols.map (cutTo n)).length = j := by rw [List.length_map, HLs.out]
      have Hfn := Lib.hid (fits_len n symbols)
      have Hf1 := Lib.hid fun i (hi : i < j) => lenB_get (m := n) (fits_len n symbols) (k := i) (by rw [hfl]; exact hi)
      generalize symbols.map (cutTo n) = fit at *
      obtain ⟨Af, cf, e, hFr, _⟩ := hown.rds
      rw [hfl] at e hFr
      subst e
      have HFit := Lib.hid fun W (hW : Below wo.heap.size wo W) => hFr.step hW
      have Hfl := Lib.hid hfl
      clear hown hFr hfa hfl hlt hj HS
      go_wp2_with fail
      refine (enew_ok j n wo (by omega) (by omega) (by omega)).mono ?_
      rintro e w2 ⟨p, rfl, hg2, hge2, b2⟩
      have hSy := Sys.fresh hg2 h1 (by omega) (by omega)
      have hplt := hg2.lt
      go_wp2_with fail
      refine (enew_ok j n w2 (by omega) (by omega) (by omega)).mono ?_
      rintro e w3 ⟨pu, rfl, hg3, hge3, b3⟩
      have hSu := Sys.fresh hg3 h1 (by omega) (by omega)
      have hz2 := b2.size
      have hB3 : BunS wo p pu j n [] (.slice none 0 0) (.slice none 0 0) [] (.slice none 0 0) [] w3 := ⟨hSy.step b3, hSu, OwnV.nil _ _, OwnB.nil _ _, bstep b2 b3, fun q hq => by
        obtain rfl := its_nil hq
        omega, by omega⟩
      clear hSy hSu hg2 hg3 hge2 hge3 b2 b3 hplt hz2
      go_wp2_with fail
      go_loopw [17, 18, 92] (fun x y z wr => ∃ (lv vv sv : Value) (L : List RowL) (i : Nat), i ≤ m ∧ lv = x ∧ vv = y ∧ z = .int .i64 (i : Int) ∧ BunS wo p pu j n L sv lv ((vectors.map (eqL fit j n)).take i) vv ((vectors.map (cutTo j)).take i) wr ∧ Hid (Taken j n L ((vectors.map (eqL fit j n)).take i))) (fun _ _ z _ => m - (intOf z).toNat)
      case atStart => exact ⟨_, _, _, [], 0, by omega, rfl, rfl, rfl, hB3, Lib.hid (Taken.nil _ _)⟩
      case round =>
        clear hB3
        obtain ⟨wq, rfl⟩ : ∃ wq : World, wq = wr := ⟨_, rfl⟩
        obtain ⟨lv, vv, sv, L, i, hi, rfl, rfl, rfl, hB, HT⟩ := hrel
        by_cases hlt : i < m
        · obtain ⟨q1, o1, Ar, cr, rfl, hq1, hc1, hr1⟩ := (HV.out _ (bstep hb hB.2.2.2.2.1)).at_ hlt
          obtain ⟨q, hq⟩ : ∃ q : Nat, i + 1 = q := ⟨_, rfl⟩
          have hqm : q ≤ m := by omega
          have HE1 : Hid ((vectors.map (eqL fit j n)).take i ++ [eqL fit j n (vectors[i]?.getD [])] = (vectors.map (eqL fit j n)).take q) := Lib.hid (by rw [← hq]; exact map_snoc (f := eqL fit j n) [] (by rw [HLv.out]; exact hlt))
          have HE2 : Hid ((vectors.map (cutTo j)).take i ++ [cutTo j (vectors[i]?.getD [])] = (vectors.map (cutTo j)).take q) := Lib.hid (by rw [← hq]; exact map_snoc (f := cutTo j) [] (by rw [HLv.out]; exact hlt))
          have HL1 : Hid (((vectors.map (eqL fit j n)).take i).length = i) := Lib.hid (map_cut HLv.out hi)
          have HL2 : Hid (((vectors.map (cutTo j)).take i).length = i) := Lib.hid (map_cut HLv.out hi)
          have HP := Lib.hid (Taken.put (r := eqL fit j n (vectors[i]?.getD [])) HT.out (eqL_len _ _ _ _).1 (eqL_len _ _ _ _).2 (row_told Hfn.out (by rw [Hfl.out]; exact Nat.le_refl _)) fun q hq => eqs_told Hfn.out Hfl.out q (List.mem_of_mem_take hq))
          rw [HE1.out] at HP
          generalize vectors[i]?.getD [] = row at *
          have hmk := make_bytes j (by omega) wq
          have hg0 := Blk.new wq 5 (bvs (nulls j)).toArray
          have hB0 := balloc wq (.cells (bvs (nulls j)).toArray 5)
          have hzq : w.heap.size ≤ wq.heap.size := (bstep hb hB.2.2.2.2.1).size
          have hr2 : Rd (wq.alloc (.cells (bvs (nulls j)).toArray 5)) w.heap.size Ar row.length row := hr1.below (hB0.mono hzq)
          go_wp2_with (refine copy_some (o := ⟨some 100, _, _, _, _, _⟩) rfl (.tmp 98) (.tmp 99) rfl wq.heap.size j row.length cr Ar row rfl rfl hg0 hr2 wq.heap.size wq hB0 (Nat.le_refl _) ?_)
          intro w4 hg4 hb4
          replace hB := hB.step hb4
          have hv4 := rd_cut (cutTo_len j row) hg4
          clear hg4 hb4 hg0 hB0 hr2 hr1 hmk hc1
          go_wp2_with fail
          refine (comb_any hv4 (HFit.out w4 hB.2.2.2.2.1) (Nat.le_refl _) (Nat.le_refl _) (by omega) (Hf1.out 0 (by omega)) Hfn.out (by omega) (by omega)).mono ?_
          rintro e w5 ⟨gd, rfl, hgd, hbd, b5⟩
          have hd5 := rd_cut (comb_len _ _ _ _) hbd
          have hv5 := hv4.step b5
          replace hB := hB.step b5
          clear hv4 hbd hgd b5
          go_wp2_with fail
          refine (vof_any hv5 hd5 (by omega) (by omega)).mono ?_
          rintro e w6 ⟨y6, rfl, ⟨A3, n3, c3, A4, n4, c4, rfl, q3, q4, l3, l4⟩, b6⟩
          have kb6 := balloc w6 (.cells #[.slice A3 n3 c3, .slice A4 n4 c4] 58)
          have hrow6 := (RowIs.mk (r := eqL fit j n row) (c := c3) (c2 := c4) q3 q4 l3 l4).step kb6
          obtain ⟨a0, a1, _, _⟩ := cells2 (Blk.new w6 58 #[.slice A3 n3 c3, .slice A4 n4 c4])
          replace hB := (hB.step b6).step kb6
          have hv6 := (hv5.step b6).step kb6
          have hd6 := (hd5.step b6).step kb6
          have hbs := hB.2.2.2.2.1.size
          clear hv5 hd5 q3 q4 b6 kb6
          go_wp2_with (at_builtin; refine push_v rfl (.tmp 109) (.tmp 113) rfl wo.heap.size _ _ i n3 c3 n4 c4 1 A3 A4 (eqL fit j n row) rfl hB.2.2.1 HL1.out hrow6 w6.heap.size rfl a0 a1 ?d3 hbs ?_)
          case d3 => omega
          intro lv' w7 hO7 hC7 _
          have hB7 := hB.more hO7 hC7
          rw [HE1.out] at hB7
          have kb7 := balloc w7 (.cells #[.slice (some ⟨wq.heap.size, 0, none⟩) j j] 52)
          have hv8 := (hv6.chg hC7 hB.2.2.1.bare).step kb7
          have hd8 := (hd6.chg hC7 hB.2.2.1.bare).step kb7
          have hB8 := hB7.step kb7
          have hbs8 := hB8.2.2.2.2.1.size
          have hcell := (Blk.new w7 52 #[.slice (some ⟨wq.heap.size, 0, none⟩) j j]).cell 0
          clear hB hB7 hv6 hd6 hO7 hC7 kb7 hrow6 a0 a1 hbs
          go_wp2_with (at_builtin; refine push_b rfl (.tmp 115) (.tmp 117) rfl wo.heap.size _ _ i j j 1 _ (cutTo j row) rfl hB8.2.2.2.1 HL2.out hv8 w7.heap.size rfl hcell ?d4 hbs8 ?_)
          case d4 => omega
          intro vv' w9 hO9 hC9 _
          have hB9 := hB8.wide hO9 hC9
          rw [HE2.out] at hB9
          have hv9 := hv8.chg hC9 hB8.2.2.2.1.bare
          have hd9 := hd8.chg hC9 hB8.2.2.2.1.bare
          clear hB8 hv8 hd8 hO9 hC9 hcell hbs8
          go_wp2_with fail
          refine (erank_any hB9.1).mono ?_
          rintro e w' ⟨rfl, rfl⟩
          go_wp2_with fail
          refine (vof_any hv9 hd9 (by omega) (by omega)).mono ?_
          rintro e w10 ⟨y10, rfl, hy10, b10⟩
          have hB10 := hB9.step b10
          clear hB9 hv9 hd9 b10
          have HLk := Lib.hid hB10.1.len
          have CP := eput_ok (r := eqL fit j n row) hB10.1 hy10 (eqL_len _ _ _ _).1 (eqL_len _ _ _ _).2
          obtain ⟨L', z, hpl⟩ : ∃ L' z, putL L (eqL fit j n row) = (L', z) := ⟨_, _, rfl⟩
          rw [hpl] at CP HP
          go_wp2_with fail
          refine CP.mono ?_
          rintro e w11 ⟨sv', rfl, hS', hI', hC'⟩
          have hB11 := hB10.put hS' hI' hC'
          clear CP hB10 hS' hI' hC' hpl hy10
          obtain ⟨Av, cv, e, hRv, hcv1, hcv2⟩ := hB11.2.2.2.1.rds
          rw [map_cut HLv.out hqm] at e hRv hcv1
          subst e
          have HGF : Hid (gofR (j : Int) ((vectors.map (cutTo j)).take q) = (gv j ((vectors.map (cutTo j)).take q), 0) ∧ GridOk j ((vectors.map (cutTo j)).take q)) := Lib.hid (by
            rw [← List.map_take]
            exact grid_fits (m := 0) h2 (by rw [List.length_take]; omega))
          have HGR : Hid (∀ W, Calls Try.prog 12 #[gv j ((vectors.map (cutTo j)).take q)] W fun e w' => e = .returned (.int .i64 (L'.length : Int)) ∧ Below W.heap.size W w') := Lib.hid fun W => (grank_any (w := W) HGF.out.2).mono fun e w' ⟨r, he, hr, hb⟩ => ⟨by
            rw [he, Taken.vectors HP.out.1 (r := r) (by rw [eqs_fst]; exact hr)], hb⟩
          have CG := gof_any (z := (j : Int)) (c := cv) hRv (Nat.le_refl _) hcv1 hcv2 (by omega) (by omega)
          rw [HGF.out.1] at CG
          unfold gv at CG HGR
          have Hvl : Hid (((vectors.map (cutTo j)).take q).length = q) := Lib.hid (map_cut HLv.out (by omega))
          rw [Hvl.out] at CG HGR
          generalize strB ((vectors.map (cutTo j)).take q).flatten = str at *
          clear HGF hRv hcv1 hcv2
          go_wp2_with fail
          refine CG.mono ?_
          rintro e w12 ⟨rfl, b12⟩
          have hB12 := hB11.step b12
          clear CG hB11 b12
          go_wp2_with fail
          have hgb := Blk.new w12 26 #[.int .i64 (q : Int), .int .i64 (j : Int), .string str]
          have kb12 := balloc w12 (.cells #[.int .i64 (q : Int), .int .i64 (j : Int), .string str] 26)
          have hB13 := hB12.step kb12
          generalize hgN : w12.heap.size = rb at *
          generalize w12.alloc (.cells #[.int .i64 (q : Int), .int .i64 (j : Int), .string str] 26) = V at *
          have HSV : Hid (∀ W, Below V.heap.size V W → Below V.heap.size V W ∧ W.cell? ⟨rb, 0, none⟩ = some (.int .i64 (q : Int)) ∧ W.cell? ⟨rb, 1, none⟩ = some (.int .i64 (j : Int)) ∧ W.cell? ⟨rb, 2, none⟩ = some (.string str)) := Lib.hid fun W hW => by
            obtain ⟨x0, x1, x2, _⟩ := cells3 (hgb.below hW hgb.lt)
            exact ⟨hW, x0, x1, x2⟩
          have hz01 := HP.out.2
          have HTk := Lib.hid HP.out.1
          have hlk := HLk.out
          have HRk := Lib.hid fun W (hW : Below V.heap.size V W) => erank_any (hB13.1.step hW)
          clear HP hgb kb12 hB12 HT HLk
          generalize L.length = la at *
          rcases hz01 with ⟨rfl, hl⟩ | ⟨rfl, hl⟩
          · rw [hl] at HRk HGR
            have hcast : ((la + 1 : Nat) : Int) = (la : Int) + 1 := by omega
            rw [hcast] at HRk HGR
            have hw1 : IntKind.i64.wrap ((la : Int) + 1) = (la : Int) + 1 := by rw [IntKind.wrap_i64]; omega
            have te : (((la : Int) + 1) != ((la : Int) + 1)) = false := by simp
            have te2 : (((la : Int) + 1) == ((la : Int) + 1)) = true := by simp
            go_region_held3 (fun W => Below V.heap.size V W ∧ W.cell? ⟨rb, 0, none⟩ = some (.int .i64 (q : Int)) ∧ W.cell? ⟨rb, 1, none⟩ = some (.int .i64 (j : Int)) ∧ W.cell? ⟨rb, 2, none⟩ = some (.string str))
              ((refine HSV.out _ ?_; first | exact (Below.refl _ _).drew | assumption))
              (first
                | (go_at_call 41; (with_reducible refine (HRk.out _ (And.left ‹Below V.heap.size V _ ∧ _›)).mono ?_); rintro e w14 ⟨rfl, rfl⟩)
                | (go_at_call 12; (with_reducible refine (HGR.out _).mono ?_); rintro e w15 ⟨rfl, b15⟩; have kB15 := bstep (And.left ‹Below V.heap.size V _ ∧ _›) b15))
            have hB15 := hB13.step kB15
            clear HRk HGR HSV hB13 kB15 b15
            go_wp2_with fail
            subst hq
            go_roundw
            case rel => exact ⟨_, _, _, _, i + 1, hqm, rfl, rfl, by go_num, hB15, HTk⟩
            case measure => simp [intOf]; omega
          · rw [hl] at HRk HGR
            have hw1 : IntKind.i64.wrap ((la : Int) + 1) = (la : Int) + 1 := by rw [IntKind.wrap_i64]; omega
            have te : ((la : Int) != (la : Int)) = false := by simp
            have te2 : ((la : Int) == ((la : Int) + 1)) = false := by rw [beq_eq_false_iff_ne]; omega
            go_region_held3 (fun W => Below V.heap.size V W ∧ W.cell? ⟨rb, 0, none⟩ = some (.int .i64 (q : Int)) ∧ W.cell? ⟨rb, 1, none⟩ = some (.int .i64 (j : Int)) ∧ W.cell? ⟨rb, 2, none⟩ = some (.string str))
              ((refine HSV.out _ ?_; first | exact (Below.refl _ _).drew | assumption))
              (first
                | (go_at_call 41; (with_reducible refine (HRk.out _ (And.left ‹Below V.heap.size V _ ∧ _›)).mono ?_); rintro e w14 ⟨rfl, rfl⟩)
                | (go_at_call 12; (with_reducible refine (HGR.out _).mono ?_); rintro e w15 ⟨rfl, b15⟩; have kB15 := bstep (And.left ‹Below V.heap.size V _ ∧ _›) b15))
            have hB15 := hB13.step kB15
            clear HRk HGR HSV hB13 kB15 b15
            go_wp2_with fail
            subst hq
            go_roundw
            case rel => exact ⟨_, _, _, _, i + 1, hqm, rfl, rfl, by go_num, hB15, HTk⟩
            case measure => simp [intOf]; omega
        · obtain rfl : i = m := by omega
          have hel : (vectors.map (eqL fit j n)).length = i := by rw [List.length_map, HLv.out]
          have hta : (vectors.map (eqL fit j n)).take i = vectors.map (eqL fit j n) := List.take_of_length_le (by omega)
          rw [hta] at hB HT
          have HTo := Lib.hid (eqs_told (fit := fit) (vectors := vectors) Hfn.out Hfl.out)
          have HEl : Hid (∀ a, a < i → (((vectors.map (eqL fit j n))[a]?.getD ([], [])).1.length = j ∧ ((vectors.map (eqL fit j n))[a]?.getD ([], [])).2.length = n) ∧ Told fit j (pt ((vectors.map (eqL fit j n))[a]?.getD ([], [])))) := Lib.hid fun a ha => by
            rw [List.getElem?_map, List.getElem?_eq_getElem (show a < vectors.length by rw [HLv.out]; exact ha)]
            exact ⟨eqL_len _ _ _ _, row_told Hfn.out (by rw [Hfl.out]; exact Nat.le_refl _)⟩
          generalize vectors.map (eqL fit j n) = eqs at *
          have hU := BunU.of hB
          obtain ⟨Al, cl, e, _⟩ := hB.2.2.1.rl
          rw [hel] at e
          subst e
          have Hel := Lib.hid hel
          have HTs := HT
          have hwi : wrap64 ((i : Int) - 1) = (i : Int) - 1 := by unfold wrap64; omega
          clear hB hlt hi hel hta HT
          go_wp2_with fail
          go_loopw [29] (fun x wr => ∃ (uv : Value) (M : List RowL) (a : Nat) (z : Int), a ≤ i ∧ x = .int .i64 z ∧ z = (a : Int) - 1 ∧ BunU wo wq p pu j n L M sv uv (.slice Al i cl) eqs wr ∧ Hid (Taken j n M (eqs.drop a).reverse)) (fun x _ => (intOf x + 1).toNat)
          case atStart => exact ⟨_, [], i, (i : Int) - 1, Nat.le_refl _, by first | rfl | rw [hwi] | go_num, rfl, hU, Lib.hid (by rw [List.drop_of_length_le (by rw [Hel.out]; exact Nat.le_refl _)]; exact Taken.nil _ _)⟩
          case round =>
            clear hU hwi
            obtain ⟨wx, rfl⟩ : ∃ wx : World, wx = wr := ⟨_, rfl⟩
            obtain ⟨uv, M, a, z, ha, rfl, hz0, hB, HTu⟩ := hrel
            by_cases h0 : 0 < a
            · obtain ⟨q, rfl⟩ : ∃ q, a = q + 1 := ⟨a - 1, by omega⟩
              obtain rfl : z = (q : Int) := by omega
              obtain ⟨g0, o0, A3, n3, c3, A4, n4, c4, rfl, k0, k1, r⟩ := hB.2.2.1.rlv.at_ (show q < i by omega)
              have hqi : (q : Int) < (i : Int) := by omega
              obtain ⟨⟨e1, e2⟩, e3⟩ := HEl.out q (by omega)
              have HP := Lib.hid (Taken.put HTu.out e1 e2 e3 fun t ht => HTo.out t (List.mem_of_mem_drop (List.mem_reverse.1 ht)))
              rw [rev_drop ([], []) (by rw [Hel.out]; omega)] at HP
              have CP := eput_ok hB.2.1 r e1 e2
              have hwq : wrap64 ((q : Int) - 1) = (q : Int) - 1 := by unfold wrap64; omega
              generalize eqs[q]?.getD ([], []) = x at *
              clear hz0
              go_wp2_with fail
              refine CP.mono ?_
              rintro e w11 ⟨uv', rfl, hS', hI', hC'⟩
              have hB' := hB.put hS' hI' hC'
              clear CP hB hS' hI' hC' r k0 k1
              go_wp2_with fail
              go_roundw
              case rel => exact ⟨_, _, q, (q : Int) - 1, by omega, by first | rfl | rw [hwq] | go_num, rfl, hB', Lib.hid HP.out.1⟩
              case measure => simp [intOf] <;> omega
            · obtain rfl : a = 0 := by omega
              obtain rfl : z = -1 := by omega
              rw [List.drop_zero] at HTu
              obtain rfl := Taken.same HTs.out HTu.out
              clear hz0 h0
              go_wp2_with fail
              refine (erows_any hB.1).mono ?_
              rintro e w20 ⟨g20, rfl, hr20, _, b20⟩
              have hB20 := hB.step b20
              go_wp2_with fail
              refine (erows_any hB20.2.1).mono ?_
              rintro e w21 ⟨g21, rfl, hr21, _, b21⟩
              have hB21 := hB20.step b21
              have HR20 := Lib.hid fun W (hW : Below w21.heap.size w21 W) => (hr20.step b21).step hW
              have HR21 := Lib.hid fun W (hW : Below w21.heap.size w21 W) => hr21.step hW
              have tz : ((L.length : Int) != (L.length : Int)) = false := by simp
              have hL20 := hB21.1.len
              clear hB hB20 hr20 hr21 b20 b21
              go_wp2_with fail
              go_loopw [187] (fun x wr => ∃ a : Nat, a ≤ L.length ∧ x = .int .i64 (a : Int) ∧ Below w21.heap.size w21 wr) (fun x _ => L.length - (intOf x).toNat)
              case atStart => exact ⟨0, by omega, rfl, Below.refl _ _⟩
              case round =>
                obtain ⟨wy, rfl⟩ : ∃ wy : World, wy = wr := ⟨_, rfl⟩
                obtain ⟨a, ha, rfl, hby⟩ := hrel
                by_cases hal : a < L.length
                · obtain ⟨g3, o3, B1, m1, d1, B2, m2, d2, e3, k0, k1, r⟩ := (HR20.out _ hby).at_ hal
                  injection e3 with e3
                  injection e3 with e3 e4
                  subst e3 e4
                  obtain ⟨g4, o4, B3, m3, d3, B4, m4, d4, e5, y0, y1, r'⟩ := (HR21.out _ hby).at_ hal
                  injection e5 with e5
                  injection e5 with e5 e6
                  subst e5 e6
                  rw [Nat.zero_add] at k0 k1 y0 y1
                  have hal' : (a : Int) < (L.length : Int) := by omega
                  have hgl := cell_lt k0
                  have hgl' := cell_lt y0
                  have HC := Lib.hid fun W (hW : Below wy.heap.size wy W) => c_same_self (r.step hW) (r'.step hW)
                  have hSC : Hid (∀ w', Below wy.heap.size wy w' → (Below wy.heap.size wy w' ∧ w'.cell? ⟨g20, a * 2, none⟩ = some (.slice B1 m1 d1) ∧ w'.cell? ⟨g20, a * 2 + 1, none⟩ = some (.slice B2 m2 d2) ∧ w'.cell? ⟨g21, a * 2, none⟩ = some (.slice B3 m3 d3) ∧ w'.cell? ⟨g21, a * 2 + 1, none⟩ = some (.slice B4 m4 d4))) := Lib.hid fun w' hb' =>
                    ⟨hb', (hb'.cell (p := ⟨g20, a * 2, none⟩) hgl).trans k0, (hb'.cell (p := ⟨g20, a * 2 + 1, none⟩) hgl).trans k1, (hb'.cell (p := ⟨g21, a * 2, none⟩) hgl').trans y0, (hb'.cell (p := ⟨g21, a * 2 + 1, none⟩) hgl').trans y1⟩
                  clear r r' k0 k1 y0 y1
                  go_wp2_with fail
                  go_region_held3 (fun w' => Below wy.heap.size wy w' ∧ w'.cell? ⟨g20, a * 2, none⟩ = some (.slice B1 m1 d1) ∧ w'.cell? ⟨g20, a * 2 + 1, none⟩ = some (.slice B2 m2 d2) ∧ w'.cell? ⟨g21, a * 2, none⟩ = some (.slice B3 m3 d3) ∧ w'.cell? ⟨g21, a * 2 + 1, none⟩ = some (.slice B4 m4 d4))
                    ((refine hSC.out _ ?_; first | exact (Below.refl _ _).drew | assumption))
                    (first | (go_at_call 50; (with_reducible refine (HC.out _ (And.left ‹Below wy.heap.size wy _ ∧ _›)).mono ?_); rintro e w22 ⟨rfl, b22⟩; have kB22 := bstep (And.left ‹Below wy.heap.size wy _ ∧ _›) b22))
                  clear HC hSC
                  go_wp2_with fail
                  go_roundw
                  case rel => exact ⟨a + 1, by omega, by go_num, bstep hby kB22⟩
                  case measure => simp [intOf]; omega
                · obtain rfl : a = L.length := by omega
                  have hBz := hB21.step hby
                  have hend := bstep hb hBz.2.2.2.1
                  clear hB21 HR20 HR21 hal tz
                  by_cases hfull : L.length < j
                  · have CS := esolve_wait hBz.1 hfull
                    have hfz : (L.length : Int) < (j : Int) := by omega
                    have hSz := hBz.1
                    clear hBz hfull
                    go_wp2_with fail
                    refine CS.mono ?_
                    rintro e w23 ⟨rfl, b23⟩
                    go_wp2_with fail
                    refine (erank_any (hSz.step b23)).mono ?_
                    rintro e w' ⟨rfl, rfl⟩
                    go_wp2_with fail
                    go_ret
                    exact ⟨rfl, bstep hend b23⟩
                  · have hk : L.length = j := by omega
                    have CS := esolve_full hBz.1 hk
                    have hSz := hBz.1
                    have HSo := Lib.hid fun t (ht : t < j) => Taken.solved HTs.out HTo.out hk ht (Hf1.out t ht)
                    have hfo := HFit.out _ hBz.2.2.2.1
                    clear hBz hfull
                    go_wp2_with fail
                    refine CS.mono ?_
                    rintro e w23 ⟨g23, rfl, hFl, _, b23⟩
                    have hall := hFl.rds (by rw [List.length_map, hk])
                    have HAl := Lib.hid fun W (hW : Below w23.heap.size w23 W) => hall.step hW
                    have HFo := Lib.hid fun W (hW : Below w23.heap.size w23 W) => (hfo.step b23).step hW
                    have hend2 := bstep hend b23
                    have CRk := erank_any (hSz.step b23)
                    rw [hk] at CRk
                    have hnl : ¬ ((j : Int) < (j : Int)) := by omega
                    have tj : ((j : Int) != (j : Int)) = false := by simp
                    clear hFl hall hfo hSz CS b23 hend
                    go_wp2_with fail
                    refine CRk.mono ?_
                    rintro e w' ⟨rfl, rfl⟩
                    clear CRk
                    go_wp2_with fail
                    go_loopw [214] (fun x wr => ∃ t : Nat, t ≤ j ∧ x = .int .i64 (t : Int) ∧ Below w23.heap.size w23 wr) (fun x _ => j - (intOf x).toNat)
                    case atStart => exact ⟨0, by omega, rfl, Below.refl _ _⟩
                    case round =>
                      obtain ⟨wv, rfl⟩ : ∃ wv : World, wv = wr := ⟨_, rfl⟩
                      obtain ⟨t, ht, rfl, hbv⟩ := hrel
                      by_cases htj : t < j
                      · obtain ⟨b8, o8, A8, c8, e8, _, hc8, hr8⟩ := (HAl.out _ hbv).at_ htj
                        injection e8 with e8
                        injection e8 with e8 e9
                        subst e8 e9
                        obtain ⟨b9, o9, A9, c9, rfl, _, hc9, hr9⟩ := (HFo.out _ hbv).at_ htj
                        have hx8 : (L.map (·.2))[t]?.getD [] = fit[t]?.getD [] := by
                          rw [List.getElem?_map, List.getElem?_eq_getElem (show t < L.length by omega)]
                          have := HSo.out t htj
                          rw [List.getElem?_eq_getElem (show t < L.length by omega)] at this
                          exact this
                        rw [hx8] at hc8 hr8
                        have hlen := Hf1.out t htj
                        rw [hlen] at hc8 hr8 hc9 hr9
                        rw [Nat.zero_add] at hc8
                        generalize fit[t]?.getD [] = us at *
                        have htz : (t : Int) < (j : Int) := by omega
                        have hg8 := cell_lt hc8
                        have hg9 := cell_lt hc9
                        have HCE : Hid (∀ W, Below wv.heap.size wv W → Calls Try.prog 45 #[.slice A8 n c8, .slice A9 n c9] W fun e w' => e = .returned (.bool true) ∧ Below W.heap.size W w') := Lib.hid fun W hW => by
                          have := same_any (c := c8) (c2 := c9) (hr8.step hW) (hr9.step hW) (Nat.le_refl _) (Nat.le_refl _) (by omega)
                          rw [beq_self_eq_true] at this
                          exact this
                        have HSD : Hid (∀ W, Below wv.heap.size wv W → Below wv.heap.size wv W ∧ W.cell? ⟨g23, t, none⟩ = some (.slice A8 n c8) ∧ W.cell? ⟨b9, o9 + t, none⟩ = some (.slice A9 n c9)) := Lib.hid fun W hW => ⟨hW, (hW.cell (p := ⟨g23, t, none⟩) hg8).trans hc8, (hW.cell (p := ⟨b9, o9 + t, none⟩) hg9).trans hc9⟩
                        clear hx8 hlen hr8 hr9 hc8 hc9
                        go_wp2_with fail
                        go_region_held3 (fun W => Below wv.heap.size wv W ∧ W.cell? ⟨g23, t, none⟩ = some (.slice A8 n c8) ∧ W.cell? ⟨b9, o9 + t, none⟩ = some (.slice A9 n c9))
                          ((refine HSD.out _ ?_; first | exact (Below.refl _ _).drew | assumption))
                          (first | (go_at_call 45; (with_reducible refine (HCE.out _ (And.left ‹Below wv.heap.size wv _ ∧ _›)).mono ?_); rintro e w24 ⟨rfl, b24⟩; have kB24 := bstep (And.left ‹Below wv.heap.size wv _ ∧ _›) b24))
                        have hb24 := bstep hbv kB24
                        clear HCE HSD
                        go_wp2_with fail
                        go_roundw
                        case rel => exact ⟨t + 1, by omega, by go_num, hb24⟩
                        case measure => simp [intOf]; omega
                      · obtain rfl : t = j := by omega
                        clear htj
                        go_wp2_with fail
                        go_ret
                        exact ⟨rfl, bstep hend2 hbv⟩
end Go.Proofs.Ytaidbcppecoenaa

