import Derived.Test.YtaidbcppecoenaaR08A
/- The document's system: one equation more. -/
namespace Go.Proofs.Ytaidbcppecoenaa
open Go.RowKit
set_option linter.unusedVariables false
set_option maxRecDepth 100000

theorem putD_len (d : List RowL) (x : RowL) : (putD d x).1.length ≤ d.length + 1 := by
  unfold putD
  split
  · simp
  · split <;> simp
def PutDEnds (B : Nat) (d : List RowL) (z : Int) (w : World) (e : Ending) (w' : World) : Prop := ∃ v, e = .returned (.tuple #[v, .int .i64 z]) ∧ OwnR w' B v d ∧ Below w.heap.size w w'
set_option maxHeartbeats 1000000 in
theorem refput8_any {w : World} {n t B : Nat} {v : Value} {d : List RowL} {r : RowL} {x : Value} (hv : OwnR w B v d) (hBw : B ≤ w.heap.size) (hd : Held8 n t d) (hk : d.length ≤ 60000) (hx : RowIs w r x) (h1 : r.1.length = n) (h2 : r.2.length = t) :
    Calls Try.prog 36 #[v, x] w (PutDEnds B (putD d r).1 (putD d r).2 w) := by
  obtain ⟨A, c, rfl, hr, hc1, hc2⟩ := hv.rl
  obtain ⟨A1, n1, c1, A2, n2, c2, rfl, p1, p2, l1, l2⟩ := hx
  have hb0 := balloc w (.cells #[.slice A1 n1 c1, .slice A2 n2 c2] 65)
  have b3 := Blk.new w 65 #[.slice A1 n1 c1, .slice A2 n2 c2]
  have rx : RowIs _ r _ := (RowIs.mk (c := c1) (c2 := c2) p1 p2 l1 l2).step hb0
  have hv0 := hv.step hb0
  have CR := refrest8_any (c := c) ((hr.step hb0).more hb0.size) hd.1 hd.2.1 hk rx h1 h2
  have HP : Hid (putD d r = if 0 ≤ leadI (restL (rowsD d) r).1 then (d ++ [r], 0) else if zeroB (restL (rowsD d) r).2 then (d, 1) else (d, 2)) := Lib.hid rfl
  have hlt3 := b3.lt
  obtain ⟨a0, a1, _, _⟩ := cells2 b3
  clear hv hr p1 p2 hd h1 h2
  generalize restL (rowsD d) r = q at *
  go_enter Try.func36, Try.ntmps36
  go_wp2_with fail
  generalize w.alloc (.cells #[.slice A1 n1 c1, .slice A2 n2 c2] 65) = V at *
  refine CR.mono ?_
  rintro e w1 ⟨y, rfl, ⟨A3, n3, c3, A4, n4, c4, rfl, q3, q4, l3, l4⟩, b1⟩
  have kb := balloc w1 (.cells #[.slice A3 n3 c3, .slice A4 n4 c4] 65)
  have k1 := bstep b1 kb
  have b6 := Blk.new w1 65 #[.slice A3 n3 c3, .slice A4 n4 c4]
  replace q3 := q3.step kb
  replace q4 := q4.step kb
  replace rx := rx.step k1
  replace hv0 := hv0.step k1
  replace b3 := b3.below k1 b3.lt
  have hb := bstep hb0 k1
  have hz := hb.size
  clear hb0 b1 kb k1 CR a0 a1
  go_wp2_with fail
  generalize w1.alloc (.cells #[.slice A3 n3 c3, .slice A4 n4 c4] 65) = W at *
  obtain ⟨a0, a1, _, _⟩ := cells2 b3
  obtain ⟨d0, d1, _, _⟩ := cells2 b6
  have hzl := lead_zero q.1
  by_cases h0 : 0 ≤ leadI q.1
  · have e0 : zeroB q.1 = false := by rw [hzl]; simpa using h0
    have HQ : Hid (putD d r = (d ++ [r], 0)) := Lib.hid (by rw [HP.out, if_pos h0])
    have CZ := refzero_any (c := c3) q3 (by omega)
    rw [e0] at CZ
    clear hzl h0 e0 HP q3 q4
    go_wp2_with fail
    refine CZ.mono ?_
    rintro e w' ⟨rfl, rfl⟩
    obtain ⟨A', c', ev, hr', _, _⟩ := hv0.rl
    injection ev with e1 e2 e3
    subst e1 e3
    go_wp2_with (at_builtin; refine push_rl (wx := W) rfl (.tmp 15) (.tmp 16) rfl (.slice none 0 0) [] d 0 d.length c A rfl (WasR.nil _ _ _) rfl hr' (Below.refl _ _) rfl (by omega) ?_)
    intro v3 w3 hw3 hb3
    obtain ⟨x0, x1, _, _⟩ := cells2 (b3.below hb3 b3.lt)
    clear a0 a1 d0 d1 CZ
    have hz3 := hb3.size
    go_wp2_with (at_builtin; refine push_rows (wx := W) rfl (.tmp 18) (.tmp 20) rfl _ d [r] d.length 1 1 w3.heap.size 0 [.slice A1 n1 c1, .slice A2 n2 c2] rfl (hw3.alloc _) rfl rfl (CellsOf.one rx) rfl ?dc (by omega) (by simp; omega) ?_)
    case dc => exact built2 _ _ _ _
    intro v4 w4 hw4 hb4
    have hb5 := (hb3.alloc hz3 (.cells #[.slice A1 n1 c1, .slice A2 n2 c2] 65)).trans hb4
    have ho := OwnR.mono (hw4.now hb5) (Nat.le_trans hBw hz)
    clear hw3 hw4 hb3 hb4 x0 x1
    go_wp2_with fail
    go_ret2
    exact ⟨_, by rw [HQ.out]; rfl, by rw [HQ.out]; exact ho, bstep hb hb5⟩
  · have e0 : zeroB q.1 = true := by rw [hzl]; simp; omega
    have CZ := refzero_any (c := c3) q3 (by omega)
    have CY := refzero_any (c := c4) q4 (by omega)
    rw [e0] at CZ
    cases e1 : zeroB q.2
    · have HQ : Hid (putD d r = (d, 2)) := Lib.hid (by rw [HP.out, if_neg h0, e1]; rfl)
      rw [e1] at CY
      clear hzl h0 e0 e1 HP q3 q4
      go_wp2_with fail
      refine CZ.mono ?_
      rintro e w' ⟨rfl, rfl⟩
      go_wp2_with fail
      refine CY.mono ?_
      rintro e w' ⟨rfl, rfl⟩
      go_wp2_with fail
      go_ret2
      exact ⟨_, by rw [HQ.out]; rfl, by rw [HQ.out]; exact hv0, hb⟩
    · have HQ : Hid (putD d r = (d, 1)) := Lib.hid (by rw [HP.out, if_neg h0, e1]; rfl)
      rw [e1] at CY
      clear hzl h0 e0 e1 HP q3 q4
      go_wp2_with fail
      refine CZ.mono ?_
      rintro e w' ⟨rfl, rfl⟩
      go_wp2_with fail
      refine CY.mono ?_
      rintro e w' ⟨rfl, rfl⟩
      go_wp2_with fail
      go_ret2
      exact ⟨_, by rw [HQ.out]; rfl, by rw [HQ.out]; exact hv0, hb⟩
end Go.Proofs.Ytaidbcppecoenaa

/- The document's system: a symbol that is known. -/
namespace Go.Proofs.Ytaidbcppecoenaa
open Go.RowKit
set_option linter.unusedVariables false
set_option maxRecDepth 100000

def cntL (us : List UInt8) : Nat := (us.filter (· != 0)).length
theorem cnt_le (us : List UInt8) : cntL us ≤ us.length := List.length_filter_le _ _
theorem cnt_next {us : List UInt8} {j : Nat} (h : j < us.length) : cntL (us.take (j + 1)) = cntL (us.take j) + if us[j]?.getD 0 = 0 then 0 else 1 := by
  rw [← take_get 0 h]
  unfold cntL
  rw [List.filter_append, List.length_append]
  congr 1
  by_cases h0 : us[j]?.getD 0 = 0
  · rw [if_pos h0, h0]; rfl
  · rw [if_neg h0, List.filter_cons_of_pos (by simpa using h0)]; rfl
def tells (i : Int) (r : RowL) : Bool := cntL r.1 == 1 && leadI r.1 == i
/-- The first row that tells a symbol alone. -/
def knownD (L : List RowL) (i : Int) : Option (List UInt8) := (L.find? (tells i)).map (·.2)
theorem find_take_none {L : List RowL} {i : Int} {j : Nat} (hj : j < L.length) (h : (L.take j).find? (tells i) = none) (h2 : tells i (L[j]?.getD ([], [])) = false) : (L.take (j + 1)).find? (tells i) = none := by
  rw [← take_get ([], []) hj, List.find?_append, h]
  simp [h2]
theorem find_take_some {L : List RowL} {i : Int} {j : Nat} (hj : j < L.length) (h : (L.take j).find? (tells i) = none) (h2 : tells i (L[j]?.getD ([], [])) = true) : L.find? (tells i) = some (L[j]?.getD ([], [])) := by
  have e : L = L.take j ++ (L[j]?.getD ([], []) :: L.drop (j + 1)) := by
    rw [List.getElem?_eq_getElem hj, Option.getD_some, ← List.drop_eq_getElem_cons hj, List.take_append_drop]
  generalize L[j]?.getD ([], []) = x at *
  rw [e, List.find?_append, h]
  simp [h2]
/-! ### Both ways to tell a symbol -/
theorem cnt_one {us : List UInt8} {i : Nat} (h : leadI us = (i : Int)) : (cntL us == 1) = zeroB (us.drop (i + 1)) := by
  obtain ⟨g1, g2, g3⟩ := lead_fn_ne h
  have e : us = us.take i ++ (us[i]?.getD 0 :: us.drop (i + 1)) := by
    rw [List.getElem?_eq_getElem g3, Option.getD_some, ← List.drop_eq_getElem_cons g3, List.take_append_drop]
  have h1 : (us.take i).filter (· != 0) = [] := by
    rw [List.filter_eq_nil_iff]
    intro a ha
    obtain ⟨j, hj, rfl⟩ := List.getElem_of_mem ha
    have hji : j < i := by rw [List.length_take] at hj; omega
    have := g2 j hji
    unfold fn at this
    rw [List.getElem?_eq_getElem (by omega)] at this
    simp only [Option.getD_some] at this
    simp [List.getElem_take, this]
  have h2 : cntL us = 1 + cntL (us.drop (i + 1)) := by
    have hx : (us[i]?.getD 0 != 0) = true := by simpa [fn] using g1
    have : cntL (us.take i ++ (us[i]?.getD 0 :: us.drop (i + 1))) = 1 + cntL (us.drop (i + 1)) := by
      unfold cntL
      rw [List.filter_append, h1, List.nil_append, List.filter_cons_of_pos (p := fun x => x != 0) hx, List.length_cons]
      omega
    rw [← e] at this
    exact this
  rw [h2]
  unfold zeroB cntL
  rw [Bool.eq_iff_iff]
  simp only [beq_iff_eq, List.all_eq_true]
  constructor
  · intro h3 x hx
    have h4 : ((us.drop (i + 1)).filter (· != 0)) = [] := List.eq_nil_of_length_eq_zero (by omega)
    rw [List.filter_eq_nil_iff] at h4
    simpa using h4 x hx
  · intro h3
    have h4 : ((us.drop (i + 1)).filter (· != 0)) = [] := by
      rw [List.filter_eq_nil_iff]
      intro x hx
      simpa using h3 x hx
    rw [h4]
    rfl
theorem known_same {k t : Nat} {L : List RowL} (h : Good k t L) (i : Int) : knownL L i = knownD L i := by
  have h0 : ∀ o ∈ L, 0 ≤ leadI o.1 := fun o ho => (h.1 o ho).2.2
  have hdrop := place_drop (j := i) h0 h.2.2
  have htake := place_take (L := L) (j := i)
  have hple := place_le L i
  unfold knownL knownD
  by_cases hp : placeL L i = L.length
  · rw [if_pos hp]
    have : L.find? (tells i) = none := by
      rw [List.find?_eq_none]
      intro o ho
      rw [hp, List.take_length] at htake
      have := htake o ho
      simp [tells]
      intro _
      omega
    rw [this]; rfl
  · rw [if_neg hp]
    have hlt : placeL L i < L.length := by omega
    generalize placeL L i = p at *
    have ex : L[p]?.getD ([], []) = L[p] := by rw [List.getElem?_eq_getElem hlt]; rfl
    have hd : L.drop p = L[p] :: L.drop (p + 1) := List.drop_eq_getElem_cons hlt
    have hge : i ≤ leadI (L[p]).1 := hdrop _ (by rw [hd]; exact List.mem_cons_self ..)
    rw [ex]
    have hafter : ∀ o ∈ L.drop (p + 1), leadI (L[p]).1 < leadI o.1 := by
      intro o ho
      have hg := drop_good h p
      rw [hd] at hg
      have h2 := hg.2.2
      unfold Rising at h2
      have h3 := (List.pairwise_cons.1 h2).1 (leadI o.1).toNat (mem_leads.2 ⟨_, led_mem.2 ⟨o, ho, rfl⟩, rfl⟩)
      have h4 := h0 (L[p]) (List.getElem_mem hlt)
      have h5 := h0 o (List.mem_of_mem_drop ho)
      simp only at h3
      omega
    have hsplit : L.find? (tells i) = if tells i (L[p]) then some (L[p]) else none := by
      have e : L = L.take p ++ (L[p] :: L.drop (p + 1)) := by rw [← hd, List.take_append_drop]
      have n1 : (L.take p).find? (tells i) = none := by
        rw [List.find?_eq_none]
        intro o ho
        have := htake o ho
        simp [tells]
        intro _
        omega
      have n2 : (L.drop (p + 1)).find? (tells i) = none := by
        rw [List.find?_eq_none]
        intro o ho
        have := hafter o ho
        simp [tells]
        intro _
        omega
      have : (L.take p ++ (L[p] :: L.drop (p + 1))).find? (tells i) = if tells i (L[p]) then some (L[p]) else none := by
        rw [List.find?_append, n1, List.find?_cons, n2]
        cases tells i (L[p]) <;> simp
      rw [← e] at this
      exact this
    rw [hsplit]
    by_cases he : leadI (L[p]).1 = i
    · rw [if_neg (by simpa using he)]
      have hi0 : 0 ≤ i := by have := h0 (L[p]) (List.getElem_mem hlt); omega
      have hc := cnt_one (us := (L[p]).1) (i := i.toNat) (by omega)
      unfold tells
      rw [he, beq_self_eq_true, Bool.and_true, hc]
      cases zeroB ((L[p]).1.drop (i.toNat + 1)) <;> simp
    · rw [if_pos he]
      have : tells i (L[p]) = false := by simp [tells, he]
      rw [this]; rfl
set_option maxHeartbeats 1000000 in
theorem refknown8_any {w : World} {n t k c : Nat} {A : Option Addr} {d : List RowL} {i : Int} (hL : RL w w.heap.size A k d) (hs : Wide8 n t d) (hgd : Good n t (insAll d)) (hk : k ≤ 60000) (z1 : -9223372036854775808 ≤ i) (z2 : i ≤ 9223372036854775807) :
    Calls Try.prog 40 #[.slice A k c, .int .i64 i] w (KnownEnds (knownD (rowsD d) i) w) := by
  have CR := refrows_any (c := c) hL hs hgd hk
  have HP : Hid (∀ x, (rowsD d).find? (tells i) = x → knownD (rowsD d) i = x.map (·.2)) := Lib.hid fun x hx => by unfold knownD; rw [hx]
  clear hL hs hgd
  generalize knownD (rowsD d) i = res at *
  go_enter Try.func40, Try.ntmps40
  go_wp2_with fail
  refine CR.mono ?_
  rintro e w1 ⟨A9, c9, rfl, hown, hb1⟩
  obtain ⟨A', c', ev, hr, _, _⟩ := hown.rl
  injection ev with e1 e2 e3
  subst e1 e3
  have HR := Lib.hid fun W (hW : Below w1.heap.size w1 W) => hr.step hW
  clear CR hown hr
  generalize rowsD d = L at *
  go_wp2_with fail
  go_loopw [13] (fun v wr => ∃ j : Nat, j ≤ L.length ∧ v = .int .i64 (j : Int) ∧ Hid ((L.take j).find? (tells i) = none) ∧ Below w1.heap.size w1 wr) (fun v _ => L.length - (intOf v).toNat)
  case atStart => exact ⟨0, by omega, rfl, Lib.hid rfl, Below.refl _ _⟩
  case round =>
    obtain ⟨wo, rfl⟩ : ∃ wo : World, wo = wr := ⟨_, rfl⟩
    obtain ⟨j, hj, rfl, hp, hb⟩ := hrel
    by_cases hlt : j < L.length
    · obtain ⟨g, o, A1, n1, c1, A2, n2, c2, rfl, k0, k1, r⟩ := (HR.out _ hb).at_ hlt
      obtain ⟨q1, q2, l1, l2⟩ := r.parts
      have kb := balloc wo (.cells #[.slice A1 n1 c1, .slice A2 n2 c2] 65)
      have b6 := Blk.new wo 65 #[.slice A1 n1 c1, .slice A2 n2 c2]
      replace q1 := q1.step kb
      replace q2 := q2.step kb
      replace hb := bstep hb kb
      have HT := Lib.hid fun h => find_take_none (i := i) hlt hp.out h
      have HF := Lib.hid fun h => find_take_some (i := i) hlt hp.out h
      have Hx := Lib.hid q1.1
      have Hy := Lib.hid q2.1
      clear r
      go_wp2_with fail
      clear k0 k1 kb
      generalize wo.alloc (.cells #[.slice A1 n1 c1, .slice A2 n2 c2] 65) = V at *
      generalize L[j]?.getD ([], []) = y at *
      obtain ⟨a0, a1, _, _⟩ := cells2 b6
      have CL := reflead_any (c := c1) q1 (by omega)
      go_loop [8, 20] (fun m v => ∃ q : Nat, q ≤ n1 ∧ v = .int .i64 (q : Int) ∧ m = .int .i64 ((cntL (y.1.take q) : Nat) : Int)) (fun _ v => n1 - (intOf v).toNat)
      case atStart => exact ⟨0, by omega, rfl, rfl⟩
      case round =>
        obtain ⟨q, hq, rfl, rfl⟩ := hrel
        have hcq : cntL (y.1.take q) ≤ n1 := Nat.le_trans (cnt_le _) (by rw [List.length_take, Hx.out]; omega)
        by_cases hql : q < n1
        · have hcn := cnt_next (us := y.1) (j := q) (by rw [Hx.out]; exact hql)
          obtain ⟨b, of, rfl, _, hbyte⟩ := q1.at_ hql
          by_cases hz : y.1[q]?.getD 0 = 0
          · rw [if_pos hz] at hcn
            have HC := Lib.hid hcn
            rw [hz] at hbyte
            have t1 : (bv (0 : UInt8) != 0) = false := rfl
            clear hcn hz CL
            generalize cntL (y.1.take q) = m at *
            go_wp2_with fail
            go_round
            case rel => exact ⟨q + 1, by omega, by go_num, by rw [HC.out]; rfl⟩
            case measure => simp [intOf]; omega
          · rw [if_neg hz] at hcn
            have HC := Lib.hid hcn
            have t1 : (bv (y.1[q]?.getD 0) != 0) = true := by
              rw [bne_iff_ne]; intro h; exact hz (bv_inj.1 h)
            generalize y.1[q]?.getD 0 = u at *
            clear hcn hz CL
            generalize cntL (y.1.take q) = m at *
            go_wp2_with fail
            go_round
            case rel => exact ⟨q + 1, by omega, by go_num, by rw [HC.out]; go_num⟩
            case measure => simp [intOf]; omega
        · obtain rfl : q = n1 := by omega
          have hft : y.1.take q = y.1 := List.take_of_length_le (by rw [Hx.out]; exact Nat.le_refl _)
          rw [hft] at hcq ⊢
          have HE : Hid (tells i y = (cntL y.1 == 1 && leadI y.1 == i)) := Lib.hid rfl
          clear hft hql
          generalize hcv : cntL y.1 = m at *
          generalize hlv : leadI y.1 = ld at *
          clear hcv hlv
          by_cases h1 : m = 1
          · have t1 : ((m : Int) == 1) = true := by rw [h1]; rfl
            by_cases h2 : ld = i
            · have t2 : (ld == i) = true := by rw [h2]; simp
              have hT : tells i y = true := by rw [HE.out, h1, h2]; simp
              have HF2 := Lib.hid (HP.out _ (HF.out hT))
              clear h1 h2 hT
              go_wp2_with fail
              refine CL.mono ?_
              rintro e w' ⟨rfl, rfl⟩
              go_wp2_with fail
              go_ret2
              exact ⟨by rw [HF2.out]; exact ⟨_, _, _, rfl, by simpa using q2⟩, bstep hb1 hb⟩
            · have t2 : (ld == i) = false := by rw [beq_eq_false_iff_ne]; exact h2
              have hT : tells i y = false := by rw [HE.out, t2, Bool.and_false]
              have HF2 := Lib.hid (HT.out hT)
              clear h1 h2 hT
              go_wp2_with fail
              refine CL.mono ?_
              rintro e w' ⟨rfl, rfl⟩
              go_wp2_with fail
              go_roundw
              case rel => exact ⟨j + 1, by omega, by go_num, HF2, hb⟩
              case measure => simp [intOf]; omega
          · have t1 : ((m : Int) == 1) = false := by rw [beq_eq_false_iff_ne]; omega
            have hT : tells i y = false := by
              have : (m == 1) = false := by rw [beq_eq_false_iff_ne]; exact h1
              rw [HE.out, this, Bool.false_and]
            have HF2 := Lib.hid (HT.out hT)
            clear h1 hT CL
            go_wp2_with fail
            go_roundw
            case rel => exact ⟨j + 1, by omega, by go_num, HF2, hb⟩
            case measure => simp [intOf]; omega
    · obtain rfl : j = L.length := by omega
      have hp2 := hp.out
      rw [List.take_length] at hp2
      have HF2 := Lib.hid (HP.out _ hp2)
      clear hp2 hlt
      go_wp2_with fail
      go_ret2
      exact ⟨by rw [HF2.out]; rfl, bstep hb1 hb⟩
end Go.Proofs.Ytaidbcppecoenaa

