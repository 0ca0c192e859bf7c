import Derived.Test.YtheohcebiimdoaaCut
/- Contracts of package glue: symbols, joined again. -/
namespace Go.Proofs.Ytheohcebiimdoaa
open Go.RowKit
set_option linter.unusedVariables false
set_option maxRecDepth 100000

theorem copy_at {ops : Array Oper} {rest : List Oper} {o : Oper} {a : Act} {Q : Exit → Act → World → Prop} {w : World} (hgd : o.guard = none) (d s : Operand)
    (ho : o.op = .call { callee := .builtin .copy, args := #[d, s], argTypes := #[25, 25] }) (g p m q n c : Nat) (A : Option Addr) (cur us : List UInt8)
    (hd : a.eval d = .slice (some ⟨g, p, none⟩) m q) (hs : a.eval s = .slice A n c) (hg : Blk w g 5 (bvs cur).toArray) (hm : p + m ≤ cur.length) {B : Nat} (hr : Rd w B A n us)
    (B0 : Nat) (w0 : World) (hb : Below B0 w0 w) (hBg : B0 ≤ g)
    (h : ∀ w', Blk w' g 5 (bvs (cur.take p ++ (us.take m ++ cur.drop (p + Nat.min n m)))).toArray → Below B0 w0 w' → wpList Try.prog ops Q rest (a.put o.dst (goInt (Nat.min n m))) w') : wpList Try.prog ops Q (o :: rest) a w := by
  have hl : (bvs (us.take m)).length = Nat.min n m := by rw [bvs_length, List.length_take, hr.1]; exact Nat.min_comm _ _
  have hmin : Nat.min n m ≤ m := Nat.min_le_right _ _
  refine wpList_copy_splice hgd d s _ _ ho 5 Try.underlying25 (by kernel_rfl) (some ⟨g, p, none⟩) A m q n c hd hs g p (bvs cur) 5 hg (bvs (us.take m)) hl (fun hp => ⟨rfl, ?_⟩) (by rw [hl, bvs_length]; omega) (bvs_one _) B0 w0 hb hBg ?_
  · obtain ⟨ad, e, hc⟩ := hr.adds (by rw [hl] at hp; exact Nat.lt_of_lt_of_le hp (Nat.min_le_left _ _))
    refine ⟨ad, e, fun j v hv => hc j v ?_⟩
    simp only [bvs, List.map_take, List.getElem?_take] at hv
    split at hv
    · exact hv
    · cases hv
  · intro w' hw' hb'
    have h2 := h w' (by
      have := hw'.out
      have e2 : splice (bvs cur) p (bvs (us.take m)) = bvs (cur.take p ++ (us.take m ++ cur.drop (p + Nat.min n m))) := by
        unfold splice
        rw [hl]
        simp [bvs]
      rw [e2] at this
      exact this) hb'
    rwa [hl]
/-! ### Symbols, one behind the other -/
theorem cutTo_splice {L p m n : Nat} {x y : List UInt8} (hx : x.length = p) (hy : y.length = n) (hp : p + m = L) : (cutTo L x).take p ++ (y.take m ++ (cutTo L x).drop (p + Nat.min n m)) = cutTo L (x ++ y) := by
  have hd : (cutTo L x).drop (p + Nat.min n m) = nulls (m - n) := by
    apply List.ext_getElem?
    intro i
    rw [List.getElem?_drop, cutTo_get]
    unfold nulls
    rw [List.getElem?_replicate]
    have h1 : Nat.min n m = min n m := rfl
    rw [h1]
    by_cases h : i < m - n
    · rw [if_pos (by omega), if_pos h, List.getElem?_eq_none (by omega)]; rfl
    · rw [if_neg (by omega), if_neg h]
  rw [hd]
  apply List.ext_getElem?
  intro i
  rw [cutTo_get]
  by_cases h1 : i < p
  · rw [if_pos (by omega), List.getElem?_append_left (by rw [List.length_take, cutTo_len]; omega), List.getElem?_take, if_pos h1, cutTo_get, if_pos (by omega), List.getElem?_append_left (by omega)]
  · rw [List.getElem?_append_right (by rw [List.length_take, cutTo_len]; omega), List.length_take, cutTo_len, show min p L = p by omega, List.getElem?_append_right (l₁ := x) (l₂ := y) (by omega), hx]
    by_cases h2 : i - p < min m n
    · rw [List.getElem?_append_left (by rw [List.length_take]; omega), List.getElem?_take, if_pos (by omega), if_pos (by omega), List.getElem?_eq_getElem (by omega)]
      rfl
    · rw [List.getElem?_append_right (by rw [List.length_take]; omega), List.length_take, hy]
      unfold nulls
      rw [List.getElem?_replicate]
      by_cases h3 : i < L
      · rw [if_pos (by omega), if_pos h3, List.getElem?_eq_none (by omega)]; rfl
      · rw [if_neg (by omega), if_neg h3]
theorem flat_take_len {S : Nat} {rows : List (List UInt8)} (h : lenB S rows = true) {k : Nat} (hk : k ≤ rows.length) : (rows.take k).flatten.length = k * S := by
  induction k with
  | zero => simp
  | succ k ih =>
    rw [List.take_succ_eq_append_getElem (by omega), List.flatten_append, List.length_append, ih (by omega), Nat.succ_mul]
    have := lenB_get h (show k < rows.length by omega)
    rw [List.getElem?_eq_getElem (by omega)] at this
    simp at this
    simp [this]
theorem flat_take_next {rows : List (List UInt8)} {k : Nat} (hk : k < rows.length) : (rows.take k).flatten ++ (rows[k]?.getD []) = (rows.take (k + 1)).flatten := by
  rw [← take_get [] hk, List.flatten_append]
  simp
theorem cutTo_le {L : Nat} {us : List UInt8} (h : L ≤ us.length) : cutTo L us = us.take L := by
  unfold cutTo
  rw [Nat.sub_eq_zero_of_le h]
  simp [nulls]
/-- Why symbols can't be joined. -/
def gfitC (l s k : Int) (rows : List (List UInt8)) : Int := if codeC l s k ≠ 0 then codeC l s k else if (rows.length : Int) ≠ k then 5 else if lenB s.toNat rows = false then 4 else 0
theorem gfit_ok {l s k : Int} {rows : List (List UInt8)} (h : gfitC l s k rows = 0) : codeC l s k = 0 ∧ (rows.length : Int) = k ∧ lenB s.toNat rows = true := by
  unfold gfitC at h
  by_cases h1 : codeC l s k ≠ 0
  · rw [if_pos h1] at h; contradiction
  · rw [if_neg h1] at h
    by_cases h2 : (rows.length : Int) ≠ k
    · rw [if_pos h2] at h; omega
    · rw [if_neg h2] at h
      by_cases h3 : lenB s.toNat rows = false
      · rw [if_pos h3] at h; omega
      · exact ⟨by omega, by omega, by simpa using h3⟩
theorem gfit_any {l s k d : Int} {A : Option Addr} {n c : Nat} {rows : List (List UInt8)} {w : World} (h : Rds w w.heap.size A n rows) (hn : n ≤ 9223372036854775807) (l2 : l ≤ 9223372036854775807) :
    Calls Try.prog 29 #[pv l s k d, .slice A n c] w (GridEnds (.int .i64 (gfitC l s k rows)) w) := by
  have hb := balloc w (.cells #[.int .i64 l, .int .i64 s, .int .i64 k, .int .u32 d] 24)
  have hg := Blk.new w 24 #[.int .i64 l, .int .i64 s, .int .i64 k, .int .u32 d]
  have C := pcheck_any (l := l) (s := s) (k := k) (d := d) (w := w.alloc (.cells #[.int .i64 l, .int .i64 s, .int .i64 k, .int .u32 d] 24)) l2
  unfold pv at *
  by_cases h0 : codeC l s k = 0
  · rw [h0] at C
    by_cases h2 : (n : Int) = k
    · have hlen := h.1
      have e : gfitC l s k rows = if lenB s.toNat rows = false then 4 else 0 := by simp [gfitC, h0, hlen, h2]
      obtain ⟨L, S, K, rfl, rfl, rfl, _⟩ := plan_nat h0
      have t : ((n : Int) != (K : Int)) = false := by rw [h2]; simp
      obtain ⟨q, hq⟩ : ∃ q, gfitC L S K rows = q := ⟨_, rfl⟩
      rw [Int.toNat_natCast] at e
      have HQ := Lib.hid (hq.symm.trans e)
      rw [hq]
      have Hl := Lib.hid hlen
      have hR := Lib.hid fun W (hW : Below w.heap.size w W) => h.step hW
      clear e hq hlen h0 h2 h
      go_enter Try.func29, Try.ntmps29
      go_wp2_with fail
      with_reducible refine C.mono ?_
      rintro e w1 ⟨rfl, b1⟩
      replace hb := bstep hb b1
      replace hg := hg.below b1 hg.lt
      have hR1 := hR.out w1 hb
      obtain ⟨a0, a1, a2, a3, _⟩ := cells4 hg
      clear C b1 hR
      go_wp2_with fail
      go_loop [20] (fun i => ∃ j : Nat, j ≤ n ∧ i = .int .i64 j ∧ Hid (prefixLen S rows j)) (fun i => n - (intOf i).toNat)
      case atStart => exact ⟨0, by omega, rfl, Lib.hid rfl⟩
      case round =>
        obtain ⟨j, hj, rfl, hp⟩ := hrel
        by_cases hlt : j < n
        · obtain ⟨b, off, Ak, ck, rfl, _, hc, _⟩ := hR1.at_ hlt
          by_cases he : (rows[j]?.getD []).length = S
          · have t : (((rows[j]?.getD []).length : Int) != (S : Int)) = false := by rw [he]; simp
            have Hp := Lib.hid (prefixLen_succ hp.out (by rw [Hl.out]; exact hlt) he)
            clear he
            go_wp2_with fail
            go_round
            case rel => exact ⟨j + 1, by omega, by go_num, Hp⟩
            case measure => simp [intOf]; omega
          · have t : (((rows[j]?.getD []).length : Int) != (S : Int)) = true := by rw [bne_iff_ne]; omega
            have Hf := Lib.hid (len_false (by rw [Hl.out]; exact hlt) he)
            clear he
            go_wp2_with fail
            go_ret
            exact ⟨ret_int (by rw [HQ.out, Hf.out]; rfl), hb⟩
        · obtain rfl : j = n := by omega
          have Hf := Lib.hid (prefixLen_all hp.out Hl.out)
          go_wp2_with fail
          go_ret
          exact ⟨ret_int (by rw [HQ.out, Hf.out]; rfl), hb⟩
    · have e : gfitC l s k rows = 5 := by
        unfold gfitC; rw [if_neg (by omega), if_pos (by rw [h.1]; exact h2)]
      have t : ((n : Int) != k) = true := by rw [bne_iff_ne]; exact h2
      rw [e]
      clear e h2 h0 h
      go_enter Try.func29, Try.ntmps29
      go_wp2_with fail
      with_reducible refine C.mono ?_
      rintro e w1 ⟨rfl, b1⟩
      obtain ⟨a0, a1, a2, a3, _⟩ := cells4 (hg.below b1 hg.lt)
      go_wp2_with fail
      go_ret
      exact ⟨rfl, bstep hb b1⟩
  · have e : gfitC l s k rows = codeC l s k := by simp [gfitC, h0]
    have t := ne_code h0
    rw [e]
    clear e h0 h
    generalize codeC l s k = m at *
    go_enter Try.func29, Try.ntmps29
    go_wp2_with fail
    with_reducible refine C.mono ?_
    rintro e w1 ⟨rfl, b1⟩
    go_wp2_with fail
    go_ret
    exact ⟨rfl, bstep hb b1⟩
/-! ### Join -/
def JoinEnds (L : Nat) (us : List UInt8) (w : World) (e : Ending) (w' : World) : Prop := ∃ g, e = .returned (.tuple #[.slice (some ⟨g, 0, none⟩) L L, .int .i64 0]) ∧ Blk w' g 5 (bvs us).toArray ∧ Below w.heap.size w w'
theorem gjoin_bad {l s k d : Int} {A : Option Addr} {n c : Nat} {rows : List (List UInt8)} {w : World} (h : Rds w w.heap.size A n rows) (hn : n ≤ 9223372036854775807) (l2 : l ≤ 9223372036854775807) (hf : gfitC l s k rows ≠ 0) :
    Calls Try.prog 19 #[pv l s k d, .slice A n c] w (GridEnds (.tuple #[.slice none 0 0, .int .i64 (gfitC l s k rows)]) w) := by
  have hb := balloc w (.cells #[.int .i64 l, .int .i64 s, .int .i64 k, .int .u32 d] 24)
  have C := gfit_any (l := l) (s := s) (k := k) (d := d) (c := c) (h.step hb) hn l2
  have t := ne_code hf
  unfold pv at *
  clear hf h
  generalize gfitC l s k rows = m at *
  go_enter Try.func19, Try.ntmps19
  go_wp2_with fail
  with_reducible refine C.mono ?_
  rintro e w1 ⟨rfl, b1⟩
  clear C
  go_wp2_with fail
  go_ret2
  exact ⟨rfl, bstep hb b1⟩
set_option maxHeartbeats 1000000 in
theorem gjoin_ok {A : Option Addr} {L S K c : Nat} {d : Int} {rows : List (List UInt8)} {w : World} (h : Rds w w.heap.size A K rows) (hf : gfitC L S K rows = 0) :
    Calls Try.prog 19 #[pv L S K d, .slice A K c] w (JoinEnds L (rows.flatten.take L) w) := by
  have hb := balloc w (.cells #[.int .i64 L, .int .i64 S, .int .i64 K, .int .u32 d] 24)
  have hg := Blk.new w 24 #[.int .i64 L, .int .i64 S, .int .i64 K, .int .u32 d]
  obtain ⟨f1, f2, f3⟩ := gfit_ok hf
  rw [Int.toNat_natCast] at f3
  obtain ⟨L', S', K', e1, e2, e3, p1, p2, p3, p4, p5, p6, p7⟩ := plan_nat f1
  have e1' : L = L' := by omega
  have e2' : S = S' := by omega
  have e3' : K = K' := by omega
  subst e1' e2' e3'
  have hM := room_mul p2 p4
  have C := gfit_any (l := (L : Int)) (s := (S : Int)) (k := (K : Int)) (d := d) (c := c) (h.step hb) (by omega) (by omega)
  rw [hf] at C
  have hmk : Hid (∀ W, (Instr.makeSlice 25 (.int .i64 (L : Int)) (.int .i64 (L : Int))).run Try.prog W = .ok (.slice (some ⟨W.heap.size, 0, none⟩) L L) (W.alloc (.cells (bvs (nulls L)).toArray 5))) := Lib.hid fun W => make_bytes L (by omega) W
  have HP := Lib.hid fun i (hi : i < K) => below_plan p6 p7 hi
  have HP1 := Lib.hid p6
  have HP0 := Lib.hid p7
  have HF := Lib.hid f3
  have HN := Lib.hid h.1
  have hk0 : rows.take K = rows := List.take_of_length_le (by rw [h.1]; exact Nat.le_refl _)
  have HE := Lib.hid (show rows.flatten.take L = cutTo L (rows.take K).flatten by
    have := flat_take_len f3 (k := K) (by rw [h.1]; exact Nat.le_refl _)
    rw [hk0] at this ⊢
    rw [cutTo_le (by omega)])
  clear hk0
  have hR := Lib.hid fun W (hW : Below w.heap.size w W) => h.step hW
  clear e1 e2 e3 f1 f2 f3 p6 p7 hf h
  unfold pv at C ⊢
  go_enter Try.func19, Try.ntmps19
  go_wp2_with fail
  with_reducible refine C.mono ?_
  rintro e w1 ⟨rfl, b1⟩
  replace hb := bstep hb b1
  replace hg := hg.below b1 hg.lt
  clear C b1
  have hk1 := hmk.out w1
  have ho := Blk.new w1 5 (bvs (nulls L)).toArray
  have hb1 := bstep hb (balloc w1 (.cells (bvs (nulls L)).toArray 5))
  have hg1 := hg.alloc (.cells (bvs (nulls L)).toArray 5)
  have hlt1 := hg.lt
  have hz1 := hb.size
  obtain ⟨a0, a1, a2, a3, _⟩ := cells4 hg
  go_wp2_with fail
  clear a0 a1 a2 a3 hk1 hmk hg hb
  go_loopw [21] (fun i wr => ∃ k : Nat, k ≤ K ∧ i = .int .i64 k ∧ Hid (Blk wr w1.heap.size 5 (bvs (cutTo L (rows.take k).flatten)).toArray) ∧ Blk wr w.heap.size 24 #[.int .i64 L, .int .i64 S, .int .i64 K, .int .u32 d] ∧ Below w.heap.size w wr) (fun i _ => K - (intOf i).toNat)
  case atStart => exact ⟨0, by omega, rfl, Lib.hid (by simpa [cutTo] using ho), hg1, hb1⟩
  case round =>
    clear ho hg1 hb1
    obtain ⟨wo, rfl⟩ : ∃ wo : World, wo = wr := ⟨_, rfl⟩
    obtain ⟨k, hk, rfl, ho, hg, hb⟩ := hrel
    by_cases hlt : k < K
    · obtain ⟨b, o, Ak, ck, rfl, hbB, hcell, hrk⟩ := (hR.out wo hb).at_ hlt
      have hlen : (rows[k]?.getD []).length = S := lenB_get HF.out (by rw [HN.out]; exact hlt)
      have HT := Lib.hid (flat_take_next (rows := rows) (k := k) (by rw [HN.out]; exact hlt))
      have Hx := Lib.hid (flat_take_len HF.out (k := k) (by rw [HN.out]; exact hk))
      rw [hlen] at hcell hrk
      have Hy := Lib.hid hlen
      have hpL := HP.out k hlt
      have hpb : k * S ≤ 268431360 := Nat.le_trans (Nat.mul_le_mul_right S hk) hM
      have Hw : Hid (wrap64 ((k : Int) * (S : Int)) = ((k * S : Nat) : Int)) := Lib.hid (by rw [← Int.natCast_mul]; exact IntWalk.wrap64_in _ ⟨by omega, by omega⟩)
      have hp0 : k * S < L ∨ k * S = 0 ∧ L = 0 := by
        by_cases hl : 1 ≤ L
        · left
          have h1 := HP1.out hl
          have h2 := Nat.mul_le_mul_right S (show k ≤ K - 1 by omega)
          omega
        · right
          have h1 := HP0.out (by omega)
          obtain rfl : k = 0 := by omega
          simp; omega
      have Hs := Lib.hid (cutTo_splice (L := L) (m := L - k * S) Hx.out Hy.out (by omega))
      rw [HT.out] at Hs
      have Hcl := Lib.hid (cutTo_len L (rows.take k).flatten)
      generalize rows[k]?.getD [] = y at *
      generalize (rows.take k).flatten = x at *
      clear hlen hM
      generalize k * S = p at *
      obtain ⟨a0, a1, a2, a3, _⟩ := cells4 hg
      have ho2 := ho.out
      have hz := hb.size
      rcases hp0 with hp0 | ⟨rfl, rfl⟩
      · have hpl : p ≤ L := by omega
        have hne : ¬ L = p := by omega
        have hsum : p + (L - p) ≤ (cutTo L x).length := by rw [Hcl.out]; omega
        have hw := Hw.out
        go_wp2_with ((with_reducible refine at_copy ?_); refine copy_at (B := wo.heap.size) rfl (.tmp 31) (.tmp 32) rfl w1.heap.size p (L - p) (L - p) S ck Ak (cutTo L x) y rfl rfl ?c1 hsum ?c2 w1.heap.size wo ?c3 ?c4 ?_)
        any_goals first | with_reducible exact ho2 | with_reducible exact Nat.le_refl _ | with_reducible exact Below.refl _ _ | with_reducible exact hrk
        intro w2 hg2 hb2
        rw [Hs.out] at hg2
        have HO := Lib.hid hg2
        have hg3 := hg.below hb2 hlt1
        have hb3 := hb.trans (hb2.mono hz1)
        clear hg2 hb2 ho2 hrk hcell a0 a1 a2 a3 hw hz
        go_wp2_with fail
        go_roundw
        case rel => exact ⟨k + 1, by omega, by go_num, HO, hg3, hb3⟩
        case measure => simp [intOf]; omega
      · have hsum : 0 + 0 ≤ (cutTo 0 x).length := by rw [Hcl.out]; omega
        have hw := Hw.out
        go_wp2_with ((with_reducible refine at_copy ?_); refine copy_at (B := wo.heap.size) rfl (.tmp 31) (.tmp 32) rfl w1.heap.size 0 0 0 S ck Ak (cutTo 0 x) y rfl rfl ?d1 hsum ?d2 w1.heap.size wo ?d3 ?d4 ?_)
        any_goals first | with_reducible exact ho2 | with_reducible exact Nat.le_refl _ | with_reducible exact Below.refl _ _ | with_reducible exact hrk
        intro w2 hg2 hb2
        have h00 : ∀ z, cutTo 0 z = [] := fun z => by simp [cutTo, nulls]
        have HO : Hid (Blk w2 w1.heap.size 5 (bvs (cutTo 0 (rows.take (k + 1)).flatten)).toArray) := Lib.hid (by rw [h00] at hg2 ⊢; exact hg2)
        clear h00
        have hg3 := hg.below hb2 hlt1
        have hb3 := hb.trans (hb2.mono hz1)
        clear hg2 hb2 ho2 hrk hcell a0 a1 a2 a3 hw hz
        go_wp2_with fail
        go_roundw
        case rel => (repeat apply Exists.intro); exact ⟨⟨k + 1, by omega, by go_num, HO, hg3, hb3⟩, rfl⟩
        case measure => simp [intOf]; omega
    · obtain rfl : k = K := by omega
      clear hlt
      go_wp2_with fail
      go_ret2
      exact ⟨_, rfl, by rw [HE.out]; exact ho.out, hb⟩
/-! ### Clean -/
theorem gclean_bad {l s k d : Int} {A : Option Addr} {n c : Nat} {rows : List (List UInt8)} {w : World} (h : Rds w w.heap.size A n rows) (hn : n ≤ 9223372036854775807) (l2 : l ≤ 9223372036854775807) (hf : gfitC l s k rows ≠ 0) :
    Calls Try.prog 21 #[pv l s k d, .slice A n c] w (GridEnds (.bool false) w) := by
  have hb := balloc w (.cells #[.int .i64 l, .int .i64 s, .int .i64 k, .int .u32 d] 24)
  have C := gfit_any (l := l) (s := s) (k := k) (d := d) (c := c) (h.step hb) hn l2
  have t := ne_code hf
  unfold pv at *
  clear hf h
  generalize gfitC l s k rows = m at *
  go_enter Try.func21, Try.ntmps21
  go_wp2_with fail
  with_reducible refine C.mono ?_
  rintro e w1 ⟨rfl, b1⟩
  clear C
  go_wp2_with fail
  go_ret
  exact ⟨rfl, bstep hb b1⟩
theorem last_flat {L S K : Nat} {rows : List (List UInt8)} (hl : lenB S rows = true) (hn : rows.length = K) (h1 : 1 ≤ K) (h2 : L ≤ K * S) (h3 : (K - 1) * S ≤ L) : rows.flatten.drop L = (rows[K - 1]?.getD []).drop (S - (K * S - L)) := by
  have e1 : rows = rows.take (K - 1) ++ [rows[K - 1]?.getD []] := by
    rw [take_get [] (by omega), List.take_of_length_le (by omega)]
  have e2 : rows.flatten = (rows.take (K - 1)).flatten ++ (rows[K - 1]?.getD []) := by
    have := congrArg List.flatten e1
    rw [List.flatten_append] at this
    simpa using this
  have e3 := flat_take_len hl (k := K - 1) (by omega)
  have e4 : K * S = (K - 1) * S + S := by
    obtain ⟨k, rfl⟩ : ∃ k, K = k + 1 := ⟨K - 1, by omega⟩
    rw [Nat.succ_mul]; simp
  rw [e2, List.drop_append, List.drop_eq_nil_of_le (by omega), List.nil_append, e3]
  congr 1
  omega
set_option maxHeartbeats 600000 in
theorem gclean_ok {A : Option Addr} {L S K c : Nat} {d : Int} {rows : List (List UInt8)} {w : World} (h : Rds w w.heap.size A K rows) (hcaps : Caps w w.heap.size A K) (hf : gfitC L S K rows = 0) :
    Calls Try.prog 21 #[pv L S K d, .slice A K c] w (GridEnds (.bool (zeroB (rows.flatten.drop L))) w) := by
  have hb := balloc w (.cells #[.int .i64 L, .int .i64 S, .int .i64 K, .int .u32 d] 24)
  have hg := Blk.new w 24 #[.int .i64 L, .int .i64 S, .int .i64 K, .int .u32 d]
  obtain ⟨f1, f2, f3⟩ := gfit_ok hf
  rw [Int.toNat_natCast] at f3
  obtain ⟨L', S', K', e1, e2, e3, p1, p2, p3, p4, p5, p6, p7⟩ := plan_nat f1
  have e1' : L = L' := by omega
  have e2' : S = S' := by omega
  have e3' : K = K' := by omega
  subst e1' e2' e3'
  have hM := room_mul p2 p4
  have hK1 : (K - 1) * S ≤ L := by
    by_cases hl : 1 ≤ L
    · have := p6 hl; omega
    · have := p7 (by omega)
      subst this
      simp
  have C := gfit_any (l := (L : Int)) (s := (S : Int)) (k := (K : Int)) (d := d) (c := c) (h.step hb) (by omega) (by omega)
  rw [hf] at C
  have hlen : (rows[K - 1]?.getD []).length = S := lenB_get f3 (by rw [h.1]; omega)
  have e4 : K * S = (K - 1) * S + S := by
    obtain ⟨k, rfl⟩ : ∃ k, K = k + 1 := ⟨K - 1, by omega⟩
    rw [Nat.succ_mul]; simp
  have HE := Lib.hid (last_flat f3 h.1 p3 p5 hK1)
  have CP := Lib.hid fun V => ppad_any (l := (L : Int)) (s := (S : Int)) (k := (K : Int)) (d := d) (w := V) (by omega)
  have hp : padC L S K = ((K * S - L : Nat) : Int) := by simp [padC, f1]; omega
  rw [hp] at CP
  have hR := Lib.hid fun W (hW : Below w.heap.size w W) => Caps.at_ (h.step hW) (hcaps.step hW) (show K - 1 < K by omega)
  rw [hlen] at hR
  have Hlen := Lib.hid hlen
  obtain ⟨P, hP⟩ : ∃ P, K * S - L = P := ⟨_, rfl⟩
  rw [hP] at CP HE
  have hPS : P ≤ S := by omega
  clear e1 e2 e3 f1 f2 f3 p5 p6 p7 hf h hcaps hK1 e4 hp hM hP hlen
  generalize rows[K - 1]?.getD [] = y at *
  have hK0 : (1 : Int) ≤ (K : Int) := by omega
  have hkk : ((K : Int) - 1) = ((K - 1 : Nat) : Int) := by omega
  unfold pv at C CP ⊢
  go_enter Try.func21, Try.ntmps21
  go_wp2_with fail
  with_reducible refine C.mono ?_
  rintro e w1 ⟨rfl, b1⟩
  replace hb := bstep hb b1
  replace hg := hg.below b1 hg.lt
  obtain ⟨b, o, Ak, ck, rfl, hbB, hcell, hry, hc1, hc2⟩ := hR.out w1 hb
  clear C b1 hR
  obtain ⟨a0, a1, a2, a3, _⟩ := cells4 hg
  have ht1 : ((K : Int) - 1).toNat = K - 1 := by omega
  have ht2 : o + K - 1 = o + (K - 1) := by omega
  have hlt : K - 1 < K := by omega
  have HS : Hid (∀ W, Below w1.heap.size w1 W → Below w1.heap.size w1 W ∧ W.cell? ⟨w.heap.size, 0, none⟩ = some (.int .i64 L) ∧ W.cell? ⟨w.heap.size, 1, none⟩ = some (.int .i64 S) ∧ W.cell? ⟨w.heap.size, 2, none⟩ = some (.int .i64 K) ∧ W.cell? ⟨w.heap.size, 3, none⟩ = some (.int .u32 d)) := Lib.hid fun W hW => by
    obtain ⟨a, b, c, d, _⟩ := cells4 (hg.below hW hg.lt)
    exact ⟨hW, a, b, c, d⟩
  have hsp : (S : Int) - (P : Int) = ((S - P : Nat) : Int) := by omega
  have hq : S - P ≤ S := by omega
  have HSP := Lib.hid hsp
  go_wp2_with fail
  clear ht1 ht2 a0 a1 a2 a3 hcell
  have hx1 : S - (S - P) = P := by omega
  by_cases hce : ck = S - P
  · have hP0 : P = 0 := by omega
    have hw1 : IntKind.i64.wrap ((S : Int) - (P : Int)) = ((S - P : Nat) : Int) := by rw [hsp]; exact IntWalk.i64_in _ ⟨by omega, by omega⟩
    have HC : Hid (∀ W, Below w1.heap.size w1 W → Rd W 0 Ak P (y.drop (S - P))) := Lib.hid fun W _ => by
      have := Rd.part_none (w := W) (B := 0) (A := Ak) (us := y) (m := S - P) (by rw [Hlen.out]; omega)
      rwa [hP0] at this ⊢
    subst hce
    clear hry hsp hP0
    go_region_held3 (fun W => Below w1.heap.size w1 W ∧ W.cell? ⟨w.heap.size, 0, none⟩ = some (.int .i64 L) ∧ W.cell? ⟨w.heap.size, 1, none⟩ = some (.int .i64 S) ∧ W.cell? ⟨w.heap.size, 2, none⟩ = some (.int .i64 K) ∧ W.cell? ⟨w.heap.size, 3, none⟩ = some (.int .u32 d))
      ((refine HS.out _ ?_; first | exact (Below.refl _ _).drew | assumption))
      (first
        | (go_at_call 30; (with_reducible refine (CP.out _).mono ?_); rintro e w7 ⟨rfl, b7⟩; have kB7 := bstep (And.left ‹Below w1.heap.size w1 _ ∧ _›) b7)
        | (go_at_call 31; (with_reducible refine (vzero_any (c := 0) (HC.out _ kB7) (by omega)).mono ?_); rintro e w8 ⟨rfl, rfl⟩))
    go_wp2_with fail
    go_ret
    exact ⟨ret_bool (by rw [HE.out]), bstep hb kB7⟩
  · obtain ⟨b2, o2, rfl, _, _⟩ := hry.at_ (show 0 < S by omega)
    have hq2 := hry.part_last (m := S - P) hq
    rw [hx1] at hq2
    have hw1 : IntKind.i64.wrap ((S : Int) - (P : Int)) = ((S - P : Nat) : Int) := by rw [hsp]; exact IntWalk.i64_in _ ⟨by omega, by omega⟩
    have HC : Hid (∀ W, Below w1.heap.size w1 W → Rd W W.heap.size (some ⟨b2, o2 + (S - P), none⟩) P (y.drop (S - P))) := Lib.hid fun W hW => hq2.step hW
    clear hq2 hry hsp
    go_region_held3 (fun W => Below w1.heap.size w1 W ∧ W.cell? ⟨w.heap.size, 0, none⟩ = some (.int .i64 L) ∧ W.cell? ⟨w.heap.size, 1, none⟩ = some (.int .i64 S) ∧ W.cell? ⟨w.heap.size, 2, none⟩ = some (.int .i64 K) ∧ W.cell? ⟨w.heap.size, 3, none⟩ = some (.int .u32 d))
      ((refine HS.out _ ?_; first | exact (Below.refl _ _).drew | assumption))
      (first
        | (go_at_call 30; (with_reducible refine (CP.out _).mono ?_); rintro e w7 ⟨rfl, b7⟩; have kB7 := bstep (And.left ‹Below w1.heap.size w1 _ ∧ _›) b7)
        | (go_at_call 31; (with_reducible refine (vzero_any (c := ck - (S - P)) (HC.out _ kB7) (by omega)).mono ?_); rintro e w8 ⟨rfl, rfl⟩))
    go_wp2_with fail
    go_ret
    exact ⟨ret_bool (by rw [HE.out]), bstep hb kB7⟩
end Go.Proofs.Ytheohcebiimdoaa
