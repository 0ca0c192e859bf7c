import Derived.Test.YtilelmejpbnbnaaGridG
/- A grid turned, by the program and by the document. -/
namespace Go.Proofs.Ytilelmejpbnbnaa
open Go.RowKit
set_option linter.unusedVariables false
set_option maxRecDepth 100000

theorem strB_get (us : List UInt8) (k : Nat) (h : k < (strB us).size) : (strB us)[k] = us[k]?.getD 0 := by
  have hk : k < us.length := by simpa [strB, ByteArray.size] using h
  rw [List.getElem?_eq_getElem hk]
  rfl
def colL (rows : List (List UInt8)) (j : Nat) : List UInt8 := rows.map fun r => r[j]?.getD 0
def turnL (n : Nat) (rows : List (List UInt8)) : List (List UInt8) := (List.range n).map (colL rows)
theorem colL_len (rows : List (List UInt8)) (j : Nat) : (colL rows j).length = rows.length := by simp [colL]
theorem turnL_len (n : Nat) (rows : List (List UInt8)) : (turnL n rows).length = n := by simp [turnL]
theorem turnL_at {n j : Nat} {rows : List (List UInt8)} (h : j < n) : (turnL n rows)[j]?.getD [] = colL rows j := by simp [turnL, h]
theorem turnL_lenB (n : Nat) (rows : List (List UInt8)) : lenB rows.length (turnL n rows) = true := by
  unfold lenB
  rw [List.all_eq_true]
  intro r hr
  obtain ⟨i, _, rfl⟩ := List.mem_map.1 hr
  simp [colL_len]
theorem turnL_ok {n : Nat} {rows : List (List UInt8)} (h : GridOk n rows) : GridOk rows.length (turnL n rows) :=
  ⟨turnL_lenB _ _, h.2.2.1, by rw [turnL_len]; exact h.2.1, by rw [turnL_len, Nat.mul_comm]; exact h.2.2.2⟩
/-- What stands behind j columns and i bytes. -/
def turnTo (n : Nat) (rows : List (List UInt8)) (j i : Nat) : List UInt8 := ((turnL n rows).take j).flatten ++ (colL rows j).take i
theorem turnTo_zero (n : Nat) (rows : List (List UInt8)) : turnTo n rows 0 0 = [] := by simp [turnTo]
theorem turnTo_byte {n j i : Nat} {rows : List (List UInt8)} (hi : i < rows.length) : turnTo n rows j i ++ [(rows[i]?.getD [])[j]?.getD 0] = turnTo n rows j (i + 1) := by
  unfold turnTo
  rw [List.append_assoc]
  congr 1
  have := take_get (l := colL rows j) (k := i) 0 (by rw [colL_len]; exact hi)
  rw [← this]
  congr 2
  simp [colL, hi]
theorem turnTo_row {n j : Nat} {rows : List (List UInt8)} (hj : j < n) : turnTo n rows j rows.length = turnTo n rows (j + 1) 0 := by
  unfold turnTo
  have e : (colL rows j).take rows.length = colL rows j := List.take_of_length_le (by rw [colL_len]; exact Nat.le_refl _)
  rw [e, List.take_zero, List.append_nil, ← take_get [] (by rw [turnL_len]; exact hj), List.flatten_append, turnL_at hj]
  simp
theorem turnTo_all {n : Nat} {rows : List (List UInt8)} : turnTo n rows n 0 = (turnL n rows).flatten := by
  unfold turnTo
  rw [List.take_of_length_le (by rw [turnL_len]; exact Nat.le_refl _)]
  simp
theorem turnTo_len {n j i : Nat} {rows : List (List UInt8)} (h : GridOk n rows) (hj : j ≤ n) (hi : i ≤ rows.length) (hij : j < n ∨ i = 0) : (turnTo n rows j i).length ≤ 65536 := by
  have h1 := (turnL_ok h).flat
  have h2 : (turnTo n rows j i).length ≤ (turnL n rows).flatten.length := by
    rcases hij with hij | rfl
    · have e : (turnL n rows).flatten = turnTo n rows j i ++ ((colL rows j).drop i ++ ((turnL n rows).drop (j + 1)).flatten) := by
        unfold turnTo
        conv => lhs; rw [← List.take_append_drop j (turnL n rows), List.drop_eq_getElem_cons (by rw [turnL_len]; exact hij), List.flatten_append, List.flatten_cons]
        have : (turnL n rows)[j]'(by rw [turnL_len]; exact hij) = colL rows j := by simp [turnL]
        rw [this, List.append_assoc, ← List.append_assoc ((colL rows j).take i), List.take_append_drop]
      rw [e, List.length_append]; omega
    · unfold turnTo
      rw [List.take_zero, List.append_nil]
      conv => rhs; rw [← List.take_append_drop j (turnL n rows), List.flatten_append, List.length_append]
      omega
  omega
theorem flat_at {k i j : Nat} {rows : List (List UInt8)} (h : lenB k rows = true) (hi : i < rows.length) (hj : j < k) : rows.flatten[i * k + j]?.getD 0 = (rows[i]?.getD [])[j]?.getD 0 := by
  rw [← flat_row h hi, List.getElem?_take, if_pos hj, List.getElem?_drop]
theorem make_own_bytes (n : Nat) (hn : n ≤ 140737488355328) (w : World) {base : Nat} (hb : base ≤ w.heap.size) : ∃ w', (Instr.makeSlice 52 (.int .i64 0) (.int .i64 (n : Int))).run Try.prog w = .ok (.slice (some ⟨w.heap.size, 0, none⟩) 0 n) w' ∧
    w'.ownsRow base 5 1 (.slice (some ⟨w.heap.size, 0, none⟩) 0 n) 0 (bvs []) ∧ Below w.heap.size w w' := by
  obtain ⟨i0, hi0, hz0, hz1, hz2⟩ := info_parts byte_info
  obtain ⟨w', h1, h2, h3⟩ := run_make_own (P := Try.prog) w base 52 5 i0 _ 1 Try.underlying52 hi0 hz0 hz1 .i64 .i64 n (by rw [hz2]; omega) (by unfold maxLen; omega) hb
  exact ⟨w', h1, h2, (Below.refl _ _).grown h3 (Nat.le_refl _) (by intro k hk; cases hk)⟩
theorem gturned_any {n : Nat} {rows : List (List UInt8)} {w : World} (h : GridOk n rows) : Calls Try.prog 14 #[gv n rows] w (GridEnds (gv rows.length (turnL n rows)) w) := by
  obtain ⟨H, hH⟩ : ∃ H, rows.length = H := ⟨_, rfl⟩
  have HL := Lib.hid hH
  have Hok := Lib.hid h
  have hr : H ≤ 65536 := by rw [← hH]; exact h.2.2.1
  have hn : n ≤ 65536 := h.2.1
  have hgv : gv n rows = .agg #[.int .i64 (H : Int), .int .i64 (n : Int), .string (strB rows.flatten)] := by rw [gv, hH]
  obtain ⟨hb0, hg, hq⟩ := two_alloc (w := w) (T := 26) (T2 := 26) (cs := #[.int .i64 (H : Int), .int .i64 (n : Int), .string (strB rows.flatten)]) (cs2 := #[.int .i64 0, .int .i64 0, .string { data := #[] }])
  obtain ⟨hc0, hc1, hc2, hf0, hf1, hf2⟩ := cells3 hg
  have hsz : (strB rows.flatten).size = H * n := by rw [← hH, ← flat_len h.1]; simp [strB, ByteArray.size]
  have hmax : H * n ≤ 65536 := by rw [← hH]; exact h.2.2.2
  obtain ⟨M, hM⟩ : ∃ M, (strB rows.flatten).size = M := ⟨_, rfl⟩
  have HM := Lib.hid hM
  have hM6 : M ≤ 65536 := by omega
  obtain ⟨W, hmk, hown, hbm⟩ := make_own_bytes M (by omega) ((w.alloc (.cells #[.int .i64 (H : Int), .int .i64 (n : Int), .string (strB rows.flatten)] 26)).alloc (.cells #[.int .i64 0, .int .i64 0, .string { data := #[] }] 26)) (base := w.heap.size + 2) (by simp)
  rw [hgv]
  have hlen : ((strB rows.flatten).size : Int) = (M : Int) := by rw [hM]
  replace hb0 := bstep hb0 hbm
  replace hg := hg.below hbm hg.lt
  replace hq := hq.below hbm hq.lt
  clear hH h hsz hmax hgv hM hbm
  obtain ⟨hd0, hd1, hd2, he0, he1, he2⟩ := cells3 hg
  go_enter Try.func14, Try.ntmps14
  go_wp2_with fail
  clear hc0 hc1 hc2 hf0 hf1 hf2 hd0 hd1 hd2 he0 he1 he2 hmk hlen
  go_loopw [3, 12] (fun v x wr => ∃ j : Nat, j ≤ n ∧ x = .int .i64 j ∧ wr.ownsRow (w.heap.size + 2) 5 1 v (turnTo n rows j 0).length (bvs (turnTo n rows j 0)) ∧ Blk wr w.heap.size 26 #[.int .i64 (H : Int), .int .i64 (n : Int), .string (strB rows.flatten)] ∧ Blk wr (w.heap.size + 1) 26 #[.int .i64 0, .int .i64 0, .string { data := #[] }] ∧ Below w.heap.size w wr) (fun _ x _ => n - (intOf x).toNat)
  case atStart => exact ⟨0, by omega, rfl, by rw [turnTo_zero]; simpa using hown, hg, hq, hb0⟩
  case round =>
    clear hown hg hq hb0
    obtain ⟨j, hj, rfl, hown, hg, hq, hb⟩ := hrel
    obtain ⟨hd0, hd1, hd2, he0, he1, he2⟩ := cells3 hg
    by_cases hjn : j < n
    · go_wp2_with fail
      go_loopw [3, 17] (fun v x wr => ∃ i : Nat, i ≤ H ∧ x = .int .i64 i ∧ wr.ownsRow (w.heap.size + 2) 5 1 v (turnTo n rows j i).length (bvs (turnTo n rows j i)) ∧ Blk wr w.heap.size 26 #[.int .i64 (H : Int), .int .i64 (n : Int), .string (strB rows.flatten)] ∧ Blk wr (w.heap.size + 1) 26 #[.int .i64 0, .int .i64 0, .string { data := #[] }] ∧ Below w.heap.size w wr) (fun _ x _ => H - (intOf x).toNat)
      case atStart => exact ⟨0, by omega, rfl, hown, hg, hq, hb⟩
      case round =>
        clear hown hg hq hb hd0 hd1 hd2 he0 he1 he2
        obtain ⟨i, hi, rfl, hown, hg, hq, hb⟩ := hrel
        obtain ⟨hd0, hd1, hd2, he0, he1, he2⟩ := cells3 hg
        by_cases hiH : i < H
        · obtain ⟨p, hp⟩ : ∃ p, i * n = p := ⟨_, rfl⟩
          have hle : (i + 1) * n ≤ H * n := Nat.mul_le_mul_right _ hiH
          rw [Nat.succ_mul, hp] at hle
          have hsz : (strB rows.flatten).size = H * n := by rw [← HL.out, ← flat_len Hok.out.1]; simp [strB, ByteArray.size]
          have hMH : H * n = M := by rw [← hsz, HM.out]
          have hpj : p + j < M := by omega
          have hpj2 : p + j < (strB rows.flatten).size := by rw [HM.out]; exact hpj
          have hval0 : (strB rows.flatten)[p + j]'hpj2 = (rows[i]?.getD [])[j]?.getD 0 := by
            rw [← flat_at Hok.out.1 (by rw [HL.out]; exact hiH) hjn, hp]
            exact strB_get _ _ _
          have HT := Lib.hid (turnTo_byte (n := n) (j := j) (rows := rows) (i := i) (by rw [HL.out]; exact hiH))
          have hlb : (turnTo n rows j i).length ≤ 65536 := turnTo_len Hok.out hj (by rw [HL.out]; omega) (.inl hjn)
          have q6 : p ≤ 65536 := by omega
          have hpI : (p : Int) ≤ 65536 := by omega
          have hjI : (j : Int) ≤ 65536 := by omega
          have hz := hb.size
          generalize (rows[i]?.getD [])[j]?.getD 0 = u at hval0 HT
          have hval : (((strB rows.flatten)[p + j]'hpj2).toNat : Int) = bv u := by rw [hval0]; rfl
          have hown0 := hown.alloc (.cells #[.int .u8 (bv u)] 5)
          have hgl := hq.lt
          obtain ⟨ln, hl0⟩ : ∃ ln, (turnTo n rows j i).length = ln := ⟨_, rfl⟩
          have hl1 : (turnTo n rows j (i + 1)).length = ln + 1 := by rw [← HT.out, List.length_append, hl0]; rfl
          rw [hl0] at hlb hown0
          have HL1 := Lib.hid hl1
          have hln : ln + 1 ≤ 140737488355328 := by omega
          clear hl0 hl1 hown hlb
          generalize turnTo n rows j i = us at *
          have hbs : w.heap.size + 2 ≤ (wr.alloc (.cells #[.int .u8 (bv u)] 5)).heap.size := by simp; omega
          have HZ := Lib.hid hz
          have HGL := Lib.hid hgl
          have HLN := Lib.hid hln
          have HBS := Lib.hid hbs
          have HOWN := Lib.hid hown0
          have hw := wrap_mul hp q6
          clear hle hsz hMH hp q6 hpj hval0 hz hgl hln hbs hown0
          go_wp2_with (at_builtin; refine push_byte rfl (.tmp 20) (.tmp 30) rfl (w.heap.size + 2) _ ln _ u rfl HOWN.out wr.heap.size 1 rfl ?c1 HLN.out HBS.out ?_)
          case c1 => go_simp
          intro v1 w1 hown1 hb1
          clear hw HOWN HLN HBS
          have hz := HZ.out
          have hgl := HGL.out
          rw [HT.out, ← HL1.out] at hown1
          have hg1 := (hg.alloc (.cells #[.int .u8 (bv u)] 5)).below hb1 (by omega)
          have hq1 := (hq.alloc (.cells #[.int .u8 (bv u)] 5)).below hb1 (by omega)
          have hbb := (hb.alloc hz (.cells #[.int .u8 (bv u)] 5)).trans (hb1.mono (by omega))
          clear hg hq hb hb1 hd0 hd1 hd2 he0 he1 he2
          go_wp2_with fail
          go_roundw
          case rel => exact ⟨i + 1, by omega, by go_num, hown1, hg1, hq1, hbb⟩
          case measure => simp [intOf]; omega
        · obtain rfl : i = H := by omega
          have hr1 := turnTo_row (rows := rows) hjn
          rw [HL.out] at hr1
          rw [hr1] at hown
          clear hr1
          go_wp2_with fail
          go_roundw
          case rel => exact ⟨j + 1, by omega, by go_num, hown, hg, hq, hb⟩
          case measure => simp [intOf]; omega
    · obtain rfl : j = n := by omega
      rw [turnTo_all] at hown
      obtain ⟨A, c, rfl, hrd⟩ := Rd.of_own hown
      obtain ⟨L, hL⟩ : ∃ L, (turnL j rows).flatten = L := ⟨_, rfl⟩
      rw [hL] at hrd ⊢
      have hcv := convert_str (c := c) hrd
      obtain ⟨z0, z1, z2, y0, y1, y2⟩ := cells3 hq
      have HV : Hid (gv H (turnL j rows) = .agg #[.int .i64 (j : Int), .int .i64 (H : Int), .string (strB L)]) := Lib.hid (by rw [gv, turnL_len, hL])
      have HG : Hid (gv rows.length (turnL j rows) = gv H (turnL j rows)) := Lib.hid (by rw [HL.out])
      clear hown hrd hL
      go_wp2_with fail
      refine end_grid (v := gv H (turnL j rows)) hq (by intro W e0 e1 e2; rw [HV.out]; simp [results, Try.results14, go_sem, e0, e1, e2]; done) rfl fun W hl => ?_
      exact ⟨by rw [HG.out], hl.below _ _ (by omega) hb⟩
end Go.Proofs.Ytilelmejpbnbnaa
