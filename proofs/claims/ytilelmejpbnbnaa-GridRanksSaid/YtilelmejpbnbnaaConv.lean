import Derived.Test.YtilelmejpbnbnaaGridC
/- A row that a string was turned into, and one byte more behind it. -/
namespace Go.Proofs.Ytilelmejpbnbnaa
open Go.RowKit
set_option linter.unusedVariables false
set_option maxRecDepth 100000

/-- Block g holds what a string was turned into: these bytes, and room up to cap. -/
def Conv (w : World) (g cap : Nat) (us : List UInt8) : Prop := ∃ cur : Array Value, w.heap[g]? = some (.cells cur 5 (cap, cap + 1)) ∧ cur.size = cap ∧ us.length ≤ cap ∧ cur.toList.take us.length = bvs us
theorem Conv.lt {w : World} {g cap : Nat} {us : List UInt8} (h : Conv w g cap us) : g < w.heap.size := by
  obtain ⟨cur, h1, _⟩ := h
  exact (Array.getElem?_eq_some_iff.1 h1).1
theorem Conv.cell {w : World} {g cap i : Nat} {us : List UInt8} {u : UInt8} (h : Conv w g cap us) (hu : us[i]? = some u) : w.cell? ⟨g, i, none⟩ = some (.int .u8 (bv u)) := by
  obtain ⟨cur, h1, h2, h3, h4⟩ := h
  have hi := (List.getElem?_eq_some_iff.1 hu).1
  rw [cell_of_row _ g i _ _ _ h1]
  have := bvs_get us i u hu
  rw [← h4, List.getElem?_take, if_pos hi] at this
  simpa using this
theorem Conv.rd {w : World} {g cap : Nat} {us : List UInt8} (h : Conv w g cap us) : Rd w (g + 1) (some ⟨g, 0, none⟩) us.length us :=
  ⟨rfl, fun _ => ⟨g, 0, rfl, by omega, fun i u hu => by rw [Nat.zero_add]; exact h.cell hu⟩⟩
theorem Conv.below {w w' : World} {g cap : Nat} {us : List UInt8} (h : Conv w g cap us) (hb : Below w.heap.size w w') : Conv w' g cap us := by
  have hl := h.lt
  obtain ⟨cur, h1, h2⟩ := h
  exact ⟨cur, (hb.block g hl).trans h1, h2⟩
theorem bytes_conv {us : List UInt8} (w : World) : ∃ c w', (convert 9 52 (.string (strB us))).run Try.prog w = .ok (.slice (some ⟨w.heap.size, 0, none⟩) us.length c) w' ∧ Conv w' w.heap.size c us ∧ Below w.heap.size w w' := by
  have h := run_bytes_of_string (P := Try.prog) w 9 52 5 (strB us) Try.underlying9 Try.underlying52 Try.underlying5
  have hs : (strB us).size = us.length := by simp [strB, ByteArray.size]
  have hc : us.length ≤ grownCap w (strB us).size 0 5 := by rw [← hs]; exact grownCap_ge _ _ _ _
  rw [hs] at h hc
  generalize grownCap w us.length 0 5 = c at *
  have hsz : (bytesRow (strB us) c).size = c := by
    unfold bytesRow
    rw [Array.size_append, Array.size_map, Array.size_replicate, hs]
    have : (strB us).data.size = us.length := by simp [strB]
    omega
  rw [hsz] at h
  refine ⟨c, _, h, ⟨bytesRow (strB us) c, heap_alloc_new w.drew _, hsz, hc, ?_⟩, (Below.refl _ _).drew.alloc (Nat.le_refl _) _⟩
  unfold bytesRow
  rw [Array.toList_append]
  rw [List.take_append_of_le_length (by simp [strB])]
  rw [List.take_of_length_le (by simp [strB])]
  simp [strB, bvs, bv]
theorem run_conv_push {w : World} {g cap n gx c : Nat} {us : List UInt8} {u : UInt8} (ty : TypeId) (h : Conv w g cap us) (hn : us.length = n) (hx : w.cell? ⟨gx, 0, none⟩ = some (.int .u8 (bv u))) (hm : n + 1 ≤ 140737488355328) :
    ∃ A c' w', (Builtin.append_ #[52, 52] ty #[.slice (some ⟨g, 0, none⟩) n cap, .slice (some ⟨gx, 0, none⟩) 1 c]).run Try.prog w = .ok (.slice A (n + 1) c') w' ∧ Rd w' w'.heap.size A (n + 1) (us ++ [u]) ∧ w.grownBy w' (some g) := by
  subst hn
  have hrd := h.rd
  have hlt := h.lt
  have hcells := fun i u hu => h.cell (i := i) (u := u) hu
  obtain ⟨cur, h1, h2, h3, h4⟩ := h
  obtain ⟨i0, hi0, hz0, hz1, hz2⟩ := info_parts byte_info
  by_cases hr : us.length + 1 ≤ cap
  · have hf := run_firstCells_some (P := Try.prog) w i0.size 1 ⟨gx, 0, none⟩ 1 c [.int .u8 (bv u)] (by simp [hz1]) (cells_one hx)
    have hcell : w.cell? ⟨g, us.length, none⟩ = some (cur[us.length]'(by omega)) := by rw [cell_of_row _ g _ _ _ _ h1]; simp [h2, hr]
    have hfro : w.frozen? ⟨g, us.length, none⟩ = false := by
      simp only [World.frozen?, h1, Bool.and_eq_false_iff, decide_eq_false_iff_not]
      left; omega
    have hadd : (⟨g, us.length, none⟩ : Addr).add 0 = ⟨g, us.length, none⟩ := by rw [addr_add]; rfl
    have hst : (store ((⟨g, us.length, none⟩ : Addr).add 0) (.int .u8 (bv u))).run Try.prog w = .ok () (w.setCell ⟨g, us.length, none⟩ (.int .u8 (bv u))) := by
      rw [hadd, run_store Try.prog w _ (.int .u8 (bv u)) _ rfl, hcell]
      simp [hfro]
    have hss : (storeCells ⟨g, us.length, none⟩ [.int .u8 (bv u)] 0).run Try.prog w = .ok () (w.setCell ⟨g, us.length, none⟩ (.int .u8 (bv u))) := by
      simp only [storeCells, Sem.run_bind, hst, Result.andThen_ok]; rfl
    refine ⟨some ⟨g, 0, none⟩, cap, w.setCell ⟨g, us.length, none⟩ (.int .u8 (bv u)), ?_, ⟨by simp, fun _ => ⟨g, 0, rfl, ?_, fun i x hxi => ?_⟩⟩, grown_setCell (World.grownBy.refl w _) _⟩
    · simp [Builtin.append_, run_underlying Try.underlying52, sizeOf, typeInfo, hi0, hz1, Builtin.lenOf, hr, hf, Addr.add_lit, hss]
      rw [hz1] at hf
      simp [hf]
      have e : ((⟨g, 0, none⟩ : Addr).add us.length) = ⟨g, us.length, none⟩ := by rw [addr_add]; simp
      first
      | (rw [e]; simp [hss])
      | simp [hss]
    · simpa [World.setCell] using hlt
    · rw [Nat.zero_add]
      by_cases hi : i < us.length
      · rw [List.getElem?_append_left hi] at hxi
        exact (World.cell?_setCell_other w _ _ _ (by intro e; injection e with e1 e2; omega)).trans (hcells i x hxi)
      · have hi' : i = us.length := by
          have := (List.getElem?_eq_some_iff.1 hxi).1
          simp at this; omega
        subst hi'
        rw [List.getElem?_append_right (by omega)] at hxi
        simp at hxi
        subst hxi
        exact World.cell?_setCell_same w _ _ hcell
  · have hgr := run_append_grow (P := Try.prog) w 52 ty 5 i0 _ Try.underlying52 hi0 hz0 ⟨g, 0, none⟩ us.length cap (bvs us) (by rw [bvs_length, hz1]; omega) (fun j v hv => by
        have hj : j < us.length := by
          have := (List.getElem?_eq_some_iff.1 hv).1
          rwa [bvs_length] at this
        have hu := bvs_get us j us[j] (List.getElem?_eq_getElem hj)
        rw [hu] at hv
        injection hv with hv
        subst hv
        rw [addr_add, Nat.zero_add]
        exact hcells j us[j] (List.getElem?_eq_getElem hj)) ⟨gx, 0, none⟩ 1 c [.int .u8 (bv u)] (by simp [hz1]) (cells_one hx) (by omega) (by omega) (growslice_fits (by omega) (by rw [hz2]; omega))
    refine ⟨_, _, _, hgr, ⟨by simp, fun _ => ⟨w.heap.size, 0, rfl, by simp, fun i x hxi => ?_⟩⟩, ⟨rfl, rfl, rfl, by simp, fun k hk _ => heap_alloc_old w.drew _ (show k < w.drew.heap.size from hk)⟩⟩
    have hi : i < us.length + 1 := by
      have := (List.getElem?_eq_some_iff.1 hxi).1
      simpa using this
    have hnew := heap_alloc_new w.drew (.cells ((bvs us).toArray ++ #[.int .u8 (bv u)] ++ Builtin.zeroCells (Value.int .u8 0).cells (grownCap w (us.length + 1) cap 5 - (us.length + 1))) 5)
    rw [Nat.zero_add]
    refine (cell_of_row _ w.heap.size i _ _ _ hnew).trans ?_
    rw [Array.getElem?_append_left (by simp [bvs_length]; omega)]
    have e : (bvs us).toArray ++ #[Value.int .u8 (bv u)] = (bvs (us ++ [u])).toArray := by rw [bvs_snoc]; simp
    rw [e]
    simpa using bvs_get _ _ _ hxi
theorem conv_push {ops : Array Oper} {rest : List Oper} {o : Oper} {a : Act} {Q : Exit → Act → World → Prop} {w : World} (hgd : o.guard = none) (s x : Operand)
    (ho : o.op = .call { callee := .builtin .append, args := #[s, x], argTypes := #[52, 52] })
    (g cap n gx c : Nat) (us : List UInt8) (u : UInt8) (hs : a.eval s = .slice (some ⟨g, 0, none⟩) n cap) (hc : Conv w g cap us) (hn : us.length = n) (hx : a.eval x = .slice (some ⟨gx, 0, none⟩) 1 c) (hcx : w.cell? ⟨gx, 0, none⟩ = some (.int .u8 (bv u))) (hm : n + 1 ≤ 140737488355328)
    (h : ∀ A c' w', Rd w' w'.heap.size A (n + 1) (us ++ [u]) → w.grownBy w' (some g) → wpList Try.prog ops Q rest (a.put o.dst (.slice A (n + 1) c')) w') : wpList Try.prog ops Q (o :: rest) a w := by
  refine wpList_plain hgd fun K hK => ?_
  obtain ⟨A, c', w', hr, h2, h3⟩ := run_conv_push (u := u) (c := c) o.type hc hn hcx hm
  unfold Oper.wp execOp
  simp only [ho, resolve, invoke, builtin, Sem.run_bind, Sem.run_pure, Result.andThen_ok, List.map_toArray, List.map_cons, List.map_nil, hs, hx, hr]
  exact hK _ _ (h A c' w' h2 h3)
theorem grow_conv (k i : Nat) (rows : List (List UInt8)) (w : World) (h : GridOk k rows) (hi : i < rows.length) :
    Calls Try.prog 53 #[gv k rows, .int .i64 (i : Int)] w fun e w' => ∃ g c, e = .returned (.slice (some ⟨g, 0, none⟩) k c) ∧ Conv w' g c (rows[i]?.getD []) ∧ w.heap.size ≤ g ∧ Below w.heap.size w w' := by
  have h1 := h.2.2.1
  have hfl := flat_len h.1
  have hle : (i + 1) * k ≤ rows.length * k := Nat.mul_le_mul_right _ hi
  have hcap := h.2.2.2
  have hrow := flat_row h.1 hi
  have hex : (strB rows.flatten).extract (i * k) ((i + 1) * k) = strB (rows[i]?.getD []) := by
    rw [strB_extract, Nat.succ_mul, show i * k + k - i * k = k by omega, hrow]
  have hsz : (strB rows.flatten).size = rows.length * k := by rw [← hfl]; simp [strB, ByteArray.size]
  have hrl : (rows[i]?.getD []).length = k := by rw [← hrow, List.length_take, List.length_drop, hfl]; rw [Nat.succ_mul] at hle; omega
  obtain ⟨p, hp⟩ : ∃ p, i * k = p := ⟨_, rfl⟩
  obtain ⟨q, hq⟩ : ∃ q, (i + 1) * k = q := ⟨_, rfl⟩
  have hpq : p ≤ q := by rw [← hp, ← hq, Nat.succ_mul]; omega
  rw [hp, hq] at hex
  rw [hq] at hle
  have hq6 : (q : Int) ≤ 65536 := by omega
  have hp6 : (p : Int) ≤ 65536 := by omega
  have hi6 : (i : Int) ≤ 65536 := by omega
  have t1 : (q : Int) ≤ ((strB rows.flatten).size : Int) := by rw [hsz]; omega
  have t2 : (p : Int) ≤ (q : Int) := by omega
  have p6 : p ≤ 65536 := by omega
  have q6 : q ≤ 65536 := by omega
  have w1 := wrap_mul hp p6
  have w2 := wrap_mul1 hq q6
  clear p6 q6
  obtain ⟨c, W, hcv, hr, hb⟩ := bytes_conv (us := rows[i]?.getD []) (w.alloc (.cells #[.int .i64 (rows.length : Int), .int .i64 (k : Int), .string (strB rows.flatten)] 26))
  rw [hrl] at hcv
  rw [← hex] at hcv
  have hb' := bstep (balloc w _) hb
  clear hex hsz hle hcap hrow hrl hfl hp hq h1 h hpq hb
  simp only [gv]
  go_enter Try.func53, Try.ntmps53
  go_wp2_with fail
  go_ret
  exact ⟨_, _, rfl, by simpa using hr, by omega, hb'⟩
end Go.Proofs.Ytilelmejpbnbnaa
