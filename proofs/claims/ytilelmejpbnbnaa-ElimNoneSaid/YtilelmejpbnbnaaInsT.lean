import Derived.Test.YtilelmejpbnbnaaInsS
/- slices.Insert, of steps: ahead of others. -/
namespace Go.Proofs.Ytilelmejpbnbnaa
open Go.RowKit
set_option linter.unusedVariables false
set_option maxRecDepth 100000

theorem blk_isSome {w : World} {g : Nat} {T : TypeId} {cs : List Value} (h : Blk w g T cs.toArray) {j : Nat} (hj : j < cs.length) : (w.cell? ⟨g, j, none⟩).isSome = true := by
  rw [h.cell]
  simp [hj]
theorem blk_shape {w : World} {g : Nat} {T : TypeId} {cs : Array Value} (h : Blk w g T cs) : w.shape? g = some (T, cs.size) := by
  unfold World.shape?
  rw [show w.heap[g]? = _ from h]
theorem step_size : (Try.prog.info? 102).map (·.size) = some 3 := by
  obtain ⟨i0, hi0, hz0, hzs, hzb⟩ := info_parts step_info
  rw [hi0]
  simp [hzs]
theorem mem_one {cs : List Value} (h : ∀ u ∈ cs, u.oneCell' = true) (k : Nat) : ∀ u ∈ cs.drop k, u.oneCell' = true := fun u hu => h u (List.mem_of_mem_drop hu)
set_option maxHeartbeats 2000000 in
theorem ins_shift {w : World} {R cap n i vb : Nat} {xs : List Value} {x y z : Value} (hi : i < n) (hcap : n < cap) (hcc : cap ≤ 9223372036854775807) (hx : xs.length = n * 3) (h1 : ∀ u ∈ xs, u.oneCell' = true)
    (hR : Blk w R 102 (xs ++ zer (cap - n)).toArray) (hv : Blk w vb 102 #[x, y, z]) (hne : vb ≠ R) (h2 : ∀ u ∈ [x, y, z], u.oneCell' = true) (hn : n ≤ 60000) :
    Calls Try.prog 85 #[.slice (some ⟨R, 0, none⟩) n cap, .int .i64 i, .slice (some ⟨vb, 0, none⟩) 1 1] w (InsEnds (.slice (some ⟨R, 0, none⟩) n cap) n i xs [x, y, z] w) := by
  have hov : ∀ lb cb, (callFunc 102 #[.slice (some ⟨vb, 0, none⟩) 1 1, .slice (some ⟨R, (i + 1) * 3, none⟩) lb cb]).run Try.prog w = .ok (.value (.bool false)) w := fun lb cb => by
    rw [run_callFunc_extern Try.func102 (by kernel_rfl) (by kernel_rfl) (by kernel_rfl) (e := Extern.SlicesOverlaps.overlaps #[97, 97] #[4]) (by kernel_rfl),
      Lib.run_overlaps_apart w 97 4 102 Try.underlying97 3 Try.sizeOf102 ⟨vb, 0, none⟩ ⟨R, (i + 1) * 3, none⟩ 1 1 lb cb hne _ _ _ _ (blk_shape hv) (blk_shape hR) (by simp [zer_len]; omega) (hv.frozen 0) (hv.frozen _)]
    rfl
  obtain ⟨k, hk⟩ : ∃ k, cap - n = k + 1 := ⟨cap - n - 1, by omega⟩
  have hlen : (xs ++ zer (cap - n)).length = cap * 3 := by rw [List.length_append, hx, zer_len]; omega
  have hdl : (xs.drop (i * 3)).length = (n - i) * 3 := by rw [List.length_drop, hx]; omega
  have key1 : ∃ W1, (∀ ty dc sc, (Builtin.copy_ #[97, 97] ty #[.slice (some ⟨R, (i + 1) * 3, none⟩) (n + 1 - (i + 1)) dc, .slice (some ⟨R, i * 3, none⟩) (n + 1 - i) sc]).run Try.prog w.drew = .ok (goInt (Nat.min (n + 1 - i) (n + 1 - (i + 1)))) W1) ∧
      Blk W1 R 102 ((xs ++ zer (cap - n)).take ((i + 1) * 3) ++ xs.drop (i * 3) ++ (xs ++ zer (cap - n)).drop ((i + 1) * 3 + (xs.drop (i * 3)).length)).toArray ∧ Chg (fun g => some g = some R) w W1 := by
    refine ⟨_, fun ty dc sc => run_copy_cellsK w.drew _ _ ty 102 3 R ((i + 1) * 3) (n + 1 - (i + 1)) dc ⟨R, i * 3, none⟩ (n + 1 - i) sc (xs.drop (i * 3)) Try.underlying97 step_size ?_ ?_ ?_ ?_ (mem_one h1 _), ?_, ?_⟩
    · rw [hdl]; congr 1; simp only [Nat.min_def]; split <;> omega
    · intro j u hj
      rw [addr_add, hR.drew.cell]
      rw [List.getElem?_drop] at hj
      have hlt := (List.getElem?_eq_some_iff.1 hj).1
      simp only [List.getElem?_toArray]
      rw [List.getElem?_append_left hlt]
      exact hj
    · intro j hj
      exact blk_isSome hR.drew (by rw [hlen]; rw [hdl] at hj; have := hi; omega)
    · intro j hj
      exact hR.drew.frozen _
    · exact blk_setCells _ _ hR.drew (by rw [hlen, hdl]; omega)
    · exact Chg.setCells (by rfl) _ _ (Chg.of_below (Below.refl _ _).drew)
  obtain ⟨W1, hcp1, hB1, hC1⟩ := key1
  rw [show n + 1 - (i + 1) = n - i by omega] at hcp1
  have hB1' : Blk W1 R 102 ((xs ++ zer (cap - n)).take ((i + 1) * 3) ++ xs.drop (i * 3) ++ zer (cap - (n + 1))).toArray := by
    have e : (xs ++ zer (cap - n)).drop ((i + 1) * 3 + (xs.drop (i * 3)).length) = zer (cap - (n + 1)) := by
      rw [hdl, hk, show cap - (n + 1) = k by omega, List.drop_append, List.drop_eq_nil_of_le (by omega), List.nil_append, hx, show (i + 1) * 3 + (n - i) * 3 - n * 3 = 3 by omega, zer_drop]
    rw [← e]; exact hB1
  have hv1 : Blk W1 vb 102 #[x, y, z] := hv.chg hC1 (by simpa using hne)
  have hlen1 : ((xs ++ zer (cap - n)).take ((i + 1) * 3) ++ xs.drop (i * 3) ++ zer (cap - (n + 1))).length = cap * 3 := by
    simp only [List.length_append, List.length_take, hdl, zer_len, hx]
    omega
  have key2 : ∃ W2, (∀ ty dc, (Builtin.copy_ #[97, 97] ty #[.slice (some ⟨R, i * 3, none⟩) (n + 1 - i) dc, .slice (some ⟨vb, 0, none⟩) 1 1]).run Try.prog W1 = .ok (goInt (Nat.min 1 (n + 1 - i))) W2) ∧
      Blk W2 R 102 (xs.take (i * 3) ++ [x, y, z] ++ xs.drop (i * 3) ++ zer (cap - (n + 1))).toArray ∧ Chg (fun g => some g = some R) w W2 := by
    refine ⟨_, fun ty dc => run_copy_cellsK W1 _ _ ty 102 3 R (i * 3) (n + 1 - i) dc ⟨vb, 0, none⟩ 1 1 [x, y, z] Try.underlying97 step_size ?_ ?_ ?_ ?_ h2, ?_, ?_⟩
    · have : Nat.min 1 (n + 1 - i) = 1 := by simp only [Nat.min_def]; split <;> omega
      rw [this]; rfl
    · intro j u hj
      rw [addr_add, Nat.zero_add, hv1.cell]
      simpa using hj
    · intro j hj
      exact blk_isSome hB1' (by rw [hlen1]; simp at hj; omega)
    · intro j hj
      exact hB1'.frozen _
    · have h9 := blk_setCells [x, y, z] (i * 3) hB1' (by rw [hlen1]; simp; omega)
      have e : ((xs ++ zer (cap - n)).take ((i + 1) * 3) ++ xs.drop (i * 3) ++ zer (cap - (n + 1))).take (i * 3) ++ [x, y, z] ++ ((xs ++ zer (cap - n)).take ((i + 1) * 3) ++ xs.drop (i * 3) ++ zer (cap - (n + 1))).drop (i * 3 + [x, y, z].length) = xs.take (i * 3) ++ [x, y, z] ++ xs.drop (i * 3) ++ zer (cap - (n + 1)) := by
        have hl3 : ((xs ++ zer (cap - n)).take ((i + 1) * 3)).length = i * 3 + 3 := by rw [List.length_take, hlen]; omega
        have t1 : ((xs ++ zer (cap - n)).take ((i + 1) * 3) ++ xs.drop (i * 3) ++ zer (cap - (n + 1))).take (i * 3) = xs.take (i * 3) := by
          rw [List.append_assoc, List.take_append_of_le_length (by omega), List.take_take, Nat.min_eq_left (by omega), List.take_append_of_le_length (by omega)]
        have t2 : ((xs ++ zer (cap - n)).take ((i + 1) * 3) ++ xs.drop (i * 3) ++ zer (cap - (n + 1))).drop (i * 3 + [x, y, z].length) = xs.drop (i * 3) ++ zer (cap - (n + 1)) := by
          rw [List.append_assoc]
          refine List.drop_left' ?_
          rw [hl3]; rfl
        rw [t1, t2]
        simp
      rw [e] at h9
      exact h9
    · exact Chg.setCells (by rfl) _ _ hC1
  obtain ⟨W2, hcp2, hB2, hC2⟩ := key2
  have hK := Lib.hid hB2
  have hKC := Lib.hid hC2
  have hi1 : ¬ ((i : Int) = (n : Int)) := by omega
  have hw1 : IntKind.i64.wrap ((i : Int) + 1) = (i : Int) + 1 := by rw [IntKind.wrap_i64]; omega
  have hb1 : (0 : Int) ≤ (i : Int) + 1 := by omega
  have htn : ((i : Int) + 1).toNat = i + 1 := by omega
  have hb2 : ¬ (cap = i + 1) := by omega
  have hb3 : (i : Int) ≤ (n : Int) := by omega
  have hb4 : ¬ (cap = i) := by omega
  have hb5 : (i : Int) ≤ (n : Int) + 1 := by omega
  clear hB2 hC2 hB1 hB1' hC1 hv1 hlen1 hdl hlen
  go_enter Try.func85, Try.ntmps85
  go_wp2_with (simp only [hov])
  go_region_law (refine step_copy_runI rfl _ _ 97 97 rfl _ _ (by simp [Act.eval, Act.put]) (by simp [Act.eval, Act.put]) (hcp1 _ _ _) ?_)
  go_wp2_with (at_builtin; refine wpList_copy_runI _ rfl _ _ 97 97 rfl _ _ rfl rfl (hcp2 _ _) ?_)
  go_ret
  exact ⟨_, rfl, ⟨ins3_len hx rfl (by omega), ins3_one (n := n) h1 h2, .inr ⟨R, cap, rfl, hcap, hcc, hK.out⟩⟩, .inl rfl, by simp [Value.ownBlock], hKC.out⟩
set_option maxHeartbeats 2000000 in
theorem ins_grow {w : World} {R n i vb : Nat} {xs : List Value} {x y z : Value} (hi : i < n) (hx : xs.length = n * 3) (h1 : ∀ u ∈ xs, u.oneCell' = true)
    (hR : Blk w R 102 xs.toArray) (hv : Blk w vb 102 #[x, y, z]) (h2 : ∀ u ∈ [x, y, z], u.oneCell' = true) (hn : n ≤ 60000) :
    Calls Try.prog 85 #[.slice (some ⟨R, 0, none⟩) n n, .int .i64 i, .slice (some ⟨vb, 0, none⟩) 1 1] w (InsEnds (.slice (some ⟨R, 0, none⟩) n n) n i xs [x, y, z] w) := by
  obtain ⟨i0, hi0, hz0, hzs, hzb⟩ := info_parts step_info
  have htl : (xs.take (i * 3)).length = i * 3 := by rw [List.length_take, hx]; omega
  have hdl : (xs.drop (i * 3)).length = (n - i) * 3 := by rw [List.length_drop, hx]; omega
  have hold : (Builtin.firstCells i0.size i (.slice (some ⟨R, 0, none⟩) i n)).run Try.prog w.drew = .ok (xs.take (i * 3)).toArray w.drew := by
    rw [hzs]
    refine run_firstCells_some w.drew 3 i ⟨R, 0, none⟩ i n (xs.take (i * 3)) htl fun j u hj => ?_
    rw [addr_add, Nat.zero_add, hR.drew.cell]
    rw [List.getElem?_take] at hj
    split at hj
    · simpa using hj
    · cases hj
  have hkk : (n : Int) + 1 - (i : Int) = ((n + 1 - i : Nat) : Int) := by omega
  have hge := grownCap_ge w (n + 1) n 102
  have hle := grownCap_le_maxLen w (n + 1) n 102 (by unfold maxLen; omega)
  have key0 : ∃ G W0, (∀ ty, (Builtin.append_ #[97, 3] ty #[.slice (some ⟨R, 0, none⟩) i n, .int .i64 ((n : Int) + 1 - (i : Int))]).run Try.prog w = .ok (.slice (some ⟨w.heap.size, 0, none⟩) (n + 1) G) W0) ∧ n + 1 ≤ G ∧ G ≤ 9223372036854775807 ∧
      Blk W0 w.heap.size 102 (xs.take (i * 3) ++ zer (n + 1 - i) ++ zer (G - (n + 1))).toArray ∧ Below w.heap.size w W0 := by
    refine ⟨grownCap w (n + 1) n 102, w.drew.alloc (.cells ((xs.take (i * 3)).toArray ++ Builtin.zeroCells (Value.agg #[.slice none 0 0, .slice none 0 0, .int .i64 0]).cells (n + 1 - i) ++ Builtin.zeroCells (Value.agg #[.slice none 0 0, .slice none 0 0, .int .i64 0]).cells (grownCap w (n + 1) n 102 - (n + 1))) 102), fun ty => ?_, hge, by unfold maxLen at hle; exact hle, ?_, ((Below.refl _ _).drew).alloc (Nat.le_refl _) _⟩
    · have h := Lib.run_append_grow_zeros w 97 3 ty 102 i0 _ .i64 .i64 Try.underlying97 Try.underlying3 hi0 hz0 (some ⟨R, 0, none⟩) i n (xs.take (i * 3)) hold (n + 1 - i) (by omega) (by omega) (by omega) (by omega) (by rw [hzb]; omega) (by rw [hzb, show i + (n + 1 - i) = n + 1 by omega]; exact growslice_fits (by omega) (by omega))
      rw [show i + (n + 1 - i) = n + 1 by omega] at h
      rw [hkk]
      exact h
    · rw [zeroCells_steps, zeroCells_steps]
      have e : (xs.take (i * 3) ++ zer (n + 1 - i) ++ zer (grownCap w (n + 1) n 102 - (n + 1))).toArray = (xs.take (i * 3)).toArray ++ (zer (n + 1 - i)).toArray ++ (zer (grownCap w (n + 1) n 102 - (n + 1))).toArray := by simp
      rw [e]
      exact Blk.new w.drew _ _
  obtain ⟨G, W0, hrun, hG1, hG2, hB0, hC0⟩ := key0
  have hlen0 : (xs.take (i * 3) ++ zer (n + 1 - i) ++ zer (G - (n + 1))).length = G * 3 := by simp only [List.length_append, htl, zer_len]; omega
  have hv0 : Blk W0 vb 102 #[x, y, z] := hv.below hC0 hv.lt
  have hR0 : Blk W0 R 102 xs.toArray := hR.below hC0 hR.lt
  have hRl := hR.lt
  have key1 : ∃ W1, (∀ ty dc, (Builtin.copy_ #[97, 97] ty #[.slice (some ⟨w.heap.size, i * 3, none⟩) (n + 1 - i) dc, .slice (some ⟨vb, 0, none⟩) 1 1]).run Try.prog W0 = .ok (goInt (Nat.min 1 (n + 1 - i))) W1) ∧
      Blk W1 w.heap.size 102 (xs.take (i * 3) ++ [x, y, z] ++ zer (n - i) ++ zer (G - (n + 1))).toArray ∧ Below w.heap.size w W1 ∧ Blk W1 R 102 xs.toArray := by
    refine ⟨_, fun ty dc => run_copy_cellsK W0 _ _ ty 102 3 w.heap.size (i * 3) (n + 1 - i) dc ⟨vb, 0, none⟩ 1 1 [x, y, z] Try.underlying97 step_size ?_ ?_ ?_ ?_ h2, ?_, ?_, ?_⟩
    · have : Nat.min 1 (n + 1 - i) = 1 := by simp only [Nat.min_def]; split <;> omega
      rw [this]; rfl
    · intro j u hj
      rw [addr_add, Nat.zero_add, hv0.cell]
      simpa using hj
    · intro j hj
      exact blk_isSome hB0 (by rw [hlen0]; simp at hj; omega)
    · intro j hj
      exact hB0.frozen _
    · have h9 := blk_setCells [x, y, z] (i * 3) hB0 (by rw [hlen0]; simp; omega)
      have e : (xs.take (i * 3) ++ zer (n + 1 - i) ++ zer (G - (n + 1))).take (i * 3) ++ [x, y, z] ++ (xs.take (i * 3) ++ zer (n + 1 - i) ++ zer (G - (n + 1))).drop (i * 3 + [x, y, z].length) = xs.take (i * 3) ++ [x, y, z] ++ zer (n - i) ++ zer (G - (n + 1)) := by
        have t1 : (xs.take (i * 3) ++ zer (n + 1 - i) ++ zer (G - (n + 1))).take (i * 3) = xs.take (i * 3) := by
          rw [List.append_assoc]
          exact List.take_left' htl
        have t2 : (xs.take (i * 3) ++ zer (n + 1 - i) ++ zer (G - (n + 1))).drop (i * 3 + [x, y, z].length) = zer (n - i) ++ zer (G - (n + 1)) := by
          rw [List.append_assoc, List.drop_append, List.drop_eq_nil_of_le (by rw [htl]; omega), List.nil_append, htl, show i * 3 + [x, y, z].length - i * 3 = 3 by simp, show n + 1 - i = (n - i) + 1 by omega, List.drop_append, zer_drop, zer_len, show 3 - (n - i + 1) * 3 = 0 by omega, List.drop_zero]
        rw [t1, t2]
        simp
      rw [e] at h9
      exact h9
    · exact (Chg.setCells (P := fun g => g = w.heap.size) (by rfl) _ _ (Chg.of_below hC0)).below (Nat.le_refl _) (fun g hg => by rw [hg]; exact Nat.le_refl _)
    · exact hR.chg (Chg.setCells (P := fun g => g = w.heap.size) (by rfl) _ _ (Chg.of_below hC0)) (fun e => by omega)
  obtain ⟨W1, hcp1, hB1, hC1, hR1⟩ := key1
  have hlen1 : (xs.take (i * 3) ++ [x, y, z] ++ zer (n - i) ++ zer (G - (n + 1))).length = G * 3 := by
    simp only [List.length_append, htl, zer_len, List.length_cons, List.length_nil]
    omega
  have key2 : ∃ W2, (∀ ty dc sc, (Builtin.copy_ #[97, 97] ty #[.slice (some ⟨w.heap.size, (i + 1) * 3, none⟩) (n - i) dc, .slice (some ⟨R, i * 3, none⟩) (n - i) sc]).run Try.prog W1.drew = .ok (goInt (Nat.min (n - i) (n - i))) W2) ∧
      Blk W2 w.heap.size 102 (xs.take (i * 3) ++ [x, y, z] ++ xs.drop (i * 3) ++ zer (G - (n + 1))).toArray ∧ Below w.heap.size w W2 := by
    refine ⟨_, fun ty dc sc => run_copy_cellsK W1.drew _ _ ty 102 3 w.heap.size ((i + 1) * 3) (n - i) dc ⟨R, i * 3, none⟩ (n - i) sc (xs.drop (i * 3)) Try.underlying97 step_size ?_ ?_ ?_ ?_ (mem_one h1 _), ?_, ?_⟩
    · rw [hdl]; congr 1; simp only [Nat.min_def]; split <;> omega
    · intro j u hj
      rw [addr_add, hR1.drew.cell]
      rw [List.getElem?_drop] at hj
      simpa using hj
    · intro j hj
      exact blk_isSome hB1.drew (by rw [hlen1]; rw [hdl] at hj; omega)
    · intro j hj
      exact hB1.drew.frozen _
    · have h9 := blk_setCells (xs.drop (i * 3)) ((i + 1) * 3) hB1.drew (by rw [hlen1, hdl]; omega)
      have e : (xs.take (i * 3) ++ [x, y, z] ++ zer (n - i) ++ zer (G - (n + 1))).take ((i + 1) * 3) ++ xs.drop (i * 3) ++ (xs.take (i * 3) ++ [x, y, z] ++ zer (n - i) ++ zer (G - (n + 1))).drop ((i + 1) * 3 + (xs.drop (i * 3)).length) = xs.take (i * 3) ++ [x, y, z] ++ xs.drop (i * 3) ++ zer (G - (n + 1)) := by
        have hl3 : (xs.take (i * 3) ++ [x, y, z]).length = (i + 1) * 3 := by rw [List.length_append, htl]; simp; omega
        have t1 : (xs.take (i * 3) ++ [x, y, z] ++ zer (n - i) ++ zer (G - (n + 1))).take ((i + 1) * 3) = xs.take (i * 3) ++ [x, y, z] := by
          rw [List.append_assoc (xs.take (i * 3) ++ [x, y, z])]
          exact List.take_left' hl3
        have t2 : (xs.take (i * 3) ++ [x, y, z] ++ zer (n - i) ++ zer (G - (n + 1))).drop ((i + 1) * 3 + (xs.drop (i * 3)).length) = zer (G - (n + 1)) := by
          refine List.drop_left' ?_
          rw [List.length_append, hl3, zer_len, hdl]
        rw [t1, t2]
      rw [e] at h9
      exact h9
    · exact (Chg.setCells (P := fun g => g = w.heap.size) (by rfl) _ _ (Chg.of_below hC1.drew)).below (Nat.le_refl _) (fun g hg => by rw [hg]; exact Nat.le_refl _)
  obtain ⟨W2, hcp2, hB2, hC2⟩ := key2
  have hK := Lib.hid hB2
  have hKC := Lib.hid hC2
  have hi1 : ¬ ((i : Int) = (n : Int)) := by omega
  have hw1 : IntKind.i64.wrap ((i : Int) + 1) = (i : Int) + 1 := by rw [IntKind.wrap_i64]; omega
  have hb1 : (0 : Int) ≤ (i : Int) + 1 := by omega
  have htn : ((i : Int) + 1).toNat = i + 1 := by omega
  have hb3 : (i : Int) ≤ (n : Int) := by omega
  have hb4 : ¬ (n = i) := by omega
  have hb5 : (i : Int) ≤ (n : Int) + 1 := by omega
  have hb6 : ¬ (G = i) := by omega
  have hb7 : ¬ (G = i + 1) := by omega
  have hb8 : i ≤ G := by omega
  clear hB2 hC2 hB1 hC1 hR1 hB0 hC0 hv0 hR0 hlen0 hlen1 hdl htl hold hge hle hkk
  go_enter Try.func85, Try.ntmps85
  go_wp2_with (at_builtin; first | (refine Lib.wpList_append_run _ rfl _ _ _ _ rfl _ _ rfl rfl _ _ (hrun _) ?_) | (refine wpList_copy_runI _ rfl _ _ 97 97 rfl _ _ rfl rfl (hcp1 _ _) ?_))
  go_region_law (refine step_copy_runI rfl _ _ 97 97 rfl _ _ (by simp [Act.eval, Act.put]) (by simp [Act.eval, Act.put]) (hcp2 _ _ _) ?_)
  go_wp2_with fail
  go_ret
  exact ⟨_, rfl, ⟨ins3_len hx rfl (by omega), ins3_one (n := n) h1 h2, .inr ⟨_, G, rfl, hG1, hG2, hK.out⟩⟩, .inr ⟨_, rfl, Nat.le_refl _⟩, by simp [Value.ownBlock], Chg.of_below hKC.out⟩
end Go.Proofs.Ytilelmejpbnbnaa
