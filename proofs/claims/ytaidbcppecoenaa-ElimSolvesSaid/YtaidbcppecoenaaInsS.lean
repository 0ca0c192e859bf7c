import Derived.Test.YtaidbcppecoenaaElimB
import Derived.Lib.Overlaps
import Derived.Lib.AppendZerosOnto
import Derived.Deep.AppendSrc
import Derived.Laws.IdiomCopy
import Derived.Lib.SliceRun
import Derived.Lib.JoinLaws
import Derived.Shelf.Spec.SlicesInsert
/- slices.Insert, of steps: one more, at a place. -/
namespace Go.Proofs.Ytaidbcppecoenaa
open Go.RowKit
set_option linter.unusedVariables false
set_option maxRecDepth 100000

theorem step_info : (Try.prog.info? 102).map (fun i => (i.zero, i.size, i.bytes)) = some (some (.agg #[.slice none 0 0, .slice none 0 0, .int .i64 0]), 3, 56) := by kernel_rfl
/-- The cells of steps that are none yet. -/
def zer (k : Nat) : List Value := (List.replicate k [Value.slice none 0 0, .slice none 0 0, .int .i64 0]).flatten
theorem zer_len (k : Nat) : (zer k).length = k * 3 := by
  unfold zer
  induction k with
  | zero => rfl
  | succ k ih => rw [List.replicate_succ, List.flatten_cons, List.length_append, ih]; simp; omega
theorem zer_succ (k : Nat) : zer (k + 1) = [Value.slice none 0 0, .slice none 0 0, .int .i64 0] ++ zer k := by
  unfold zer
  rw [List.replicate_succ, List.flatten_cons]
theorem zer_drop (k : Nat) : (zer (k + 1)).drop 3 = zer k := by rw [zer_succ]; rfl
theorem zer_at {k j : Nat} (h : j < k * 3) : (zer k)[j]? = some (if j % 3 = 2 then Value.int .i64 0 else .slice none 0 0) := by
  induction k generalizing j with
  | zero => omega
  | succ k ih =>
    rw [zer_succ]
    match j, h with
    | 0, _ => rfl
    | 1, _ => rfl
    | 2, _ => rfl
    | j + 3, h =>
      have h2 := ih (j := j) (by omega)
      rw [List.getElem?_append_right (by simp)]
      simp only [List.length_cons, List.length_nil, Nat.zero_add, Nat.add_sub_cancel]
      rw [h2]
      have : (j + 3) % 3 = j % 3 := by omega
      rw [this]
theorem zeroCells_steps (k : Nat) : (Builtin.zeroCells (Value.agg #[.slice none 0 0, .slice none 0 0, .int .i64 0]).cells k) = (zer k).toArray := by
  have hc : (Value.agg #[.slice none 0 0, .slice none 0 0, .int .i64 0]).cells = #[Value.slice none 0 0, .slice none 0 0, .int .i64 0] := rfl
  rw [hc]
  unfold Builtin.zeroCells
  apply Array.ext'
  apply List.ext_getElem?
  intro j
  rw [Array.toList_map, Array.toList_range, List.getElem?_map]
  by_cases h : j < k * 3
  · rw [List.getElem?_range (by simpa using h)]
    show _ = (zer k)[j]?
    rw [zer_at h]
    have h3 : j % 3 < 3 := Nat.mod_lt _ (by omega)
    show some (#[Value.slice none 0 0, Value.slice none 0 0, Value.int .i64 0][j % 3]!) = _
    congr 1
    match hm : j % 3, h3 with
    | 0, _ => rfl
    | 1, _ => rfl
    | 2, _ => rfl
  · rw [List.getElem?_eq_none (by simpa using h)]
    show none = (zer k)[j]?
    rw [List.getElem?_eq_none (by rw [zer_len]; omega)]
/-! ### Cells stored one behind the other -/
theorem blk_setCells {b : Nat} {T : TypeId} : ∀ (vs : List Value) (o : Nat) {w : World} {cs : List Value}, Blk w b T cs.toArray → o + vs.length ≤ cs.length → Blk (w.setCells b o vs) b T (cs.take o ++ vs ++ cs.drop (o + vs.length)).toArray
  | [], o, w, cs, h, _ => by simpa [World.setCells] using h
  | v :: r, o, w, cs, h, hl => by
    have hl' : o + 1 + r.length ≤ cs.length := by simp at hl; omega
    have h1 := h.set o v
    rw [List.setIfInBounds_toArray] at h1
    have h2 := blk_setCells r (o + 1) h1 (by rw [List.length_set]; exact hl')
    have e : (cs.set o v).take (o + 1) ++ r ++ (cs.set o v).drop (o + 1 + r.length) = cs.take o ++ v :: r ++ cs.drop (o + (r.length + 1)) := by
      have hlo : (cs.take o).length = o := by rw [List.length_take]; omega
      have t1 : (cs.take o ++ v :: cs.drop (o + 1)).take (o + 1) = cs.take o ++ [v] := by
        rw [List.take_append, List.take_of_length_le (by omega), hlo]
        simp
      have t2 : (cs.take o ++ v :: cs.drop (o + 1)).drop (o + 1 + r.length) = cs.drop (o + (r.length + 1)) := by
        rw [List.drop_append, List.drop_eq_nil_of_le (by omega), hlo, show o + 1 + r.length - o = r.length + 1 by omega, List.drop_succ_cons, List.drop_drop, List.nil_append]
        congr 1
        omega
      rw [List.set_eq_take_append_cons_drop, if_pos (by omega), t1, t2]
      simp
    rw [e] at h2
    exact h2
theorem Chg.setCells {P : Nat → Prop} {b : Nat} (hp : P b) : ∀ (vs : List Value) (o : Nat) {w w' : World}, Chg P w w' → Chg P w (w'.setCells b o vs)
  | [], _, _, _, h => h
  | v :: r, o, _, _, h => Chg.setCells hp r (o + 1) (h.setCell (p := ⟨b, o, none⟩) hp v)
theorem run_copy_cellsK {P : Program} (w : World) (dT sT ty elem : TypeId) (k b o dLen dCap : Nat) (a : Addr) (sLen sCap : Nat) (cs : List Value)
    (hu : P.underlying dT = some (.slice elem)) (hs : (P.info? elem).map (·.size) = some k) (hn : cs.length = Nat.min sLen dLen * k)
    (hsrc : ∀ j v, cs[j]? = some v → w.cell? (a.add j) = some v) (hc : ∀ j, j < cs.length → (w.cell? ⟨b, o + j, none⟩).isSome = true) (hf : ∀ j, j < cs.length → w.frozen? ⟨b, o + j, none⟩ = false) (h1 : ∀ v ∈ cs, v.oneCell' = true) :
    (Builtin.copy_ #[dT, sT] ty #[.slice (some ⟨b, o, none⟩) dLen dCap, .slice (some a) sLen sCap]).run P w = .ok (goInt (Nat.min sLen dLen)) (w.setCells b o cs) := by
  have hl := run_loadCells_list (P := P) w a cs hsrc
  have hst := run_storeCells_cells (P := P) b o cs 0 w (by simpa using hc) (by simpa using hf) h1
  cases hq : P.info? elem with
  | none => simp [hq] at hs
  | some i =>
    have hi : i.size = k := by simpa [hq] using hs
    simp [Builtin.copy_, run_underlying hu, Builtin.lenOf, Builtin.firstCells, sizeOf, typeInfo, hq, hi, ← hn, hl, hst]
theorem chg_setRow {P : Nat → Prop} {w : World} {g : Nat} (hp : P g) (cs : Array Value) : Chg P w (w.setRow g cs) :=
  ⟨rfl, rfl, rfl, by simp, fun k _ hk => setRow_other w g k cs (fun e => hk (e ▸ hp))⟩
/-- A slice of steps: its cells, and what is still free behind them. -/
def SRow (w : World) (v : Value) (n : Nat) (xs : List Value) : Prop :=
  xs.length = n * 3 ∧ (∀ u ∈ xs, u.oneCell' = true) ∧ ((v = .slice none 0 0 ∧ n = 0) ∨ ∃ R cap, v = .slice (some ⟨R, 0, none⟩) n cap ∧ n ≤ cap ∧ cap ≤ 9223372036854775807 ∧ Blk w R 102 (xs ++ zer (cap - n)).toArray)
theorem SRow.nil (w : World) : SRow w (.slice none 0 0) 0 [] := ⟨rfl, fun u h => by simp at h, .inl ⟨rfl, rfl⟩⟩
/-- What slices.Insert makes of a slice of steps. -/
def InsEnds (v : Value) (n i : Nat) (xs news : List Value) (w : World) (e : Ending) (w' : World) : Prop :=
  ∃ v', e = .returned v' ∧ SRow w' v' (n + 1) (xs.take (i * 3) ++ news ++ xs.drop (i * 3)) ∧ (v'.ownBlock = v.ownBlock ∨ ∃ g, v'.ownBlock = some g ∧ w.heap.size ≤ g) ∧ v'.ownBlock ≠ none ∧ Chg (fun g => some g = v.ownBlock) w w'
theorem ins3_one {n i : Nat} {xs news : List Value} (h1 : ∀ u ∈ xs, u.oneCell' = true) (h2 : ∀ u ∈ news, u.oneCell' = true) : ∀ u ∈ xs.take (i * 3) ++ news ++ xs.drop (i * 3), u.oneCell' = true := by
  intro u hu
  simp only [List.mem_append] at hu
  rcases hu with (hu | hu) | hu
  · exact h1 u (List.mem_of_mem_take hu)
  · exact h2 u hu
  · exact h1 u (List.mem_of_mem_drop hu)
theorem ins3_len {n i : Nat} {xs news : List Value} (hx : xs.length = n * 3) (hl : news.length = 3) (hi : i ≤ n) : (xs.take (i * 3) ++ news ++ xs.drop (i * 3)).length = (n + 1) * 3 := by
  simp only [List.length_append, List.length_take, List.length_drop]
  omega
theorem ins_room {w : World} {R cap n vb : Nat} {xs : List Value} {x y z : Value} (hcap : n < cap) (hcc : cap ≤ 9223372036854775807) (hx : xs.length = n * 3) (h1 : ∀ u ∈ xs, u.oneCell' = true)
    (hR : Blk w R 102 (xs ++ zer (cap - n)).toArray) (hv : Blk w vb 102 #[x, y, z]) (h2 : ∀ u ∈ [x, y, z], u.oneCell' = true) (hn : n ≤ 60000) :
    Calls Try.prog 85 #[.slice (some ⟨R, 0, none⟩) n cap, .int .i64 n, .slice (some ⟨vb, 0, none⟩) 1 1] w (InsEnds (.slice (some ⟨R, 0, none⟩) n cap) n n xs [x, y, z] w) := by
  obtain ⟨i0, hi0, hz0, hzs, hzb⟩ := info_parts step_info
  have hnews : ∀ j u, [x, y, z][j]? = some u → w.cell? ((⟨vb, 0, none⟩ : Addr).add j) = some u := fun j u hj => by
    rw [addr_add, Nat.zero_add, hv.cell]
    simpa using hj
  have key : ∃ W1, (∀ ty, (Builtin.append_ #[97, 97] ty #[.slice (some ⟨R, 0, none⟩) n cap, .slice (some ⟨vb, 0, none⟩) 1 1]).run Try.prog w = .ok (.slice (some ⟨R, 0, none⟩) (n + 1) cap) W1) ∧
      Blk W1 R 102 (xs.take (n * 3) ++ [x, y, z] ++ xs.drop (n * 3) ++ zer (cap - (n + 1))).toArray ∧ Chg (fun g => some g = some R) w W1 := by
    refine ⟨_, fun ty => run_append_room (P := Try.prog) w 97 ty 102 i0 Try.underlying97 hi0 R n cap _ hR ⟨vb, 0, none⟩ 1 1 [x, y, z] (by rw [hzs]; rfl) hnews h2 (by omega) (by
      rw [hzs]; simp only [List.size_toArray, List.length_append, hx, zer_len, List.length_cons, List.length_nil]; omega), ?_, chg_setRow (by rfl) _⟩
    have e : ((xs ++ zer (cap - n)).toArray.toList.take (n * i0.size) ++ [x, y, z] ++ (xs ++ zer (cap - n)).toArray.toList.drop (n * i0.size + [x, y, z].length)) = xs.take (n * 3) ++ [x, y, z] ++ xs.drop (n * 3) ++ zer (cap - (n + 1)) := by
      obtain ⟨k, hk⟩ : ∃ k, cap - n = k + 1 := ⟨cap - n - 1, by omega⟩
      have hk2 : cap - (n + 1) = k := by omega
      rw [hk, hk2, hzs]
      simp only [List.length_cons, List.length_nil]
      rw [← hx, List.take_left, List.take_length, List.drop_length, List.append_nil, List.drop_append, List.drop_eq_nil_of_le (by omega), List.nil_append, show xs.length + (0 + 1 + 1 + 1) - xs.length = 3 by omega, zer_drop]
    rw [← e]
    exact setRow_heap w R _ _ _ _ hR
  obtain ⟨W1, hrun, hB, hC⟩ := key
  have hK := Lib.hid hB
  have hKC := Lib.hid hC
  clear hB hC hnews
  go_enter Try.func85, Try.ntmps85
  go_wp2_with (at_builtin; refine Lib.wpList_append_run _ rfl _ _ _ _ rfl _ _ rfl rfl _ _ (hrun _) ?_)
  all_goals
    go_ret
    exact ⟨_, rfl, ⟨ins3_len hx rfl (Nat.le_refl _), ins3_one (n := n) h1 h2, .inr ⟨R, cap, rfl, hcap, hcc, hK.out⟩⟩, .inl rfl, by simp [Value.ownBlock], hKC.out⟩
theorem ins_full {w : World} {base : Option Addr} {cap n vb : Nat} {xs : List Value} {x y z : Value} (hcap : cap = n) (hb : base = none ∧ n = 0 ∨ ∃ R, base = some ⟨R, 0, none⟩ ∧ Blk w R 102 xs.toArray) (hx : xs.length = n * 3) (h1 : ∀ u ∈ xs, u.oneCell' = true)
    (hv : Blk w vb 102 #[x, y, z]) (h2 : ∀ u ∈ [x, y, z], u.oneCell' = true) (hn : n ≤ 60000) :
    Calls Try.prog 85 #[.slice base n cap, .int .i64 n, .slice (some ⟨vb, 0, none⟩) 1 1] w (InsEnds (.slice base n cap) n n xs [x, y, z] w) := by
  obtain ⟨i0, hi0, hz0, hzs, hzb⟩ := info_parts step_info
  subst hcap
  have hsrc : Src Try.prog i0.size 97 (.slice (some ⟨vb, 0, none⟩) 1 1) 1 [x, y, z] w := Src.ofSlice w Try.underlying97 ⟨vb, 0, none⟩ 1 1 [x, y, z] (by rw [hzs]; rfl) (fun j u hj => by
    rw [addr_add, Nat.zero_add, hv.cell]
    simpa using hj) h2
  have hold : (Builtin.firstCells i0.size cap (.slice base cap cap)).run Try.prog w.drew = .ok xs.toArray w.drew := by
    rw [hzs]
    rcases hb with ⟨rfl, h0⟩ | ⟨R, rfl, hR⟩
    · subst h0
      rw [List.eq_nil_of_length_eq_zero (l := xs) (by simpa using hx)]
      exact run_firstCells_none w.drew 3 0 0 0
    · refine run_firstCells_some w.drew 3 cap ⟨R, 0, none⟩ cap cap xs hx fun j u hj => ?_
      rw [addr_add, Nat.zero_add, hR.drew.cell]
      simpa using hj
  have hge := grownCap_ge w (cap + 1) cap 102
  have hle := grownCap_le_maxLen w (cap + 1) cap 102 (by unfold maxLen; omega)
  have key : ∃ G W1, (∀ ty, (Builtin.append_ #[97, 97] ty #[.slice base cap cap, .slice (some ⟨vb, 0, none⟩) 1 1]).run Try.prog w = .ok (.slice (some ⟨w.heap.size, 0, none⟩) (cap + 1) G) W1) ∧ cap + 1 ≤ G ∧ G ≤ 9223372036854775807 ∧
      Blk W1 w.heap.size 102 (xs.take (cap * 3) ++ [x, y, z] ++ xs.drop (cap * 3) ++ zer (G - (cap + 1))).toArray ∧ Below w.heap.size w W1 := by
    refine ⟨_, _, fun ty => run_append_grow_src w 97 97 ty 102 i0 _ Try.underlying97 hi0 hz0 base cap cap xs hold _ 1 [x, y, z] hsrc (by omega) (by omega) (by rw [hzb]; exact growslice_fits (by omega) (by omega)), hge, by unfold maxLen at hle; exact hle, ?_, ((Below.refl _ _).drew).alloc (Nat.le_refl _) _⟩
    rw [zeroCells_steps]
    have e : (xs.take (cap * 3) ++ [x, y, z] ++ xs.drop (cap * 3) ++ zer (grownCap w (cap + 1) cap 102 - (cap + 1))).toArray = (xs ++ [x, y, z]).toArray ++ (zer (grownCap w (cap + 1) cap 102 - (cap + 1))).toArray := by
      rw [← hx, List.take_length, List.drop_length, List.append_nil]
      simp
    rw [e]
    exact Blk.new w.drew _ _
  obtain ⟨G, W1, hrun, hG1, hG2, hB, hC⟩ := key
  have hK := Lib.hid hB
  have hKC := Lib.hid hC
  clear hB hC hsrc hold hge hle
  go_enter Try.func85, Try.ntmps85
  rcases hb with ⟨rfl, h0⟩ | ⟨R, rfl, hR⟩
  · subst h0
    go_wp2_with (at_builtin; refine Lib.wpList_append_run _ rfl _ _ _ _ rfl _ _ rfl rfl _ _ (hrun _) ?_)
    all_goals
      go_ret
      exact ⟨_, rfl, ⟨ins3_len hx rfl (Nat.le_refl _), ins3_one (n := 0) h1 h2, .inr ⟨_, _, rfl, hG1, hG2, hK.out⟩⟩, .inr ⟨_, rfl, Nat.le_refl _⟩, by simp [Value.ownBlock], Chg.of_below hKC.out⟩
  · go_wp2_with (at_builtin; refine Lib.wpList_append_run _ rfl _ _ _ _ rfl _ _ rfl rfl _ _ (hrun _) ?_)
    all_goals
      go_ret
      exact ⟨_, rfl, ⟨ins3_len hx rfl (Nat.le_refl _), ins3_one (n := cap) h1 h2, .inr ⟨_, _, rfl, hG1, hG2, hK.out⟩⟩, .inr ⟨_, rfl, Nat.le_refl _⟩, by simp [Value.ownBlock], Chg.of_below hKC.out⟩
end Go.Proofs.Ytaidbcppecoenaa

/- slices.Insert, of steps: ahead of others. -/
namespace Go.Proofs.Ytaidbcppecoenaa
open Go.RowKit
set_option linter.unusedVariables false
set_option maxRecDepth 100000

theorem blk_isSome {w : World} {g : Nat} {T : TypeId} {cs : List Value} (h : Blk w g T cs.toArray) {j : Nat} (hj : j < cs.length) : (w.cell? ⟨g, j, none⟩).isSome = true := by
  rw [h.cell]
  simp [hj]
theorem blk_shape {w : World} {g : Nat} {T : TypeId} {cs : Array Value} (h : Blk w g T cs) : w.shape? g = some (T, cs.size) := by
  unfold World.shape?
  rw [show w.heap[g]? = _ from h]
theorem step_size : (Try.prog.info? 102).map (·.size) = some 3 := by
  obtain ⟨i0, hi0, hz0, hzs, hzb⟩ := info_parts step_info
  rw [hi0]
  simp [hzs]
theorem mem_one {cs : List Value} (h : ∀ u ∈ cs, u.oneCell' = true) (k : Nat) : ∀ u ∈ cs.drop k, u.oneCell' = true := fun u hu => h u (List.mem_of_mem_drop hu)
set_option maxHeartbeats 2000000 in
theorem ins_shift {w : World} {R cap n i vb : Nat} {xs : List Value} {x y z : Value} (hi : i < n) (hcap : n < cap) (hcc : cap ≤ 9223372036854775807) (hx : xs.length = n * 3) (h1 : ∀ u ∈ xs, u.oneCell' = true)
    (hR : Blk w R 102 (xs ++ zer (cap - n)).toArray) (hv : Blk w vb 102 #[x, y, z]) (hne : vb ≠ R) (h2 : ∀ u ∈ [x, y, z], u.oneCell' = true) (hn : n ≤ 60000) :
    Calls Try.prog 85 #[.slice (some ⟨R, 0, none⟩) n cap, .int .i64 i, .slice (some ⟨vb, 0, none⟩) 1 1] w (InsEnds (.slice (some ⟨R, 0, none⟩) n cap) n i xs [x, y, z] w) := by
  have hov : ∀ lb cb, (callFunc 102 #[.slice (some ⟨vb, 0, none⟩) 1 1, .slice (some ⟨R, (i + 1) * 3, none⟩) lb cb]).run Try.prog w = .ok (.value (.bool false)) w := fun lb cb => by
    rw [run_callFunc_extern Try.func102 (by kernel_rfl) (by kernel_rfl) (by kernel_rfl) (e := Extern.SlicesOverlaps.overlaps #[97, 97] #[4]) (by kernel_rfl),
      Lib.run_overlaps_apart w 97 4 102 Try.underlying97 3 Try.sizeOf102 ⟨vb, 0, none⟩ ⟨R, (i + 1) * 3, none⟩ 1 1 lb cb hne _ _ _ _ (blk_shape hv) (blk_shape hR) (by simp [zer_len]; omega) (hv.frozen 0) (hv.frozen _)]
    rfl
  obtain ⟨k, hk⟩ : ∃ k, cap - n = k + 1 := ⟨cap - n - 1, by omega⟩
  have hlen : (xs ++ zer (cap - n)).length = cap * 3 := by rw [List.length_append, hx, zer_len]; omega
  have hdl : (xs.drop (i * 3)).length = (n - i) * 3 := by rw [List.length_drop, hx]; omega
  have key1 : ∃ W1, (∀ ty dc sc, (Builtin.copy_ #[97, 97] ty #[.slice (some ⟨R, (i + 1) * 3, none⟩) (n + 1 - (i + 1)) dc, .slice (some ⟨R, i * 3, none⟩) (n + 1 - i) sc]).run Try.prog w.drew = .ok (goInt (Nat.min (n + 1 - i) (n + 1 - (i + 1)))) W1) ∧
      Blk W1 R 102 ((xs ++ zer (cap - n)).take ((i + 1) * 3) ++ xs.drop (i * 3) ++ (xs ++ zer (cap - n)).drop ((i + 1) * 3 + (xs.drop (i * 3)).length)).toArray ∧ Chg (fun g => some g = some R) w W1 := by
    refine ⟨_, fun ty dc sc => run_copy_cellsK w.drew _ _ ty 102 3 R ((i + 1) * 3) (n + 1 - (i + 1)) dc ⟨R, i * 3, none⟩ (n + 1 - i) sc (xs.drop (i * 3)) Try.underlying97 step_size ?_ ?_ ?_ ?_ (mem_one h1 _), ?_, ?_⟩
    · rw [hdl]; congr 1; simp only [Nat.min_def]; split <;> omega
    · intro j u hj
      rw [addr_add, hR.drew.cell]
      rw [List.getElem?_drop] at hj
      have hlt := (List.getElem?_eq_some_iff.1 hj).1
      simp only [List.getElem?_toArray]
      rw [List.getElem?_append_left hlt]
      exact hj
    · intro j hj
      exact blk_isSome hR.drew (by rw [hlen]; rw [hdl] at hj; have := hi; omega)
    · intro j hj
      exact hR.drew.frozen _
    · exact blk_setCells _ _ hR.drew (by rw [hlen, hdl]; omega)
    · exact Chg.setCells (by rfl) _ _ (Chg.of_below (Below.refl _ _).drew)
  obtain ⟨W1, hcp1, hB1, hC1⟩ := key1
  rw [show n + 1 - (i + 1) = n - i by omega] at hcp1
  have hB1' : Blk W1 R 102 ((xs ++ zer (cap - n)).take ((i + 1) * 3) ++ xs.drop (i * 3) ++ zer (cap - (n + 1))).toArray := by
    have e : (xs ++ zer (cap - n)).drop ((i + 1) * 3 + (xs.drop (i * 3)).length) = zer (cap - (n + 1)) := by
      rw [hdl, hk, show cap - (n + 1) = k by omega, List.drop_append, List.drop_eq_nil_of_le (by omega), List.nil_append, hx, show (i + 1) * 3 + (n - i) * 3 - n * 3 = 3 by omega, zer_drop]
    rw [← e]; exact hB1
  have hv1 : Blk W1 vb 102 #[x, y, z] := hv.chg hC1 (by simpa using hne)
  have hlen1 : ((xs ++ zer (cap - n)).take ((i + 1) * 3) ++ xs.drop (i * 3) ++ zer (cap - (n + 1))).length = cap * 3 := by
    simp only [List.length_append, List.length_take, hdl, zer_len, hx]
    omega
  have key2 : ∃ W2, (∀ ty dc, (Builtin.copy_ #[97, 97] ty #[.slice (some ⟨R, i * 3, none⟩) (n + 1 - i) dc, .slice (some ⟨vb, 0, none⟩) 1 1]).run Try.prog W1 = .ok (goInt (Nat.min 1 (n + 1 - i))) W2) ∧
      Blk W2 R 102 (xs.take (i * 3) ++ [x, y, z] ++ xs.drop (i * 3) ++ zer (cap - (n + 1))).toArray ∧ Chg (fun g => some g = some R) w W2 := by
    refine ⟨_, fun ty dc => run_copy_cellsK W1 _ _ ty 102 3 R (i * 3) (n + 1 - i) dc ⟨vb, 0, none⟩ 1 1 [x, y, z] Try.underlying97 step_size ?_ ?_ ?_ ?_ h2, ?_, ?_⟩
    · have : Nat.min 1 (n + 1 - i) = 1 := by simp only [Nat.min_def]; split <;> omega
      rw [this]; rfl
    · intro j u hj
      rw [addr_add, Nat.zero_add, hv1.cell]
      simpa using hj
    · intro j hj
      exact blk_isSome hB1' (by rw [hlen1]; simp at hj; omega)
    · intro j hj
      exact hB1'.frozen _
    · have h9 := blk_setCells [x, y, z] (i * 3) hB1' (by rw [hlen1]; simp; omega)
      have e : ((xs ++ zer (cap - n)).take ((i + 1) * 3) ++ xs.drop (i * 3) ++ zer (cap - (n + 1))).take (i * 3) ++ [x, y, z] ++ ((xs ++ zer (cap - n)).take ((i + 1) * 3) ++ xs.drop (i * 3) ++ zer (cap - (n + 1))).drop (i * 3 + [x, y, z].length) = xs.take (i * 3) ++ [x, y, z] ++ xs.drop (i * 3) ++ zer (cap - (n + 1)) := by
        have hl3 : ((xs ++ zer (cap - n)).take ((i + 1) * 3)).length = i * 3 + 3 := by rw [List.length_take, hlen]; omega
        have t1 : ((xs ++ zer (cap - n)).take ((i + 1) * 3) ++ xs.drop (i * 3) ++ zer (cap - (n + 1))).take (i * 3) = xs.take (i * 3) := by
          rw [List.append_assoc, List.take_append_of_le_length (by omega), List.take_take, Nat.min_eq_left (by omega), List.take_append_of_le_length (by omega)]
        have t2 : ((xs ++ zer (cap - n)).take ((i + 1) * 3) ++ xs.drop (i * 3) ++ zer (cap - (n + 1))).drop (i * 3 + [x, y, z].length) = xs.drop (i * 3) ++ zer (cap - (n + 1)) := by
          rw [List.append_assoc]
          refine List.drop_left' ?_
          rw [hl3]; rfl
        rw [t1, t2]
        simp
      rw [e] at h9
      exact h9
    · exact Chg.setCells (by rfl) _ _ hC1
  obtain ⟨W2, hcp2, hB2, hC2⟩ := key2
  have hK := Lib.hid hB2
  have hKC := Lib.hid hC2
  have hi1 : ¬ ((i : Int) = (n : Int)) := by omega
  have hw1 : IntKind.i64.wrap ((i : Int) + 1) = (i : Int) + 1 := by rw [IntKind.wrap_i64]; omega
  have hb1 : (0 : Int) ≤ (i : Int) + 1 := by omega
  have htn : ((i : Int) + 1).toNat = i + 1 := by omega
  have hb2 : ¬ (cap = i + 1) := by omega
  have hb3 : (i : Int) ≤ (n : Int) := by omega
  have hb4 : ¬ (cap = i) := by omega
  have hb5 : (i : Int) ≤ (n : Int) + 1 := by omega
  clear hB2 hC2 hB1 hB1' hC1 hv1 hlen1 hdl hlen
  go_enter Try.func85, Try.ntmps85
  go_wp2_with (simp only [hov])
  go_region_law (refine step_copy_runI rfl _ _ 97 97 rfl _ _ (by simp [Act.eval, Act.put]) (by simp [Act.eval, Act.put]) (hcp1 _ _ _) ?_)
  go_wp2_with (at_builtin; refine wpList_copy_runI _ rfl _ _ 97 97 rfl _ _ rfl rfl (hcp2 _ _) ?_)
  go_ret
  exact ⟨_, rfl, ⟨ins3_len hx rfl (by omega), ins3_one (n := n) h1 h2, .inr ⟨R, cap, rfl, hcap, hcc, hK.out⟩⟩, .inl rfl, by simp [Value.ownBlock], hKC.out⟩
set_option maxHeartbeats 2000000 in
theorem ins_grow {w : World} {R n i vb : Nat} {xs : List Value} {x y z : Value} (hi : i < n) (hx : xs.length = n * 3) (h1 : ∀ u ∈ xs, u.oneCell' = true)
    (hR : Blk w R 102 xs.toArray) (hv : Blk w vb 102 #[x, y, z]) (h2 : ∀ u ∈ [x, y, z], u.oneCell' = true) (hn : n ≤ 60000) :
    Calls Try.prog 85 #[.slice (some ⟨R, 0, none⟩) n n, .int .i64 i, .slice (some ⟨vb, 0, none⟩) 1 1] w (InsEnds (.slice (some ⟨R, 0, none⟩) n n) n i xs [x, y, z] w) := by
  obtain ⟨i0, hi0, hz0, hzs, hzb⟩ := info_parts step_info
  have htl : (xs.take (i * 3)).length = i * 3 := by rw [List.length_take, hx]; omega
  have hdl : (xs.drop (i * 3)).length = (n - i) * 3 := by rw [List.length_drop, hx]; omega
  have hold : (Builtin.firstCells i0.size i (.slice (some ⟨R, 0, none⟩) i n)).run Try.prog w.drew = .ok (xs.take (i * 3)).toArray w.drew := by
    rw [hzs]
    refine run_firstCells_some w.drew 3 i ⟨R, 0, none⟩ i n (xs.take (i * 3)) htl fun j u hj => ?_
    rw [addr_add, Nat.zero_add, hR.drew.cell]
    rw [List.getElem?_take] at hj
    split at hj
    · simpa using hj
    · cases hj
  have hkk : (n : Int) + 1 - (i : Int) = ((n + 1 - i : Nat) : Int) := by omega
  have hge := grownCap_ge w (n + 1) n 102
  have hle := grownCap_le_maxLen w (n + 1) n 102 (by unfold maxLen; omega)
  have key0 : ∃ G W0, (∀ ty, (Builtin.append_ #[97, 3] ty #[.slice (some ⟨R, 0, none⟩) i n, .int .i64 ((n : Int) + 1 - (i : Int))]).run Try.prog w = .ok (.slice (some ⟨w.heap.size, 0, none⟩) (n + 1) G) W0) ∧ n + 1 ≤ G ∧ G ≤ 9223372036854775807 ∧
      Blk W0 w.heap.size 102 (xs.take (i * 3) ++ zer (n + 1 - i) ++ zer (G - (n + 1))).toArray ∧ Below w.heap.size w W0 := by
    refine ⟨grownCap w (n + 1) n 102, w.drew.alloc (.cells ((xs.take (i * 3)).toArray ++ Builtin.zeroCells (Value.agg #[.slice none 0 0, .slice none 0 0, .int .i64 0]).cells (n + 1 - i) ++ Builtin.zeroCells (Value.agg #[.slice none 0 0, .slice none 0 0, .int .i64 0]).cells (grownCap w (n + 1) n 102 - (n + 1))) 102), fun ty => ?_, hge, by unfold maxLen at hle; exact hle, ?_, ((Below.refl _ _).drew).alloc (Nat.le_refl _) _⟩
    · have h := Lib.run_append_grow_zeros w 97 3 ty 102 i0 _ .i64 .i64 Try.underlying97 Try.underlying3 hi0 hz0 (some ⟨R, 0, none⟩) i n (xs.take (i * 3)) hold (n + 1 - i) (by omega) (by omega) (by omega) (by omega) (by rw [hzb]; omega) (by rw [hzb, show i + (n + 1 - i) = n + 1 by omega]; exact growslice_fits (by omega) (by omega))
      rw [show i + (n + 1 - i) = n + 1 by omega] at h
      rw [hkk]
      exact h
    · rw [zeroCells_steps, zeroCells_steps]
      have e : (xs.take (i * 3) ++ zer (n + 1 - i) ++ zer (grownCap w (n + 1) n 102 - (n + 1))).toArray = (xs.take (i * 3)).toArray ++ (zer (n + 1 - i)).toArray ++ (zer (grownCap w (n + 1) n 102 - (n + 1))).toArray := by simp
      rw [e]
      exact Blk.new w.drew _ _
  obtain ⟨G, W0, hrun, hG1, hG2, hB0, hC0⟩ := key0
  have hlen0 : (xs.take (i * 3) ++ zer (n + 1 - i) ++ zer (G - (n + 1))).length = G * 3 := by simp only [List.length_append, htl, zer_len]; omega
  have hv0 : Blk W0 vb 102 #[x, y, z] := hv.below hC0 hv.lt
  have hR0 : Blk W0 R 102 xs.toArray := hR.below hC0 hR.lt
  have hRl := hR.lt
  have key1 : ∃ W1, (∀ ty dc, (Builtin.copy_ #[97, 97] ty #[.slice (some ⟨w.heap.size, i * 3, none⟩) (n + 1 - i) dc, .slice (some ⟨vb, 0, none⟩) 1 1]).run Try.prog W0 = .ok (goInt (Nat.min 1 (n + 1 - i))) W1) ∧
      Blk W1 w.heap.size 102 (xs.take (i * 3) ++ [x, y, z] ++ zer (n - i) ++ zer (G - (n + 1))).toArray ∧ Below w.heap.size w W1 ∧ Blk W1 R 102 xs.toArray := by
    refine ⟨_, fun ty dc => run_copy_cellsK W0 _ _ ty 102 3 w.heap.size (i * 3) (n + 1 - i) dc ⟨vb, 0, none⟩ 1 1 [x, y, z] Try.underlying97 step_size ?_ ?_ ?_ ?_ h2, ?_, ?_, ?_⟩
    · have : Nat.min 1 (n + 1 - i) = 1 := by simp only [Nat.min_def]; split <;> omega
      rw [this]; rfl
    · intro j u hj
      rw [addr_add, Nat.zero_add, hv0.cell]
      simpa using hj
    · intro j hj
      exact blk_isSome hB0 (by rw [hlen0]; simp at hj; omega)
    · intro j hj
      exact hB0.frozen _
    · have h9 := blk_setCells [x, y, z] (i * 3) hB0 (by rw [hlen0]; simp; omega)
      have e : (xs.take (i * 3) ++ zer (n + 1 - i) ++ zer (G - (n + 1))).take (i * 3) ++ [x, y, z] ++ (xs.take (i * 3) ++ zer (n + 1 - i) ++ zer (G - (n + 1))).drop (i * 3 + [x, y, z].length) = xs.take (i * 3) ++ [x, y, z] ++ zer (n - i) ++ zer (G - (n + 1)) := by
        have t1 : (xs.take (i * 3) ++ zer (n + 1 - i) ++ zer (G - (n + 1))).take (i * 3) = xs.take (i * 3) := by
          rw [List.append_assoc]
          exact List.take_left' htl
        have t2 : (xs.take (i * 3) ++ zer (n + 1 - i) ++ zer (G - (n + 1))).drop (i * 3 + [x, y, z].length) = zer (n - i) ++ zer (G - (n + 1)) := by
          rw [List.append_assoc, List.drop_append, List.drop_eq_nil_of_le (by rw [htl]; omega), List.nil_append, htl, show i * 3 + [x, y, z].length - i * 3 = 3 by simp, show n + 1 - i = (n - i) + 1 by omega, List.drop_append, zer_drop, zer_len, show 3 - (n - i + 1) * 3 = 0 by omega, List.drop_zero]
        rw [t1, t2]
        simp
      rw [e] at h9
      exact h9
    · exact (Chg.setCells (P := fun g => g = w.heap.size) (by rfl) _ _ (Chg.of_below hC0)).below (Nat.le_refl _) (fun g hg => by rw [hg]; exact Nat.le_refl _)
    · exact hR.chg (Chg.setCells (P := fun g => g = w.heap.size) (by rfl) _ _ (Chg.of_below hC0)) (fun e => by omega)
  obtain ⟨W1, hcp1, hB1, hC1, hR1⟩ := key1
  have hlen1 : (xs.take (i * 3) ++ [x, y, z] ++ zer (n - i) ++ zer (G - (n + 1))).length = G * 3 := by
    simp only [List.length_append, htl, zer_len, List.length_cons, List.length_nil]
    omega
  have key2 : ∃ W2, (∀ ty dc sc, (Builtin.copy_ #[97, 97] ty #[.slice (some ⟨w.heap.size, (i + 1) * 3, none⟩) (n - i) dc, .slice (some ⟨R, i * 3, none⟩) (n - i) sc]).run Try.prog W1.drew = .ok (goInt (Nat.min (n - i) (n - i))) W2) ∧
      Blk W2 w.heap.size 102 (xs.take (i * 3) ++ [x, y, z] ++ xs.drop (i * 3) ++ zer (G - (n + 1))).toArray ∧ Below w.heap.size w W2 := by
    refine ⟨_, fun ty dc sc => run_copy_cellsK W1.drew _ _ ty 102 3 w.heap.size ((i + 1) * 3) (n - i) dc ⟨R, i * 3, none⟩ (n - i) sc (xs.drop (i * 3)) Try.underlying97 step_size ?_ ?_ ?_ ?_ (mem_one h1 _), ?_, ?_⟩
    · rw [hdl]; congr 1; simp only [Nat.min_def]; split <;> omega
    · intro j u hj
      rw [addr_add, hR1.drew.cell]
      rw [List.getElem?_drop] at hj
      simpa using hj
    · intro j hj
      exact blk_isSome hB1.drew (by rw [hlen1]; rw [hdl] at hj; omega)
    · intro j hj
      exact hB1.drew.frozen _
    · have h9 := blk_setCells (xs.drop (i * 3)) ((i + 1) * 3) hB1.drew (by rw [hlen1, hdl]; omega)
      have e : (xs.take (i * 3) ++ [x, y, z] ++ zer (n - i) ++ zer (G - (n + 1))).take ((i + 1) * 3) ++ xs.drop (i * 3) ++ (xs.take (i * 3) ++ [x, y, z] ++ zer (n - i) ++ zer (G - (n + 1))).drop ((i + 1) * 3 + (xs.drop (i * 3)).length) = xs.take (i * 3) ++ [x, y, z] ++ xs.drop (i * 3) ++ zer (G - (n + 1)) := by
        have hl3 : (xs.take (i * 3) ++ [x, y, z]).length = (i + 1) * 3 := by rw [List.length_append, htl]; simp; omega
        have t1 : (xs.take (i * 3) ++ [x, y, z] ++ zer (n - i) ++ zer (G - (n + 1))).take ((i + 1) * 3) = xs.take (i * 3) ++ [x, y, z] := by
          rw [List.append_assoc (xs.take (i * 3) ++ [x, y, z])]
          exact List.take_left' hl3
        have t2 : (xs.take (i * 3) ++ [x, y, z] ++ zer (n - i) ++ zer (G - (n + 1))).drop ((i + 1) * 3 + (xs.drop (i * 3)).length) = zer (G - (n + 1)) := by
          refine List.drop_left' ?_
          rw [List.length_append, hl3, zer_len, hdl]
        rw [t1, t2]
      rw [e] at h9
      exact h9
    · exact (Chg.setCells (P := fun g => g = w.heap.size) (by rfl) _ _ (Chg.of_below hC1.drew)).below (Nat.le_refl _) (fun g hg => by rw [hg]; exact Nat.le_refl _)
  obtain ⟨W2, hcp2, hB2, hC2⟩ := key2
  have hK := Lib.hid hB2
  have hKC := Lib.hid hC2
  have hi1 : ¬ ((i : Int) = (n : Int)) := by omega
  have hw1 : IntKind.i64.wrap ((i : Int) + 1) = (i : Int) + 1 := by rw [IntKind.wrap_i64]; omega
  have hb1 : (0 : Int) ≤ (i : Int) + 1 := by omega
  have htn : ((i : Int) + 1).toNat = i + 1 := by omega
  have hb3 : (i : Int) ≤ (n : Int) := by omega
  have hb4 : ¬ (n = i) := by omega
  have hb5 : (i : Int) ≤ (n : Int) + 1 := by omega
  have hb6 : ¬ (G = i) := by omega
  have hb7 : ¬ (G = i + 1) := by omega
  have hb8 : i ≤ G := by omega
  clear hB2 hC2 hB1 hC1 hR1 hB0 hC0 hv0 hR0 hlen0 hlen1 hdl htl hold hge hle hkk
  go_enter Try.func85, Try.ntmps85
  go_wp2_with (at_builtin; first | (refine Lib.wpList_append_run _ rfl _ _ _ _ rfl _ _ rfl rfl _ _ (hrun _) ?_) | (refine wpList_copy_runI _ rfl _ _ 97 97 rfl _ _ rfl rfl (hcp1 _ _) ?_))
  go_region_law (refine step_copy_runI rfl _ _ 97 97 rfl _ _ (by simp [Act.eval, Act.put]) (by simp [Act.eval, Act.put]) (hcp2 _ _ _) ?_)
  go_wp2_with fail
  go_ret
  exact ⟨_, rfl, ⟨ins3_len hx rfl (by omega), ins3_one (n := n) h1 h2, .inr ⟨_, G, rfl, hG1, hG2, hK.out⟩⟩, .inr ⟨_, rfl, Nat.le_refl _⟩, by simp [Value.ownBlock], Chg.of_below hKC.out⟩
end Go.Proofs.Ytaidbcppecoenaa

