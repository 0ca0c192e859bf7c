import Derived.Test.YtilelmejpbnbnaaElimC
/- Package elim: a system in memory. -/
namespace Go.Proofs.Ytilelmejpbnbnaa
open Go.RowKit
set_option linter.unusedVariables false
set_option maxRecDepth 100000

/-- Cells, three for each step, that read as these rows and where they lead. -/
def StepsOf (w : World) (L : List RowL) (xs : List Value) : Prop := xs.length = L.length * 3 ∧ ∀ i r, L[i]? = some r → ∃ A1 n1 c1 A2 n2 c2,
  xs[i * 3]? = some (.slice A1 n1 c1) ∧ xs[i * 3 + 1]? = some (.slice A2 n2 c2) ∧ xs[i * 3 + 2]? = some (.int .i64 (leadI r.1)) ∧ RowIs w r (.agg #[.slice A1 n1 c1, .slice A2 n2 c2]) ∧ n1 ≤ c1
theorem StepsOf.nil (w : World) : StepsOf w [] [] := ⟨rfl, fun i r h => by simp at h⟩
theorem StepsOf.step {w w' : World} {L : List RowL} {xs : List Value} (h : StepsOf w L xs) (hb : Below w.heap.size w w') : StepsOf w' L xs := ⟨h.1, fun i r hi => by
  obtain ⟨A1, n1, c1, A2, n2, c2, e0, e1, e2, hr⟩ := h.2 i r hi
  exact ⟨A1, n1, c1, A2, n2, c2, e0, e1, e2, hr.1.step hb, hr.2⟩⟩
theorem StepsOf.chg {P : Nat → Prop} {w w' : World} {L : List RowL} {xs : List Value} (h : StepsOf w L xs) (hc : Chg P w w') (hp : Byteless w P) : StepsOf w' L xs := ⟨h.1, fun i r hi => by
  obtain ⟨A1, n1, c1, A2, n2, c2, e0, e1, e2, hr⟩ := h.2 i r hi
  exact ⟨A1, n1, c1, A2, n2, c2, e0, e1, e2, hr.1.chg hc hp, hr.2⟩⟩
theorem StepsOf.at3 {w : World} {L : List RowL} {xs : List Value} (h : StepsOf w L xs) (j : Nat) (u : Value) (hu : xs[j]? = some u) : (∃ A n c, u = .slice A n c) ∨ ∃ z, u = .int .i64 z := by
  have hl := h.1
  have hj := (List.getElem?_eq_some_iff.1 hu).1
  obtain ⟨A1, n1, c1, A2, n2, c2, e0, e1, e2, _⟩ := h.2 (j / 3) L[j / 3] (List.getElem?_eq_getElem (by omega))
  have h3 : j % 3 < 3 := Nat.mod_lt _ (by omega)
  match hm : j % 3, h3 with
  | 0, _ =>
    rw [show j / 3 * 3 = j by omega, hu] at e0
    injection e0 with e0
    exact .inl ⟨_, _, _, e0⟩
  | 1, _ =>
    rw [show j / 3 * 3 + 1 = j by omega, hu] at e1
    injection e1 with e1
    exact .inl ⟨_, _, _, e1⟩
  | 2, _ =>
    rw [show j / 3 * 3 + 2 = j by omega, hu] at e2
    injection e2 with e2
    exact .inr ⟨_, e2⟩
theorem StepsOf.one {w : World} {L : List RowL} {xs : List Value} (h : StepsOf w L xs) : ∀ u ∈ xs, u.oneCell' = true := by
  intro u hu
  obtain ⟨j, hj, e⟩ := List.getElem_of_mem hu
  rcases h.at3 j u (by rw [List.getElem?_eq_getElem hj, e]) with ⟨A, n, c, rfl⟩ | ⟨z, rfl⟩ <;> rfl
theorem SRow.val {w : World} {v : Value} {n : Nat} {xs : List Value} (h : SRow w v n xs) : ∃ A c, v = .slice A n c ∧ n ≤ c ∧ c ≤ 9223372036854775807 := by
  rcases h.2.2 with ⟨rfl, rfl⟩ | ⟨R, cap, rfl, h1, h2, _⟩
  · exact ⟨none, 0, rfl, by omega, by omega⟩
  · exact ⟨_, cap, rfl, h1, h2⟩
theorem SRow.keep {w w' : World} {v : Value} {n : Nat} {xs : List Value} (h : SRow w v n xs) (hk : ∀ g, some g = v.ownBlock → g < w.heap.size → w'.heap[g]? = w.heap[g]?) : SRow w' v n xs := by
  obtain ⟨h1, h2, ⟨rfl, rfl⟩ | ⟨R, cap, rfl, h3, h4, h5⟩⟩ := h
  · exact ⟨h1, h2, .inl ⟨rfl, rfl⟩⟩
  · exact ⟨h1, h2, .inr ⟨R, cap, rfl, h3, h4, (hk R rfl h5.lt).trans h5⟩⟩
theorem SRow.step {w w' : World} {v : Value} {n : Nat} {xs : List Value} (h : SRow w v n xs) (hb : Below w.heap.size w w') : SRow w' v n xs := h.keep fun g _ hg => hb.block g hg
theorem SRow.lt {w : World} {v : Value} {n : Nat} {xs : List Value} (h : SRow w v n xs) {g : Nat} (hg : some g = v.ownBlock) : g < w.heap.size := by
  rcases h.2.2 with ⟨rfl, rfl⟩ | ⟨R, cap, rfl, _, _, h5⟩
  · simp [Value.ownBlock] at hg
  · simp [Value.ownBlock] at hg
    subst hg
    exact h5.lt
/-- A system of k symbols of t bytes: these rows, each with a 1 where all others have a 0. -/
def Sys (w : World) (p k t : Nat) (L : List RowL) (v : Value) : Prop :=
  Blk w p 99 #[.int .i64 (k : Int), .int .i64 (t : Int), v] ∧ (∃ xs, SRow w v L.length xs ∧ StepsOf w L xs) ∧ Good k t L ∧ Red (ledE L) ∧ 1 ≤ k ∧ k ≤ 4096 ∧ t ≤ 65535 ∧ some p ≠ v.ownBlock
theorem Sys.step {w w' : World} {p k t : Nat} {L : List RowL} {v : Value} (h : Sys w p k t L v) (hb : Below w.heap.size w w') : Sys w' p k t L v := by
  obtain ⟨h1, ⟨xs, h2, h3⟩, h4⟩ := h
  exact ⟨h1.below hb h1.lt, ⟨xs, h2.step hb, h3.step hb⟩, h4⟩
/-- The blocks that a system's calls may change. -/
def Its (p : Nat) (v : Value) : Nat → Prop := fun g => g = p ∨ some g = v.ownBlock
theorem Sys.byteless {w : World} {p k t : Nat} {L : List RowL} {v : Value} (h : Sys w p k t L v) : Byteless w (Its p v) := by
  obtain ⟨h1, ⟨xs, h2, h3⟩, _⟩ := h
  obtain ⟨A, c, hv, _⟩ := h2.val
  intro g hg i u hu
  rcases hg with rfl | hg
  · rw [h1.cell] at hu
    subst hv
    match i, hu with
    | 0, hu => simp at hu
    | 1, hu => simp at hu
    | 2, hu => simp at hu
    | i + 3, hu => simp at hu
  · rcases h2.2.2 with ⟨rfl, _⟩ | ⟨R, cap, rfl, _, _, h5⟩
    · simp [Value.ownBlock] at hg
    · simp [Value.ownBlock] at hg
      subst hg
      rw [h5.cell, List.getElem?_toArray] at hu
      by_cases hi : i < xs.length
      · rw [List.getElem?_append_left hi] at hu
        rcases h3.at3 i _ hu with ⟨A, n, c, e⟩ | ⟨z, e⟩
        · cases e
        · injection e with e1 e2; cases e1
      · rw [List.getElem?_append_right (by omega)] at hu
        by_cases hz : i - xs.length < (cap - L.length) * 3
        · rw [zer_at hz] at hu
          split at hu
          · injection hu with hu; injection hu with e1 e2; cases e1
          · injection hu with hu; cases hu
        · rw [List.getElem?_eq_none (by rw [zer_len]; omega)] at hu
          cases hu
theorem Sys.chg {P : Nat → Prop} {w w' : World} {p k t : Nat} {L : List RowL} {v : Value} (h : Sys w p k t L v) (hc : Chg P w w') (hp : Byteless w P) (hd : ∀ g, Its p v g → ¬ P g) : Sys w' p k t L v := by
  obtain ⟨h1, ⟨xs, h2, h3⟩, h4⟩ := h
  exact ⟨h1.chg hc (hd p (.inl rfl)), ⟨xs, h2.keep fun g hg hlt => hc.block g hlt (hd g (.inr hg)), h3.chg hc hp⟩, h4⟩
theorem Sys.at_room {w : World} {p k t j : Nat} {L : List RowL} {v : Value} (h : Sys w p k t L v) (hj : j < L.length) : ∃ R cap A1 n1 c1 A2 n2 c2, v = .slice (some ⟨R, 0, none⟩) L.length cap ∧ R < w.heap.size ∧
    w.cell? ⟨R, j * 3, none⟩ = some (.slice A1 n1 c1) ∧ w.cell? ⟨R, j * 3 + 1, none⟩ = some (.slice A2 n2 c2) ∧ w.cell? ⟨R, j * 3 + 2, none⟩ = some (.int .i64 (leadI (L[j]?.getD ([], [])).1)) ∧ RowIs w (L[j]?.getD ([], [])) (.agg #[.slice A1 n1 c1, .slice A2 n2 c2]) ∧ n1 ≤ c1 := by
  obtain ⟨h1, ⟨xs, h2, h3⟩, h4⟩ := h
  obtain ⟨A1, n1, c1, A2, n2, c2, e0, e1, e2, hr⟩ := h3.2 j L[j] (List.getElem?_eq_getElem hj)
  rcases h2.2.2 with ⟨_, h0⟩ | ⟨R, cap, rfl, h5, h6, h7⟩
  · omega
  · have hl := h3.1
    have hc : ∀ i, i < xs.length → w.cell? ⟨R, i, none⟩ = xs[i]? := fun i hi => by
      rw [h7.cell, List.getElem?_toArray, List.getElem?_append_left hi]
    rw [List.getElem?_eq_getElem hj]
    exact ⟨R, cap, A1, n1, c1, A2, n2, c2, rfl, h7.lt, (hc _ (by omega)).trans e0, (hc _ (by omega)).trans e1, (hc _ (by omega)).trans e2, hr⟩
theorem Sys.at_ {w : World} {p k t j : Nat} {L : List RowL} {v : Value} (h : Sys w p k t L v) (hj : j < L.length) : ∃ R cap A1 n1 c1 A2 n2 c2, v = .slice (some ⟨R, 0, none⟩) L.length cap ∧ R < w.heap.size ∧
    w.cell? ⟨R, j * 3, none⟩ = some (.slice A1 n1 c1) ∧ w.cell? ⟨R, j * 3 + 1, none⟩ = some (.slice A2 n2 c2) ∧ w.cell? ⟨R, j * 3 + 2, none⟩ = some (.int .i64 (leadI (L[j]?.getD ([], [])).1)) ∧ RowIs w (L[j]?.getD ([], [])) (.agg #[.slice A1 n1 c1, .slice A2 n2 c2]) := by
  obtain ⟨R, cap, A1, n1, c1, A2, n2, c2, h1, h2, h3, h4, h5, h6, _⟩ := h.at_room hj
  exact ⟨R, cap, A1, n1, c1, A2, n2, c2, h1, h2, h3, h4, h5, h6⟩
theorem Sys.len {w : World} {p k t : Nat} {L : List RowL} {v : Value} (h : Sys w p k t L v) : L.length ≤ k := by
  obtain ⟨_, _, h3, _⟩ := h
  have h4 : (ledE L).length ≤ k := h3.ech.len_le fun i hi => by
    obtain ⟨e, he, rfl⟩ := mem_leads.1 hi
    obtain ⟨r, hr, rfl⟩ := led_mem.1 he
    obtain ⟨z1, _, z3⟩ := h3.1 r hr
    have := lead_bounds r.1
    simp only
    omega
  simpa [ledE] using h4
theorem Sys.lt {w : World} {p k t : Nat} {L : List RowL} {v : Value} (h : Sys w p k t L v) : ∀ g, Its p v g → g < w.heap.size := by
  obtain ⟨h1, ⟨xs, h2, _⟩, _⟩ := h
  intro g hg
  rcases hg with rfl | hg
  · exact h1.lt
  · exact h2.lt hg
/-- A row of the call's own, turned. -/
theorem Sys.turn {w : World} {p k t g : Nat} {L : List RowL} {v x y x0 y0 : Value} {T : TypeId} (h : Sys w p k t L v) (hg : Blk w g T #[x0, y0]) (hn : NoBytes #[x0, y0]) (hd : ¬ Its p v g) : Sys ((w.setCell ⟨g, 0, none⟩ x).setCell ⟨g, 1, none⟩ y) p k t L v := by
  refine h.chg (P := fun q => q = g) (((Chg.refl (fun q => q = g) w).setCell (p := ⟨g, 0, none⟩) (by rfl) x).setCell (p := ⟨g, 1, none⟩) (by rfl) y) (fun q hq i u hu => ?_) (fun q hq e => hd (e ▸ hq))
  subst hq
  rw [hg.cell] at hu
  exact hn i _ u hu rfl
theorem Sys.new {w : World} {k t : Nat} (h1 : 1 ≤ k) (h2 : k ≤ 4096) (h3 : t ≤ 65535) : Sys (w.alloc (.cells #[.int .i64 (k : Int), .int .i64 (t : Int), .slice none 0 0] 99)) w.heap.size k t [] (.slice none 0 0) :=
  ⟨Blk.new _ _ _, ⟨[], SRow.nil _, StepsOf.nil _⟩, Good.nil _ _, ⟨Ech.nil, fun e he => by simp [ledE] at he⟩, h1, h2, h3, by simp [Value.ownBlock]⟩
end Go.Proofs.Ytilelmejpbnbnaa
