import Derived.Test.YtheohcebiimdoaaWords2
/- One row more, of the call's own. -/
namespace Go.Proofs.Ytheohcebiimdoaa
open Go.RowKit
set_option linter.unusedVariables false
set_option maxRecDepth 100000

theorem own_one {w : World} {base n : Nat} {v : Value} {e : TypeId} {xs : List Value} (h : w.ownsRow base e 1 v n xs) : ∀ x ∈ ([v] : List Value), x.oneCell' = true := by
  intro x hx
  simp only [List.mem_singleton] at hx
  subst hx
  rcases h.2 with ⟨rfl, _⟩ | ⟨g, cap, cur, rfl, _⟩ <;> rfl
/-- 'out = append(out, row)', the new slice of one having just been built. -/
theorem push_row {ops : Array Oper} {rest : List Oper} {o : Oper} {a : Act} {Q : Exit → Act → World → Prop} {w : World} (hgd : o.guard = none) (s x : Operand)
    (ho : o.op = .call { callee := .builtin .append, args := #[s, x], argTypes := #[27, 27] })
    (base : Nat) (v : Value) (rows : List (List UInt8)) (k m : Nat) (vi : Value) (us : List UInt8) (hs : a.eval s = v) (hwas : Was w base v rows) (hk : rows.length = k) (hm : us.length = m) (hi : w.ownsRow base 5 1 vi m (bvs us))
    (g c : Nat) (hx : a.eval x = .slice (some ⟨g, 0, none⟩) 1 c) (hc : w.cell? ⟨g, 0, none⟩ = some vi) (hn : k + 1 ≤ 5864062014805) (hbase : base ≤ w.heap.size)
    (h : ∀ v' w', Was w' base v' (rows ++ [us]) → w.grownBy w' v.ownBlock → Below base w w' → wpList Try.prog ops Q rest (a.put o.dst v') w') : wpList Try.prog ops Q (o :: rest) a w := by
  subst hk hm
  obtain ⟨i0, hi0, hz0, hz1, hz2⟩ := info_parts row_info
  obtain ⟨xs, h1, h2⟩ := hwas
  refine wpList_append_own w hgd s x _ ho base 25 i0 _ 1 24 Try.underlying27 hi0 hz0 hz1 hz2 rfl (by omega) v rows.length xs hs h1 ⟨g, 0, none⟩ 1 c [vi] hx rfl (cells_one hc) (own_one hi) (by unfold maxLen; omega) (by omega) hbase ?_
  intro v' w' h3 h4 _
  exact h v' w' (Was.push h1 h2 hi h3 h4) h4 (own_grown_below h1 h4 hbase)
/-- A block of another kind than rows stays. -/
theorem Blk.rowsGrown {w w' : World} {base g : Nat} {v : Value} {rows : List (List UInt8)} {T : TypeId} {cs : Array Value} (h : Blk w g T cs) (hw : Was w base v rows) (hg : w.grownBy w' v.ownBlock) (hT : T ≠ 25) : Blk w' g T cs := by
  obtain ⟨xs, h1, _⟩ := hw
  refine h.grown hg fun e => ?_
  rcases h1.2 with ⟨rfl, _⟩ | ⟨g', cap, cur, rfl, _, hh, _⟩
  · cases e
  · simp only [Value.ownBlock, Option.some.injEq] at e
    subst e
    unfold Blk at h
    rw [hh] at h
    injection h with h
    injection h with _ h
    exact hT h.symm
theorem own_mono {w : World} {base base' : Nat} {e : TypeId} {size n : Nat} {v : Value} {xs : List Value} (h : w.ownsRow base e size v n xs) (hb : base' ≤ base) : w.ownsRow base' e size v n xs := by
  obtain ⟨h3, h4⟩ := h
  refine ⟨h3, ?_⟩
  rcases h4 with h4 | ⟨g, cap, cur, h5, h6, h7⟩
  · exact .inl h4
  · exact .inr ⟨g, cap, cur, h5, by omega, h7⟩
/-- A block of bytes stays where one byte row of the call's own grows, but that. -/
theorem Was.mono {w : World} {base base' : Nat} {v : Value} {rows : List (List UInt8)} (h : Was w base v rows) (hb : base' ≤ base) : Was w base' v rows := by
  obtain ⟨xs, h1, h2⟩ := h
  have key : ∀ {e : TypeId} {size n : Nat} {v : Value} {xs : List Value}, w.ownsRow base e size v n xs → w.ownsRow base' e size v n xs := by
    rintro e size n v xs ⟨h3, h4⟩
    refine ⟨h3, ?_⟩
    rcases h4 with h4 | ⟨g, cap, cur, h5, h6, h7⟩
    · exact .inl h4
    · exact .inr ⟨g, cap, cur, h5, by omega, h7⟩
  exact ⟨xs, key h1, fun i us hu => by obtain ⟨vi, h3, h4⟩ := h2 i us hu; exact ⟨vi, h3, key h4⟩⟩
theorem Was.step {w w' : World} {base : Nat} {v : Value} {rows : List (List UInt8)} (h : Was w base v rows) (hb : Below w.heap.size w w') : Was w' base v rows := h.below hb
end Go.Proofs.Ytheohcebiimdoaa
