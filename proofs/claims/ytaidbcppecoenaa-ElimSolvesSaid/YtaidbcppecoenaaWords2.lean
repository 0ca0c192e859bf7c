import Derived.Test.YtaidbcppecoenaaWords
/- More words of memory: rows of rows that the call itself made. -/
namespace Go.Proofs.Ytaidbcppecoenaa
open Go.RowKit
set_option linter.unusedVariables false
set_option maxRecDepth 100000

/-- 'append(own, x...)' where x is nil: nothing happens. -/
theorem run_append_nil {P : Program} (w : World) (base : Nat) (t ty e : TypeId) (i : TypeInfo) (size : Nat) (ht : P.underlying t = some (.slice e)) (hi : P.info? e = some i)
    (v : Value) (n : Nat) (xs : List Value) (hown : w.ownsRow base e size v n xs) (c : Nat) : (Builtin.append_ #[t, t] ty #[v, .slice none 0 c]).run P w = .ok v w := by
  rcases hown.2 with ⟨rfl, rfl⟩ | ⟨g, cap, cur, rfl, _, _, hnc, _⟩
  · simp [Builtin.append_, run_underlying ht, sizeOf, typeInfo, hi, Builtin.lenOf, Builtin.firstCells]
  · simp [Builtin.append_, run_underlying ht, sizeOf, typeInfo, hi, Builtin.lenOf, Builtin.firstCells, hnc, storeCells]
theorem append_nil {P : Program} {w : World} {ops : Array Oper} {rest : List Oper} {o : Oper} {a : Act} {Q : Exit → Act → World → Prop} (hgd : o.guard = none) (s x : Operand) (t : TypeId)
    (ho : o.op = .call { callee := .builtin .append, args := #[s, x], argTypes := #[t, t] })
    (base : Nat) (e : TypeId) (i : TypeInfo) (size : Nat) (ht : P.underlying t = some (.slice e)) (hi : P.info? e = some i)
    (v : Value) (n : Nat) (xs : List Value) (hs : a.eval s = v) (hown : w.ownsRow base e size v n xs) (c : Nat) (hx : a.eval x = .slice none 0 c)
    (h : wpList P ops Q rest (a.put o.dst v) w) : wpList P ops Q (o :: rest) a w := by
  refine wpList_plain hgd fun K hK => ?_
  have hrun := run_append_nil (P := P) w base t o.type e i size ht hi v n xs hown c
  unfold Oper.wp
  simp [execOp, ho, resolve, invoke, builtin, hs, hx, hrun, Result.andThen]
  exact hK _ _ h
/-- 'append(own, x...)' where x is a row of bytes. -/
theorem push_bytes {ops : Array Oper} {rest : List Oper} {o : Oper} {a : Act} {Q : Exit → Act → World → Prop} {w : World} (hgd : o.guard = none) (s x : Operand)
    (ho : o.op = .call { callee := .builtin .append, args := #[s, x], argTypes := #[52, 52] })
    (base : Nat) (v : Value) (n : Nat) (us : List UInt8) (hs : a.eval s = v) (hown : w.ownsRow base 5 1 v n (bvs us))
    {B : Nat} (A : Option Addr) (m c : Nat) (vs : List UInt8) (hx : a.eval x = .slice A m c) (hr : Rd w B A m vs) (hn : n + m ≤ 140737488355328) (hbase : base ≤ w.heap.size)
    (h : ∀ v' w', w'.ownsRow base 5 1 v' (n + m) (bvs (us ++ vs)) → w.grownBy w' v.ownBlock → wpList Try.prog ops Q rest (a.put o.dst v') w') : wpList Try.prog ops Q (o :: rest) a w := by
  obtain ⟨i0, hi0, hz0, hz1, hz2⟩ := info_parts byte_info
  have hl := hr.1
  cases A with
  | none =>
    have hm : m = 0 := by
      refine Nat.eq_zero_of_not_pos fun hp => ?_
      obtain ⟨b, off, e, _⟩ := hr.2 hp
      cases e
    subst hm
    obtain rfl : vs = [] := List.eq_nil_of_length_eq_zero hl
    refine append_nil hgd s x _ ho base 5 i0 1 Try.underlying52 hi0 v n _ hs hown c hx ?_
    exact h v w (by simpa using hown) (World.grownBy.refl w _)
  | some ad =>
    refine wpList_append_own w hgd s x _ ho base 5 i0 _ 1 1 Try.underlying52 hi0 hz0 hz1 hz2 rfl (by omega) v n _ hs hown ad m c (bvs vs) hx (by rw [bvs_length, hl]; omega) ?_ (bvs_one vs) (by unfold maxLen; omega) (by omega) hbase ?_
    · intro j u hj
      have hj' : j < vs.length := by
        have := (List.getElem?_eq_some_iff.1 hj).1
        rwa [bvs_length] at this
      obtain ⟨ad', e, hc⟩ := hr.adds (by omega)
      injection e with e
      subst e
      exact hc j u hj
    · intro v' w' h1 h2 _
      exact h v' w' (by simpa [bvs] using h1) h2

/-! ### A row of rows of the call's own -/
theorem row_info : (Try.prog.info? 52).map (fun i => (i.zero, i.size, i.bytes)) = some (some (.slice none 0 0), 1, 24) := by kernel_rfl
def Was (w : World) (base : Nat) (v : Value) (rows : List (List UInt8)) : Prop :=
  ∃ xs, w.ownsRow base 52 1 v rows.length xs ∧ ∀ (i : Nat) (us : List UInt8), rows[i]? = some us → ∃ vi, xs[i]? = some vi ∧ w.ownsRow base 5 1 vi us.length (bvs us)
theorem own_types {w : World} {base base' : Nat} {e e' : TypeId} {size size' n n' : Nat} {v v' : Value} {xs xs' : List Value} (h : w.ownsRow base e size v n xs) (h' : w.ownsRow base' e' size' v' n' xs') (hne : e ≠ e') : v.ownBlock = none ∨ v.ownBlock ≠ v'.ownBlock := by
  rcases h.2 with ⟨rfl, _⟩ | ⟨g, cap, cur, rfl, _, hh, _⟩
  · exact .inl rfl
  · rcases h'.2 with ⟨rfl, _⟩ | ⟨g', cap', cur', rfl, _, hh', _⟩
    · exact .inr (by simp [Value.ownBlock])
    · refine .inr fun e1 => ?_
      simp only [Value.ownBlock, Option.some.injEq] at e1
      subst e1
      rw [hh] at hh'
      injection hh' with h1
      injection h1 with _ h2
      exact hne h2
theorem Was.nil (w : World) (base : Nat) : Was w base (.slice none 0 0) [] := ⟨[], World.ownsRow_nil _ _ _ _, fun i us h => by simp at h⟩
theorem Was.below {w w' : World} {base : Nat} {v : Value} {rows : List (List UInt8)} (h : Was w base v rows) (hb : Below w.heap.size w w') : Was w' base v rows := by
  obtain ⟨xs, h1, h2⟩ := h
  have hg := grown_of_below hb none
  refine ⟨xs, h1.kept hg ?_, fun i us hu => ?_⟩
  · cases hv : v.ownBlock with
    | none => exact .inl rfl
    | some g => exact .inr (by simp)
  · obtain ⟨vi, h3, h4⟩ := h2 i us hu
    refine ⟨vi, h3, h4.kept hg ?_⟩
    cases hv : vi.ownBlock with
    | none => exact .inl rfl
    | some g => exact .inr (by simp)
theorem Was.rds {w : World} {base : Nat} {v : Value} {rows : List (List UInt8)} (h : Was w base v rows) : ∃ A c, v = .slice A rows.length c ∧ Rds w w.heap.size A rows.length rows := by
  obtain ⟨xs, h1, h2⟩ := h
  have hl : xs.length = rows.length := by simpa using h1.1
  rcases h1.2 with ⟨rfl, h0⟩ | ⟨g, cap, cur, rfl, hb, hh, hn, hm, hs, ht⟩
  · exact ⟨none, 0, by rw [h0], rfl, fun h => absurd h (by omega)⟩
  · refine ⟨some ⟨g, 0, none⟩, cap, rfl, rfl, fun _ => ⟨g, 0, rfl, Blk.lt hh, fun i us hu => ?_⟩⟩
    have hi : i < rows.length := (List.getElem?_eq_some_iff.1 hu).1
    obtain ⟨vi, h3, h4⟩ := h2 i us hu
    obtain ⟨Ai, ci, rfl, hr⟩ := Rd.of_own h4
    refine ⟨Ai, ci, ?_, hr⟩
    rw [Nat.zero_add, Blk.cell hh i]
    rw [← ht, List.getElem?_take, if_pos (by omega)] at h3
    simpa using h3
end Go.Proofs.Ytaidbcppecoenaa

