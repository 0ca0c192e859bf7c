import Derived.Test.YtejnkohgecclbaaDoorL04A
import Derived.Deep.DeepCutAuto
import Derived.Deep.CutRange
/- SumTells: what its round leans on. -/
namespace Go.Proofs.YtejnkohgecclbaaDoor
open Go.ChangeShapes Go.WideShapes Go.ChangeAt Go.RowKit
set_option linter.unusedVariables false
set_option maxRecDepth 100000

/-- 'append(own, x...)' of a row of bytes, inside a region. -/
theorem wp_push {o : Oper} {a : Act} {K : Act → World → Prop} {Q : Exit → Act → World → Prop} {w : World} (s x : Operand)
    (ho : o.op = .call { callee := .builtin .append, args := #[s, x], argTypes := #[24, 24] })
    (base : Nat) (v : Value) (n : Nat) (us : List UInt8) (hs : a.eval s = v) (hown : w.ownsRow base 5 1 v n (bvs us))
    {B : Nat} (A : Option Addr) (m c : Nat) (vs : List UInt8) (hx : a.eval x = .slice A m c) (hr : Rd w B A m vs) (hn : n + m ≤ 140737488355328) (hbase : base ≤ w.heap.size)
    (h : ∀ v' w', w'.ownsRow base 5 1 v' (n + m) (bvs (us ++ vs)) → w.grownBy w' v.ownBlock → K (a.put o.dst v') w') : o.wp Tryd.prog a w K Q := by
  obtain ⟨i0, hi0, hz0, hz1, hz2⟩ := info_parts byte_info
  have hl := hr.1
  cases A with
  | none =>
    have hm : m = 0 := by
      refine Nat.eq_zero_of_not_pos fun hp => ?_
      obtain ⟨b, off, e, _⟩ := hr.2 hp
      cases e
    subst hm
    obtain rfl : vs = [] := List.eq_nil_of_length_eq_zero hl
    have hrun := run_append_nil (P := Tryd.prog) w base 24 o.type 5 i0 1 Tryd.underlying24 hi0 v n _ hown c
    unfold Oper.wp
    simp [execOp, ho, resolve, invoke, builtin, hs, hx, hrun, Result.andThen]
    exact h v w (by simpa using hown) (World.grownBy.refl w _)
  | some ad =>
    refine wp_append_own w s x _ ho base 5 i0 _ 1 1 Tryd.underlying24 hi0 hz0 hz1 hz2 rfl (by omega) v n _ hs hown ad m c (bvs vs) hx (by rw [bvs_length, hl]; omega) ?_ (bvs_one vs) (by unfold maxLen; omega) (by omega) hbase ?_
    · intro j u hj
      have hj' : j < vs.length := by
        have := (List.getElem?_eq_some_iff.1 hj).1
        rwa [bvs_length] at this
      obtain ⟨ad', e, hc⟩ := hr.adds (by omega)
      injection e with e
      subst e
      exact hc j u hj
    · intro v' w' h1 h2 _
      exact h v' w' (by simpa [bvs] using h1) h2
theorem own_below {w w' : World} {base : Nat} {e : TypeId} {size n : Nat} {v : Value} {xs : List Value} (h : w.ownsRow base e size v n xs) (hb : Below w.heap.size w w') : w'.ownsRow base e size v n xs := by
  cases hv : v.ownBlock with
  | none => exact h.kept (grown_of_below hb none) (.inl hv)
  | some g => exact h.kept (grown_of_below hb none) (.inr (by rw [hv]; intro e; cases e))
theorem own_ne {w : World} {base : Nat} {e : TypeId} {size n : Nat} {v : Value} {xs : List Value} (h : w.ownsRow base e size v n xs) {g : Nat} (hg : w.heap.size ≤ g) : some g ≠ v.ownBlock := by
  intro e
  have := (h.lt g e.symm).2
  omega
/-- A running sum goes on by one row that was just put into a slice. -/
theorem with_row {A : Option Addr} {n c g R : Nat} {us : List UInt8} {w : World} (hR : R < 4294967296) (HT : HalvesAt w) (hB : Blk w g 24 #[.slice A n c]) (r : Rd w w.heap.size A n us) (l : n ≤ 140737488355327) :
    Calls Tryd.prog 8 #[.agg #[.int .u32 (rv R)], .slice (some ⟨g, 0, none⟩) 1 1] w fun e w' => e = .returned (.agg #[.int .u32 (rv (feed R us))]) ∧ Below w.heap.size w w' := by
  have C := with_any (c := 1) R hR HT (rds1 (c := c) (by rw [hB.cell]; rfl) r hB.lt) (by omega) (by
    intro x hx
    have h1 := r.1
    simp at hx
    subst hx
    omega)
  rwa [show [us].flatten = us by simp] at C
def few4B (rows : List (List UInt8)) : Bool := rows.all (fun r => decide (r.length ≤ 1000)) && decide (rows.length ≤ 30)
def prefixFew4 (rows : List (List UInt8)) (k : Nat) : Prop := (rows.take k).all (fun r => decide (r.length ≤ 1000)) = true
theorem prefixFew4_succ {rows : List (List UInt8)} {k : Nat} (h : prefixFew4 rows k) (hu : k < rows.length) (e : (rows[k]?.getD []).length ≤ 1000) : prefixFew4 rows (k + 1) := by
  unfold prefixFew4 at *
  rw [List.take_succ_eq_append_getElem hu, List.all_append, h]
  simp [hu] at e
  simp [e]
theorem few4_false {rows : List (List UInt8)} {k : Nat} (hu : k < rows.length) (e : ¬ (rows[k]?.getD []).length ≤ 1000) : few4B rows = false := by
  unfold few4B
  rw [Bool.and_eq_false_iff]
  left
  rw [List.all_eq_false]
  simp [hu] at e
  exact ⟨rows[k], List.getElem_mem _, by simpa using e⟩
theorem few4_any {B : Nat} {A : Option Addr} {n c : Nat} {rows : List (List UInt8)} {w : World} (h : Rds w B A n rows) (hn : n ≤ 9223372036854775807) :
    Calls Tryd.prog 6 #[.slice A n c] w fun e w' => e = .returned (.bool (few4B rows)) ∧ w = w' := by
  have Hl := Lib.hid h.1
  go_enter Tryd.func6, Tryd.ntmps6
  go_wp2
  go_loop [7] (fun i => ∃ k : Nat, k ≤ n ∧ i = .int .i64 k ∧ Hid (prefixFew4 rows k)) (fun i => n - (intOf i).toNat)
  case atStart => exact ⟨0, by omega, rfl, Lib.hid rfl⟩
  case round =>
    obtain ⟨k, hk, rfl, hp⟩ := hrel
    by_cases hlt : k < n
    · obtain ⟨b, off, Ak, ck, rfl, _, hc, _⟩ := h.at_ hlt
      by_cases he : (rows[k]?.getD []).length ≤ 1000
      · have Hp := Lib.hid (prefixFew4_succ hp.out (by rw [Hl.out]; exact hlt) he)
        go_wp2_with fail
        go_round
        case rel => exact ⟨k + 1, by omega, by go_num, Hp⟩
        case measure => simp [intOf]; omega
      · have Hf := Lib.hid (few4_false (by rw [Hl.out]; exact hlt) he)
        go_wp2_with fail
        go_ret
        exact ⟨by rw [Hf.out]; rfl, rfl⟩
    · obtain rfl : k = n := by omega
      have Hf : Hid (few4B rows = decide (k ≤ 30)) := Lib.hid (by
        have := hp.out
        unfold prefixFew4 at this
        rw [List.take_of_length_le (by rw [Hl.out]; omega)] at this
        unfold few4B
        rw [this, Hl.out]; simp)
      go_wp2_with fail
      go_ret
      exact ⟨by rw [Hf.out]; simp; omega, rfl⟩
end Go.Proofs.YtejnkohgecclbaaDoor
