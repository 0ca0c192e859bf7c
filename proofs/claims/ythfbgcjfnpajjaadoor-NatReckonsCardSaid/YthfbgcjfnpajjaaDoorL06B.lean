import Derived.Test.YthfbgcjfnpajjaaDoorL06A
/- NatLong: its walk. -/
namespace Go.Proofs.YthfbgcjfnpajjaaDoor
open Go.RowKit
set_option linter.unusedVariables false
set_option maxRecDepth 100000

theorem all_pow {N : Nat} (m : Nat) : ∀ s, (∀ k, k ≤ m → s * N ^ k < BD) → opAll (fun s N => s * N) s (List.replicate m N) = some (s * N ^ m) := by
  induction m with
  | zero => intro s _; simp [opAll]
  | succ m ih =>
    intro s h
    have h1 : s * N < BD := by have := h 1 (by omega); rwa [Nat.pow_one] at this
    have h2 := ih (s * N) fun k hk => by
      have := h (k + 1) (by omega)
      rwa [Nat.pow_succ, Nat.mul_comm (N ^ k), ← Nat.mul_assoc] at this
    rw [Nat.pow_succ, Nat.mul_comm (N ^ m), ← Nat.mul_assoc, ← h2]
    simp only [opAll, List.replicate_succ, List.foldl_cons, opF, Option.bind_some, if_pos h1]
theorem pow_ok {N : Nat} {v : Value} {w : World} (n : Int) (m : Nat) (h : NatIs w w.heap.size v N) (hm : (min n 65536).toNat = m) (hn : 0 ≤ n ∧ n ≤ 65536) (hb : ∀ k, k ≤ m → N ^ k < BD) :
    Calls Tryd.prog 26 #[v, .int .i64 n] w (GivesPair (N ^ m) w) := by
  refine (pow_any n h).mono fun e w' hp => ?_
  rw [hm] at hp
  unfold PowSays at hp
  rw [all_pow m 1 (fun k hk => by rw [Nat.one_mul]; exact hb k hk)] at hp
  simp only [if_neg (show ¬ (n < 0 ∨ 65536 < n) by omega), Nat.one_mul] at hp
  exact hp
/-! ### The bound itself -/
def K4095 : Nat := 4095
theorem bd_eq : BD = 256 ^ (K4095 + 1) := by
  have h : W64 = 256 ^ 8 := by decide
  unfold BD
  rw [h, ← Nat.pow_mul, show 8 * K512 = K4095 + 1 from by decide]
theorem pow_lt_bd {k : Nat} (h : k ≤ K4095) : 256 ^ k < BD := by
  rw [bd_eq]; exact Nat.pow_lt_pow_right (by decide) (by omega)
/-- A number that lies in a box of its own. -/
def Box (w : World) (g N : Nat) : Prop := ∃ A n c, Blk w g 27 #[.slice A n c] ∧ NatIs w w.heap.size (.agg #[.slice A n c]) N
theorem Box.step {w w' : World} {g N : Nat} (h : Box w g N) (hb : Below w.heap.size w w') : Box w' g N := by
  obtain ⟨A, n, c, h1, h2⟩ := h
  exact ⟨A, n, c, blk_size h1 hb, h2.step hb⟩
theorem Box.new {w : World} {A : Option Addr} {n c N : Nat} (h : NatIs w w.heap.size (.agg #[.slice A n c]) N) : Box (w.alloc (.cells #[.slice A n c] 27)) w.heap.size N :=
  ⟨A, n, c, Blk.new w _ _, h.step (balloc w _)⟩
theorem Box.lt {w : World} {g N : Nat} (h : Box w g N) : g < w.heap.size := by
  obtain ⟨A, n, c, h1, h2⟩ := h
  exact h1.lt
end Go.Proofs.YthfbgcjfnpajjaaDoor
