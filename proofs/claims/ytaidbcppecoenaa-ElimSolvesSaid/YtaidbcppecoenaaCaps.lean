import Derived.Test.YtaidbcppecoenaaWas
/- Rows of rows: that no row is longer than its room. -/
namespace Go.Proofs.Ytaidbcppecoenaa
open Go.RowKit
set_option linter.unusedVariables false
set_option maxRecDepth 100000

/-- No row of a slice of rows is longer than its room. -/
def Caps (w : World) (B : Nat) (A : Option Addr) (n : Nat) : Prop := 0 < n → ∃ b off, A = some ⟨b, off, none⟩ ∧ b < B ∧ ∀ j, j < n → ∃ Ai ni ci, w.cell? ⟨b, off + j, none⟩ = some (.slice Ai ni ci) ∧ ni ≤ ci ∧ ci ≤ 9223372036854775807
theorem Caps.nil {w : World} {B : Nat} {A : Option Addr} : Caps w B A 0 := fun h => absurd h (by omega)
theorem Caps.keep {w w' : World} {B n : Nat} {A : Option Addr} (h : Caps w B A n) (hk : ∀ p : Addr, p.block < B → w'.cell? p = w.cell? p) : Caps w' B A n := fun hn => by
  obtain ⟨b, off, e, hb, hc⟩ := h hn
  refine ⟨b, off, e, hb, fun j hj => ?_⟩
  obtain ⟨Ai, ni, ci, h1, h2⟩ := hc j hj
  exact ⟨Ai, ni, ci, (hk ⟨b, off + j, none⟩ hb).trans h1, h2⟩
theorem Caps.below {w w' : World} {B n : Nat} {A : Option Addr} (h : Caps w B A n) (hb : Below B w w') : Caps w' B A n := h.keep fun _ hp => hb.cell hp
theorem Caps.more {w : World} {B B' n : Nat} {A : Option Addr} (h : Caps w B A n) (hB : B ≤ B') : Caps w B' A n := fun hn => by
  obtain ⟨b, off, e, hb, hc⟩ := h hn
  exact ⟨b, off, e, by omega, hc⟩
theorem Caps.step {w w' : World} {n : Nat} {A : Option Addr} (h : Caps w w.heap.size A n) (hb : Below w.heap.size w w') : Caps w' w'.heap.size A n := (h.below hb).more hb.size
/-- A row with its room. -/
theorem Caps.at_ {w : World} {B B' n k : Nat} {A : Option Addr} {rows : List (List UInt8)} (h : Rds w B A n rows) (hc : Caps w B' A n) (hk : k < n) :
    ∃ b off Ak ck, A = some ⟨b, off, none⟩ ∧ b < B ∧ w.cell? ⟨b, off + k, none⟩ = some (.slice Ak (rows[k]?.getD []).length ck) ∧ Rd w B Ak (rows[k]?.getD []).length (rows[k]?.getD []) ∧ (rows[k]?.getD []).length ≤ ck ∧ ck ≤ 9223372036854775807 := by
  obtain ⟨b, off, Ak, ck, rfl, hb, h1, h2⟩ := h.at_ hk
  obtain ⟨b', off', e, _, h3⟩ := hc (by omega)
  injection e with e
  injection e with e1 e2 e3
  subst e1 e2
  obtain ⟨Ai, ni, ci, h4, h5, h6⟩ := h3 k hk
  rw [h1] at h4
  injection h4 with h4
  injection h4 with h4 h7 h8
  subst h4 h7 h8
  exact ⟨b, off, Ak, ck, rfl, hb, h1, h2, h5, h6⟩
end Go.Proofs.Ytaidbcppecoenaa

