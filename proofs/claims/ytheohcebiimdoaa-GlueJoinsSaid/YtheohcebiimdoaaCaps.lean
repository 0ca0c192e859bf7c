import Derived.Test.YtheohcebiimdoaaWas
/- Rows of rows: that no row is longer than its room. -/
namespace Go.Proofs.Ytheohcebiimdoaa
open Go.RowKit
set_option linter.unusedVariables false
set_option maxRecDepth 100000

/-- No row of a slice of rows is longer than its room. -/
def Caps (w : World) (B : Nat) (A : Option Addr) (n : Nat) : Prop := 0 < n → ∃ b off, A = some ⟨b, off, none⟩ ∧ b < B ∧ ∀ j, j < n → ∃ Ai ni ci, w.cell? ⟨b, off + j, none⟩ = some (.slice Ai ni ci) ∧ ni ≤ ci ∧ ci ≤ 9223372036854775807
theorem Caps.nil {w : World} {B : Nat} {A : Option Addr} : Caps w B A 0 := fun h => absurd h (by omega)
theorem Caps.keep {w w' : World} {B n : Nat} {A : Option Addr} (h : Caps w B A n) (hk : ∀ p : Addr, p.block < B → w'.cell? p = w.cell? p) : Caps w' B A n := fun hn => by
  obtain ⟨b, off, e, hb, hc⟩ := h hn
  refine ⟨b, off, e, hb, fun j hj => ?_⟩
  obtain ⟨Ai, ni, ci, h1, h2⟩ := hc j hj
  exact ⟨Ai, ni, ci, (hk ⟨b, off + j, none⟩ hb).trans h1, h2⟩
theorem Caps.below {w w' : World} {B n : Nat} {A : Option Addr} (h : Caps w B A n) (hb : Below B w w') : Caps w' B A n := h.keep fun _ hp => hb.cell hp
theorem Caps.more {w : World} {B B' n : Nat} {A : Option Addr} (h : Caps w B A n) (hB : B ≤ B') : Caps w B' A n := fun hn => by
  obtain ⟨b, off, e, hb, hc⟩ := h hn
  exact ⟨b, off, e, by omega, hc⟩
theorem Caps.step {w w' : World} {n : Nat} {A : Option Addr} (h : Caps w w.heap.size A n) (hb : Below w.heap.size w w') : Caps w' w'.heap.size A n := (h.below hb).more hb.size
/-- A row with its room. -/
theorem Caps.at_ {w : World} {B B' n k : Nat} {A : Option Addr} {rows : List (List UInt8)} (h : Rds w B A n rows) (hc : Caps w B' A n) (hk : k < n) :
    ∃ b off Ak ck, A = some ⟨b, off, none⟩ ∧ b < B ∧ w.cell? ⟨b, off + k, none⟩ = some (.slice Ak (rows[k]?.getD []).length ck) ∧ Rd w B Ak (rows[k]?.getD []).length (rows[k]?.getD []) ∧ (rows[k]?.getD []).length ≤ ck ∧ ck ≤ 9223372036854775807 := by
  obtain ⟨b, off, Ak, ck, rfl, hb, h1, h2⟩ := h.at_ hk
  obtain ⟨b', off', e, _, h3⟩ := hc (by omega)
  injection e with e
  injection e with e1 e2 e3
  subst e1 e2
  obtain ⟨Ai, ni, ci, h4, h5, h6⟩ := h3 k hk
  rw [h1] at h4
  injection h4 with h4
  injection h4 with h4 h7 h8
  subst h4 h7 h8
  exact ⟨b, off, Ak, ck, rfl, hb, h1, h2, h5, h6⟩
theorem caps_arg {H : Type} {enc : TypeId × Value → H} {W : World} {held : Bool} {t e q : TypeId} {A : Option Addr} {n c : Nat} {d : DataW H} {p : List MemPlace}
    (ht : Try.prog.underlying t = some (.slice e)) (he : Try.prog.underlying e = some (.slice q)) (hq : Try.prog.underlying q = some (.int .u8)) (ce : Try.prog.cellsOf e = 1) (cq : Try.prog.cellsOf q = 1)
    (h : DataW.Trod enc Try.prog W 0 (fun _ => true) held t (.slice A n c) d p) : Caps W W.heap.size A n := by
  obtain ⟨fuel, hf⟩ := h
  rcases Go.Deep.open_int_rows ht he hq ce cq hf with ⟨hcs, _⟩ | ⟨a, len, cap, AA, L, C, Z, hcs, _, hl, hm, _, hx⟩
  · simp [Value.cells] at hcs
    obtain ⟨rfl, rfl, rfl⟩ := hcs
    exact Caps.nil
  · simp [Value.cells] at hcs
    obtain ⟨rfl, rfl, rfl⟩ := hcs
    intro hn
    obtain ⟨b, off, spot⟩ := a
    have h0 := (hx 0 (by omega)).1
    have hspot : spot = none := by simpa [Addr.add] using World.cell?_spot h0
    subst hspot
    rw [addr_add] at h0
    refine ⟨b, off, rfl, cell_lt h0, fun j hj => ?_⟩
    obtain ⟨h1, h2, h3, _⟩ := hx j (by omega)
    rw [addr_add] at h1
    exact ⟨_, _, _, h1, h2, by unfold maxLen at h3; omega⟩
theorem Rd.part_first {w : World} {B n : Nat} {A : Option Addr} {us : List UInt8} (h : Rd w B A n us) {m : Nat} (hm : m ≤ n) : Rd w B A m (us.take m) :=
  ⟨by rw [List.length_take, h.1]; omega, fun hn => by
    obtain ⟨b, off, e, hb, hc⟩ := h.2 (by omega)
    refine ⟨b, off, e, hb, fun i x hx => ?_⟩
    have hi : i < m := by
      have := (List.getElem?_eq_some_iff.1 hx).1
      rw [List.length_take] at this; omega
    rw [List.getElem?_take, if_pos hi] at hx
    exact hc i x hx⟩
theorem Rd.part_last {w : World} {B n b off : Nat} {us : List UInt8} (h : Rd w B (some ⟨b, off, none⟩) n us) {m : Nat} (hm : m ≤ n) : Rd w B (some ⟨b, off + m, none⟩) (n - m) (us.drop m) :=
  ⟨by rw [List.length_drop, h.1], fun hn => by
    obtain ⟨b', off', e, hb, hc⟩ := h.2 (by omega)
    injection e with e
    injection e with e1 e2 e3
    subst e1 e2
    refine ⟨b, off + m, rfl, hb, fun i x hx => ?_⟩
    rw [List.getElem?_drop] at hx
    rw [← hc _ x hx, Nat.add_assoc]⟩
theorem Rd.part_none {w : World} {B m : Nat} {A : Option Addr} {us : List UInt8} (h : us.length ≤ m) : Rd w B A 0 (us.drop m) := by
  rw [List.drop_eq_nil_of_le h]
  exact Rd.nil
end Go.Proofs.Ytheohcebiimdoaa
