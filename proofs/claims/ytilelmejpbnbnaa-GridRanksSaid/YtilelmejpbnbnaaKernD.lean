import Derived.Test.YtilelmejpbnbnaaKernC
/- The calls of package kern and the document's own, each by one contract for all inputs. -/
namespace Go.Proofs.Ytilelmejpbnbnaa
open Go.RowKit
set_option linter.unusedVariables false
set_option maxRecDepth 100000

/-- A row and a code are answered. -/
def RowSays (r : List UInt8 × Int) (w : World) (e : Ending) (w' : World) : Prop :=
  ∃ A n c, e = .returned (.tuple #[.slice A n c, .int .i64 r.2]) ∧ Rd w' w'.heap.size A n r.1 ∧ n ≤ 140737488355328 ∧ Below w.heap.size w w'
theorem RowSays.none_ {w w' : World} {k : Int} (hb : Below w.heap.size w w') : RowSays ([], k) w (.returned (.tuple #[.slice none 0 0, .int .i64 k])) w' := ⟨none, 0, 0, rfl, Rd.nil, by omega, hb⟩
theorem RowSays.blk {w w' : World} {g n : Nat} {us : List UInt8} {k : Int} (hl : us.length = n) (hg : Blk w' g 5 (bvs us).toArray) (hn : n ≤ 140737488355328) (hb : Below w.heap.size w w') : RowSays (us, k) w (.returned (.tuple #[.slice (some ⟨g, 0, none⟩) n n, .int .i64 k])) w' := by
  subst hl
  exact ⟨some ⟨g, 0, none⟩, _, _, rfl, (Rd.of_blk hg).more hg.lt, hn, hb⟩
def first (rows : List (List UInt8)) : Nat := (rows[0]?.getD []).length
def combR (cs : List UInt8) (rows : List (List UInt8)) : List UInt8 × Int :=
  if cs.length ≠ rows.length then ([], 4) else if rows.length = 0 then ([], 0) else if lenB (first rows) rows then (combTo cs rows (nulls (first rows)) rows.length, 0) else ([], 4)
def Short (rows : List (List UInt8)) : Prop := ∀ r ∈ rows, r.length ≤ 140737488355327
theorem Short.first {rows : List (List UInt8)} (h : Short rows) : first rows ≤ 140737488355327 := by
  unfold Go.Proofs.Ytilelmejpbnbnaa.first
  cases rows with
  | nil => simp
  | cons r rs => simpa using h r (List.mem_cons_self ..)
theorem comb_len (cs : List UInt8) (rows : List (List UInt8)) (m n : Nat) : (combTo cs rows (nulls m) n).length = m := by rw [combTo_length, nulls_length]
theorem kcomb_all {B B2 : Nat} {A A2 : Option Addr} {n n2 c c2 : Nat} {cs : List UInt8} {rows : List (List UInt8)} {w : World} (hcs : Rd w B2 A n cs) (h : Rds w B A2 n2 rows) (hB : B ≤ w.heap.size) (hB2 : B2 ≤ w.heap.size) (hs : Short rows) (hn : n2 ≤ 9223372036854775807) :
    Calls Try.prog 47 #[.slice A n c, .slice A2 n2 c2] w (RowSays (combR cs rows) w) := by
  have h1 := hcs.1
  have h2 := h.1
  have hf := hs.first
  by_cases hl : n = n2
  · subst hl
    by_cases h0 : n = 0
    · subst h0
      have : combR cs rows = ([], 0) := by simp [combR, h1, h2]
      rw [this]
      exact comb_none.mono fun e w' ⟨he, hw⟩ => by subst he; subst hw; exact RowSays.none_ (Below.refl _ _)
    · by_cases hb : lenB (first rows) rows = true
      · have : combR cs rows = (combTo cs rows (nulls (first rows)) n, 0) := by simp [combR, h1, h2, hb, h0]
        rw [this]
        exact (comb_any hcs h hB hB2 (by omega) rfl hb (by omega) (by unfold first at hf; omega)).mono fun e w' ⟨g, he, _, hg, hw⟩ => by subst he; exact RowSays.blk (comb_len _ _ _ _) hg (by unfold first at hf; omega) hw
      · have hb' : lenB (first rows) rows = false := by simpa using hb
        have : combR cs rows = ([], 4) := by simp [combR, h1, h2, hb', h0]
        rw [this]
        exact (comb_size h hB (by omega) rfl hb' (by omega)).mono fun e w' ⟨he, hw⟩ => by subst he; exact RowSays.none_ hw
  · have : combR cs rows = ([], 4) := by simp [combR, h1, h2, hl]
    rw [this]
    exact (comb_many hl).mono fun e w' ⟨he, hw⟩ => by subst he; subst hw; exact RowSays.none_ (Below.refl _ _)
def axpyR (x : UInt8) (us vs : List UInt8) : List UInt8 × Int := if us.length ≠ vs.length then ([], 4) else (addL x us vs, 0)
theorem axpy_all {B B2 : Nat} {A A2 : Option Addr} {n n2 c c2 : Nat} (x : UInt8) {us vs : List UInt8} {w : World} (h : Rd w B A n us) (h2 : Rd w B2 A2 n2 vs) (hB : B ≤ w.heap.size) (hB2 : B2 ≤ w.heap.size) (hn : n ≤ 140737488355328) :
    Calls Try.prog 99 #[.int .u8 (bv x), .slice A n c, .slice A2 n2 c2] w (RowSays (axpyR x us vs) w) := by
  have e1 := h.1
  have e2 := h2.1
  by_cases hl : n = n2
  · subst hl
    have : axpyR x us vs = (addL x us vs, 0) := by simp [axpyR, e1, e2]
    rw [this]
    exact (axpy_any x h h2 hB hB2 hn).mono fun e w' ⟨g, he, _, hg, hw⟩ => by subst he; exact RowSays.blk (by rw [addL_length, e2]) hg hn hw
  · have : axpyR x us vs = ([], 4) := by simp [axpyR, e1, e2, hl]
    rw [this]
    exact (axpy_size x hl).mono fun e w' ⟨he, hw⟩ => by subst he; subst hw; exact RowSays.none_ (Below.refl _ _)
theorem kscale_says {B : Nat} {A : Option Addr} {n c : Nat} (x : UInt8) {us : List UInt8} {w : World} (h : Rd w B A n us) (hB : B ≤ w.heap.size) (hn : n ≤ 140737488355328) :
    Calls Try.prog 87 #[.int .u8 (bv x), .slice A n c] w fun e w' => ∃ A' c', e = .returned (.slice A' n c') ∧ Rd w' w'.heap.size A' n (scaleL x us) ∧ Below w.heap.size w w' :=
  (kscale_any x h hB hn).mono fun e w' ⟨g, he, _, hg, hw⟩ => by
    have hl : (scaleL x us).length = n := by rw [scaleL, List.length_map]; exact h.1
    have hr := (Rd.of_blk hg).more (B' := w'.heap.size) hg.lt
    rw [hl] at hr
    exact ⟨_, _, he, hr, hw⟩
end Go.Proofs.Ytilelmejpbnbnaa
