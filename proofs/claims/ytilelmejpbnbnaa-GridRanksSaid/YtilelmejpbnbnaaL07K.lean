import Derived.Test.YtilelmejpbnbnaaL07I
import Derived.Test.YtilelmejpbnbnaaL07J
/- GridRanks: for any two widths and lists of rows the statement's function answers true, and leaves its arguments as they were. -/
namespace Go.Proofs.Ytilelmejpbnbnaa
open Go.ChangeShapes Go.WideShapes Go.ChangeAt Go.RowKit
open Go.ChangeMaps (open_string shut_string)
set_option linter.unusedVariables false
set_option maxRecDepth 100000
theorem ranks_walk (u1 : UInt8) (A1 : Option Addr) (n1 c1 : Nat) (rows : List (List UInt8)) (u2 : UInt8) (A2 : Option Addr) (n2 c2 : Nat) (more : List (List UInt8)) (w : World) (h1 : Rds w w.heap.size A1 n1 rows) (z1 : n1 ≤ c1 ∧ c1 ≤ maxLen) (h2 : Rds w w.heap.size A2 n2 more) (z2 : n2 ≤ c2 ∧ c2 ≤ maxLen) :
    Calls Try.prog 4 #[.int .u8 (bv u1), .slice A1 n1 c1, .int .u8 (bv u2), .slice A2 n2 c2] w fun e w' => e = .returned (.bool true) ∧ Below w.heap.size w w' := by
  cases hf1 : few7B rows
  · exact ranks_few u1 u2 A1 A2 n1 c1 n2 c2 rows more w h1 h2 z1 z2 hf1
  · cases hf2 : few7B more
    · exact ranks_few2 u1 u2 A1 A2 n1 c1 n2 c2 rows more w h1 h2 z1 z2 hf1 hf2
    · by_cases hM : u1.toNat % 31 = (madeL (u2.toNat % 31) more).length
      · by_cases hI : (madeL (u1.toNat % 31) rows).length = u1.toNat % 31
        · by_cases hK6 : u1.toNat % 31 ≤ 6
          · exact ranks_OD u1 u2 A1 A2 n1 c1 n2 c2 rows more w h1 h2 z1 z2 hf1 hf2 hM hI hK6
          · exact ranks_OB u1 u2 A1 A2 n1 c1 n2 c2 rows more w h1 h2 z1 z2 hf1 hf2 hM hI hK6
        · exact ranks_OS u1 u2 A1 A2 n1 c1 n2 c2 rows more w h1 h2 z1 z2 hf1 hf2 hM (Ne.symm hI)
      · by_cases hI : (madeL (u1.toNat % 31) rows).length = u1.toNat % 31
        · by_cases hK6 : u1.toNat % 31 ≤ 6
          · exact ranks_ED u1 u2 A1 A2 n1 c1 n2 c2 rows more w h1 h2 z1 z2 hf1 hf2 hM hI hK6
          · exact ranks_EB u1 u2 A1 A2 n1 c1 n2 c2 rows more w h1 h2 z1 z2 hf1 hf2 hM hI hK6
        · exact ranks_ES u1 u2 A1 A2 n1 c1 n2 c2 rows more w h1 h2 z1 z2 hf1 hf2 hM (Ne.symm hI)

/-! ### The frame of 'GridRanks' -/
namespace gridRanks
theorem own : ownKnob Try.prog.godebug = none := by kernel_rfl
theorem laidOut : laidOutB Try.prog = true := by kernel_rfl
theorem lifted (os : Os) (started : os.Started) (H : Type) (enc : TypeId × Value → H) :
    ReturnsInHanded {} Try.checked os 4 .any (Rows.gridRanksSpec.pre6 enc Try.prog Try.f4 Rows.gridRanksRow.domain false) (Rows.gridRanksSpec.post enc Try.prog Try.f4 false true false false) := by
  refine returnsInHanded_of_change (C := Try.checked) own started (by kernel_rfl) Try.func4
    (ChangeSpec.witness6 (enc := enc) (C := Try.checked) false ⟨#[], #[.int .u8 0, .slice none 0 0, .int .u8 0, .slice none 0 0], []⟩ 8 (by kernel_rfl) (by kernel_rfl) (by kernel_rfl) (by kernel_rfl)) ?_
  intro W base args ds gs before hval0 hW hcnd _
  have hval : ∀ (j : Nat) t v, Try.f4.params[j]? = some t → args[j]? = some v → Value.okWide Try.prog W .any base t v := hval0
  have hW' := hW
  obtain ⟨p, q, hA0, hV, rfl, hfz, hnd⟩ := hW
  have hA : DataW.TrodAll enc Try.prog W 0 (fun _ => true) true Try.f4.params.toList args.toList ds p := hA0
  rw [Try.params4] at hA hval
  obtain ⟨v0, vs0, d0, ds0, p0, q0, hargs, rfl, rfl, h0, q0'⟩ := trodAll_cons hA
  obtain ⟨v1, vs1, d1, ds1, p1, q1, rfl, rfl, rfl, h1, q1'⟩ := trodAll_cons q0'
  obtain ⟨v2, vs2, d2, ds2, p2, q2, rfl, rfl, rfl, h2, q2'⟩ := trodAll_cons q1'
  obtain ⟨v3, vs3, d3, ds3, p3, q3, rfl, rfl, rfl, h3, q3'⟩ := trodAll_cons q2'
  obtain ⟨rfl, rfl, rfl⟩ := trodAll_nil q3'
  obtain rfl : args = #[v0, v1, v2, v3] := by cases args; simp_all
  obtain ⟨rfl, rfl⟩ := trodVars_none hV
  have k0 := h0
  have lt0 : ∀ x ∈ p0, x.block < W.heap.size := by obtain ⟨m, hm⟩ := k0; exact DataW.trod_lt m _ _ _ hm
  have k1 := h1
  have lt1 : ∀ x ∈ p1, x.block < W.heap.size := by obtain ⟨m, hm⟩ := k1; exact DataW.trod_lt m _ _ _ hm
  have k2 := h2
  have lt2 : ∀ x ∈ p2, x.block < W.heap.size := by obtain ⟨m, hm⟩ := k2; exact DataW.trod_lt m _ _ _ hm
  have k3 := h3
  have lt3 : ∀ x ∈ p3, x.block < W.heap.size := by obtain ⟨m, hm⟩ := k3; exact DataW.trod_lt m _ _ _ hm
  obtain ⟨a0, rfl, rfl, rfl, w0⟩ := open_int Try.underlying5 (hval 0 5 v0 rfl rfl) h0
  obtain ⟨u0, rfl⟩ := byte_of w0
  obtain ⟨A1, n1, c1, rfl⟩ := okWide_slice Try.underlying22 (hval 1 22 v1 rfl rfl)
  obtain ⟨us1, r1, l1⟩ := rows_arg Try.underlying22 Try.underlying52 Try.underlying5 (by kernel_rfl) (by kernel_rfl) h1
  obtain ⟨a2, rfl, rfl, rfl, w2⟩ := open_int Try.underlying5 (hval 2 5 v2 rfl rfl) h2
  obtain ⟨u2, rfl⟩ := byte_of w2
  obtain ⟨A3, n3, c3, rfl⟩ := okWide_slice Try.underlying22 (hval 3 22 v3 rfl rfl)
  obtain ⟨us3, r3, l3⟩ := rows_arg Try.underlying22 Try.underlying52 Try.underlying5 (by kernel_rfl) (by kernel_rfl) h3
  clear hA0 hval0
  refine (ranks_walk u0 A1 n1 c1 us1 u2 A3 n3 c3 us3 W r1 l1 r3 l3).mono fun e W' ⟨he, bel⟩ => ?_
  subst he
  exact ⟨_, rfl, _, _, _, [], _, [], hW', trodAll_mk1 (shut_bool Try.underlying4 _), (trodAll_cons_mk (Below.trod laidOut (by kernel_rfl) (of_decide_eq_true (by kernel_rfl)) k0 bel lt0) (trodAll_cons_mk (Below.trod laidOut (by kernel_rfl) (of_decide_eq_true (by kernel_rfl)) k1 bel lt1) (trodAll_cons_mk (Below.trod laidOut (by kernel_rfl) (of_decide_eq_true (by kernel_rfl)) k2 bel lt2) (trodAll_cons_mk (Below.trod laidOut (by kernel_rfl) (of_decide_eq_true (by kernel_rfl)) k3 bel lt3) trodAll_mk0)))), rfl, bel.frame _, fun h => by cases h⟩

theorem over : Rows.gridRanksRow.holds Try.pinned (OpenSpec.ofChange Rows.gridRanksSpec) :=
  OpenClaim.holds_of_wide 4 Try.f4 rfl rfl rfl rfl rfl rfl rfl ⟨rfl, rfl, rfl, rfl, rfl⟩ rfl rfl rfl rfl rfl (by kernel_rfl) Try.func4 (by kernel_rfl)
    (of_decide_eq_true (by kernel_rfl)) (by unfold Func.isWrapper; first | (rw [if_pos (by decide +kernel)]; kernel_rfl) | (rw [if_neg (by decide +kernel)]; exact ⟨rfl, rfl⟩))
    (fun os started H enc _ => lifted os started H enc)
/-- The statement. -/
theorem proved : Rows.GridRanksSaid := over
end gridRanks
end Go.Proofs.Ytilelmejpbnbnaa
