import Derived.Test.YtaidbcppecoenaaKernB
import Derived.Test.YtaidbcppecoenaaWords2
import Derived.Laws.BytesArg
/- What the functions of package vec, and the document's own answer for them, come to. -/
namespace Go.Proofs.Ytaidbcppecoenaa
open Go.RowKit
set_option linter.unusedVariables false
set_option maxRecDepth 100000

/-! ### Where a vector leads -/
def leadI (us : List UInt8) : Int := match us.findIdx? (· != 0) with | some i => (i : Int) | none => -1
theorem lead_at {us : List UInt8} {k : Nat} (h : prefixZero us k) (hk : k < us.length) (e : us[k]?.getD 0 ≠ 0) : leadI us = (k : Int) := by
  unfold leadI
  have : us.findIdx? (· != 0) = some k := by
    rw [List.findIdx?_eq_some_iff_getElem]
    simp [hk] at e
    refine ⟨hk, by simpa using e, fun j hj => ?_⟩
    unfold prefixZero zeroB at h
    have h2 := List.all_eq_true.1 h us[j] (by rw [List.mem_take_iff_getElem]; exact ⟨j, by omega, rfl⟩)
    simp at h2 ⊢
    exact h2
  rw [this]
theorem lead_none {us : List UInt8} (h : zeroB us = true) : leadI us = -1 := by
  unfold leadI
  have : us.findIdx? (· != 0) = none := by
    rw [List.findIdx?_eq_none_iff]
    intro x hx
    unfold zeroB at h
    have := List.all_eq_true.1 h x hx
    simp at this ⊢
    exact this
  rw [this]
theorem lead_bounds (us : List UInt8) : -1 ≤ leadI us ∧ (leadI us < us.length ∨ leadI us = -1) := by
  unfold leadI
  cases h : us.findIdx? (· != 0) with
  | none => simp
  | some i =>
    have := (List.findIdx?_eq_some_iff_getElem.1 h).1
    simp
    omega
theorem lead_get {us : List UInt8} (h : 0 ≤ leadI us) : us[(leadI us).toNat]?.getD 0 ≠ 0 := by
  unfold leadI at *
  cases e : us.findIdx? (· != 0) with
  | none => rw [e] at h; simp at h
  | some i =>
    obtain ⟨h1, h2, _⟩ := List.findIdx?_eq_some_iff_getElem.1 e
    simp [h1] at h2 ⊢
    exact h2
theorem lead_zero (us : List UInt8) : zeroB us = decide (leadI us < 0) := by
  by_cases h : zeroB us = true
  · rw [h, lead_none h]; rfl
  · have hf : zeroB us = false := by simpa using h
    rw [hf]
    unfold leadI
    cases e : us.findIdx? (· != 0) with
    | none =>
      rw [List.findIdx?_eq_none_iff] at e
      exact absurd (List.all_eq_true.2 fun x hx => by have := e x hx; simp at this ⊢; exact this) h
    | some i => simp

theorem lead_fn (u : UInt8) (w : World) : Calls Try.prog 97 #[.int .u8 (bv u)] w fun e w' => e = .returned (.bool (bv u != 0)) ∧ w = w' := by
  go_enter Try.func97, Try.ntmps97
  go_wp2
  go_ret
  exact ⟨rfl, rfl⟩
theorem lead_index {B : Nat} {A : Option Addr} {n c : Nat} {us : List UInt8} {w : World} (h : Rd w B A n us) (hn : n ≤ 9223372036854775807) :
    Calls Try.prog 96 #[.slice A n c, .func (.func 97) #[] #[]] w fun e w' => e = .returned (.int .i64 (leadI us)) ∧ w = w' := by
  have Hl := Lib.hid h.1
  go_enter Try.func96, Try.ntmps96
  go_wp2
  go_loop [8] (fun i => ∃ k : Nat, k ≤ n ∧ i = .int .i64 k ∧ Hid (prefixZero us k)) (fun i => n - (intOf i).toNat)
  case atStart => exact ⟨0, by omega, rfl, Lib.hid rfl⟩
  case round =>
    obtain ⟨k, hk, rfl, hp⟩ := hrel
    by_cases hlt : k < n
    · obtain ⟨b, off, rfl, _, hc⟩ := h.at_ hlt
      by_cases he : us[k]?.getD 0 = 0
      · have t : (bv (us[k]?.getD 0) != 0) = false := by rw [he]; rfl
        have Hp := Lib.hid (prefixZero_succ hp.out (by rw [Hl.out]; exact hlt) he)
        clear he
        go_wp2_with fail
        refine (lead_fn _ _).mono ?_
        rintro e w' ⟨rfl, rfl⟩
        go_wp2_with fail
        go_round
        case rel => exact ⟨k + 1, by omega, by go_num, Hp⟩
        case measure => simp [intOf]; omega
      · have t : (bv (us[k]?.getD 0) != 0) = true := bv_ne' he
        have Hf := Lib.hid (lead_at hp.out (by rw [Hl.out]; exact hlt) he)
        clear he
        go_wp2_with fail
        refine (lead_fn _ _).mono ?_
        rintro e w' ⟨rfl, rfl⟩
        go_wp2_with fail
        go_ret
        exact ⟨ret_int Hf.out.symm, rfl⟩
    · obtain rfl : k = n := by omega
      have Hf : Hid (leadI us = -1) := Lib.hid (by
        have := hp.out
        unfold prefixZero at this
        rw [List.take_of_length_le (by rw [Hl.out]; omega)] at this
        exact lead_none this)
      go_wp2_with fail
      go_ret
      exact ⟨ret_int Hf.out.symm, rfl⟩
theorem lead_any {B : Nat} {A : Option Addr} {n c : Nat} {us : List UInt8} {w : World} (h : Rd w B A n us) (hn : n ≤ 9223372036854775807) :
    Calls Try.prog 78 #[.slice A n c] w fun e w' => e = .returned (.int .i64 (leadI us)) ∧ w = w' := by
  go_enter Try.func78, Try.ntmps78
  go_wp2_with fail
  refine (lead_index h hn).mono ?_
  rintro e w' ⟨rfl, rfl⟩
  go_wp2_with fail
  go_ret
  exact ⟨rfl, rfl⟩
theorem vzero_any {B : Nat} {A : Option Addr} {n c : Nat} {us : List UInt8} {w : World} (h : Rd w B A n us) (hn : n ≤ 9223372036854775807) :
    Calls Try.prog 63 #[.slice A n c] w fun e w' => e = .returned (.bool (zeroB us)) ∧ w = w' := by
  go_enter Try.func63, Try.ntmps63
  go_wp2_with fail
  refine (kzero_any h hn).mono ?_
  rintro e w' ⟨rfl, rfl⟩
  go_wp2_with fail
  go_ret
  exact ⟨rfl, rfl⟩

/-! ### At, Unit -/
def atB (us : List UInt8) (k : Int) : UInt8 := if 0 ≤ k ∧ k < us.length then us[k.toNat]?.getD 0 else 0
theorem at_in {B : Nat} {A : Option Addr} {n c : Nat} {us : List UInt8} {w : World} (h : Rd w B A n us) (hn : n ≤ 9223372036854775807) (k : Nat) (hk : k < n) :
    Calls Try.prog 82 #[.slice A n c, .int .i64 k] w fun e w' => e = .returned (.int .u8 (bv (us[k]?.getD 0))) ∧ w = w' := by
  obtain ⟨b, off, rfl, _, hc⟩ := h.at_ hk
  go_enter Try.func82, Try.ntmps82
  go_wp2
  go_ret
  exact ⟨rfl, rfl⟩
theorem at_out {A : Option Addr} {n c : Nat} {w : World} (hn : n ≤ 9223372036854775807) (k : Int) (hk : k < 0 ∨ n ≤ k) (h1 : -9223372036854775808 ≤ k) (h2 : k ≤ 9223372036854775807) :
    Calls Try.prog 82 #[.slice A n c, .int .i64 k] w fun e w' => e = .returned (.int .u8 0) ∧ w = w' := by
  by_cases h0 : k < 0
  · go_enter Try.func82, Try.ntmps82
    go_wp2
    go_ret
    exact ⟨rfl, rfl⟩
  · have h3 : (n : Int) ≤ k := by omega
    go_enter Try.func82, Try.ntmps82
    go_wp2
    go_ret
    exact ⟨rfl, rfl⟩
theorem at_any {B : Nat} {A : Option Addr} {n c : Nat} {us : List UInt8} {w : World} (h : Rd w B A n us) (hn : n ≤ 9223372036854775807) (k : Int) (h1 : -9223372036854775808 ≤ k) (h2 : k ≤ 9223372036854775807) :
    Calls Try.prog 82 #[.slice A n c, .int .i64 k] w fun e w' => e = .returned (.int .u8 (bv (atB us k))) ∧ w = w' := by
  have hl := h.1
  by_cases hk : 0 ≤ k ∧ k < n
  · have e : atB us k = us[k.toNat]?.getD 0 := by unfold atB; rw [if_pos (by rw [hl]; exact hk)]
    rw [e]
    have C := at_in (c := c) h hn k.toNat (by omega)
    rwa [show ((k.toNat : Nat) : Int) = k by omega] at C
  · have e : atB us k = 0 := by unfold atB; rw [if_neg (by rw [hl]; exact hk)]
    rw [e]
    exact at_out hn k (by omega) h1 h2
def unitL (n i : Nat) : List UInt8 := (nulls n).set i 1
theorem unitL_length (n i : Nat) : (unitL n i).length = n := by simp [unitL, nulls]
/-! ### Copies -/
theorem own_empty {B : Nat} {w : World} {g : Nat} {t : TypeId} (h : Blk w g t #[]) (hb : B ≤ g) : w.ownsRow B t 1 (.slice (some ⟨g, 0, none⟩) 0 0) 0 (bvs []) := by
  refine ⟨rfl, .inr ⟨g, 0, #[], rfl, hb, h, by omega, by unfold maxLen; omega, by simp, rfl⟩⟩
theorem eql_nil (w : World) (A : Option Addr) (n c : Nat) : (binOp .eql 52 (.slice A n c) (.slice none 0 0)).run Try.prog w = .ok (.bool A.isNone) w :=
  Lib.run_eql_slice_nil w _ _ A n c 0 0 Try.underlying52
theorem clone_any {B : Nat} {A : Option Addr} {n c : Nat} {us : List UInt8} {w : World} (h : Rd w B A n us) (hB : B ≤ w.heap.size) (hn : n ≤ 140737488355327) :
    Calls Try.prog 70 #[.slice A n c] w fun e w' => ∃ A' c', e = .returned (.slice A' n c') ∧ Rd w' w'.heap.size A' n us ∧ Below w.heap.size w w' := by
  have hq := eql_nil w A n c
  cases A with
  | none =>
    have hm : n = 0 := by
      refine Nat.eq_zero_of_not_pos fun hp => ?_
      obtain ⟨b, off, e, _⟩ := h.2 hp
      cases e
    subst hm
    obtain rfl : us = [] := List.eq_nil_of_length_eq_zero h.1
    go_enter Try.func70, Try.ntmps70
    go_wp2_with fail
    go_ret
    exact ⟨none, 0, rfl, Rd.nil, Below.refl _ _⟩
  | some ad =>
    have hg0 : (w.alloc (.cells #[] 5)).ownsRow w.heap.size 5 1 (.slice (some ⟨w.heap.size, 0, none⟩) 0 0) 0 (bvs []) := own_empty (Blk.new w 5 #[]) (Nat.le_refl _)
    have hr := h.below ((Below.refl _ _).alloc hB (.cells #[] 5))
    go_enter Try.func70, Try.ntmps70
    go_wp2_with (at_builtin; refine push_bytes rfl (.tmp 5) (.tmp 6) rfl w.heap.size _ 0 [] rfl hg0 (some ad) n c us rfl hr (by omega) (by simp) ?_)
    intro v' w' ho hgr
    have hb : Below w.heap.size w w' := (balloc w _).trans (own_grown_below hg0 hgr (by simp))
    obtain ⟨A', c', rfl, hr'⟩ := Rd.of_own ho
    go_wp2_with fail
    go_ret
    exact ⟨A', c', rfl, by simpa using hr', hb⟩

/-! ### bytes.Equal -/
theorem nums_us (us : List UInt8) : (us.map fun u => bv u).map (fun n => UInt8.ofNat n.toNat) = us := by
  induction us with
  | nil => rfl
  | cons u us ih =>
    simp only [List.map_cons, ih]
    rw [show UInt8.ofNat (bv u).toNat = u by unfold bv; simp]
def strB (us : List UInt8) : ByteArray := ⟨us.toArray⟩
theorem strB_eq (us vs : List UInt8) : ((strB us).toList == (strB vs).toList) = (us == vs) := by
  simp [strB]
theorem convert_str {B : Nat} {A : Option Addr} {n c : Nat} {us : List UInt8} {w : World} (h : Rd w B A n us) : (convert 52 9 (.slice A n c)).run Try.prog w = .ok (.string (strB us)) w := by
  cases A with
  | none =>
    have hm : n = 0 := by
      refine Nat.eq_zero_of_not_pos fun hp => ?_
      obtain ⟨b, off, e, _⟩ := h.2 hp
      cases e
    subst hm
    obtain rfl : us = [] := List.eq_nil_of_length_eq_zero h.1
    exact run_convert_bytes_nil w _ _ Try.underlying52 Try.underlying5 0 c _ Try.underlying9
  | some ad =>
    have hl : (loadCells ad n).run Try.prog w = .ok ((us.map fun u => bv u).map (Value.int .u8)).toArray w := by
      have := run_loadCells_list (P := Try.prog) w ad ((us.map fun u => bv u).map (Value.int .u8)) (fun j v hj => by
        have hjl : j < us.length := by
          have := (List.getElem?_eq_some_iff.1 hj).1
          simpa using this
        obtain ⟨ad', e, hc⟩ := h.adds (by have := h.1; omega)
        injection e with e
        subst e
        refine hc j v ?_
        rw [← hj]
        simp [bvs, Function.comp_def])
      simpa [h.1] using this
    rw [run_convert_bytes_string w _ _ 5 _ n c Try.underlying52 Try.underlying5 Try.underlying9, run_bytesToString w _ n c _ hl, foldl_push_bytes, nums_us]
    simp [strB, ByteArray.empty, ByteArray.emptyWithCapacity]
    rfl
theorem bequal_any {B B2 : Nat} {A A2 : Option Addr} {n n2 c c2 : Nat} {us vs : List UInt8} {w : World} (h : Rd w B A n us) (h2 : Rd w B2 A2 n2 vs) :
    Calls Try.prog 75 #[.slice A n c, .slice A2 n2 c2] w fun e w' => e = .returned (.bool (us == vs)) ∧ w = w' := by
  have q1 := convert_str (c := c) h
  have q2 := convert_str (c := c2) h2
  go_enter Try.func75, Try.ntmps75
  go_wp2_with fail
  go_ret
  exact ⟨by rw [strB_eq]; rfl, rfl⟩
end Go.Proofs.Ytaidbcppecoenaa

