import Derived.Test.YthfbgcjfnpajjaaDoorNatK
import Derived.Laws.Concat
/- The document's own numbers: at, Trim, Text. -/
namespace Go.Proofs.YthfbgcjfnpajjaaDoor
open Go.RowKit
set_option linter.unusedVariables false
set_option maxRecDepth 100000

/-- Bytes as digits. -/
def nb (us : List UInt8) : List Nat := us.map (·.toNat)
theorem nb_length (us : List UInt8) : (nb us).length = us.length := by simp [nb]
theorem nb_lt (us : List UInt8) : Below' 256 (nb us) := fun x hx => by
  obtain ⟨u, _, rfl⟩ := List.mem_map.1 hx
  exact u.toNat_lt
theorem nb_dg (us : List UInt8) (i : Nat) : dg (nb us) i = (us[i]?.getD 0).toNat := by
  unfold dg nb
  rw [List.getElem?_map]
  cases us[i]? <;> rfl
theorem nb_take (us : List UInt8) (m : Nat) : nb (us.take m) = (nb us).take m := by simp [nb, List.map_take]
theorem nb_snoc (us : List UInt8) (u : UInt8) : nb (us ++ [u]) = nb us ++ [u.toNat] := by simp [nb]
def leN (us : List UInt8) : Nat := num 256 (nb us)
theorem leN_lt (us : List UInt8) : leN us < 16 ^ (2 * us.length) := by
  have := num_lt (nb_lt us)
  rw [nb_length] at this
  rw [Nat.pow_mul]
  exact this
theorem bv_uv (us : List UInt8) (i : Nat) : bv (us[i]?.getD 0) = uv (dg (nb us) i) := by rw [nb_dg]; rfl
theorem Rd.part_take {w : World} {B n : Nat} {A : Option Addr} {us : List UInt8} (h : Rd w B A n us) {m : Nat} (hm : m ≤ n) : Rd w B A m (us.take m) :=
  ⟨by rw [List.length_take, h.1]; omega, fun hn => by
    obtain ⟨b, off, e, hb, hc⟩ := h.2 (by omega)
    refine ⟨b, off, e, hb, fun i x hx => ?_⟩
    have hi : i < m := by
      have := (List.getElem?_eq_some_iff.1 hx).1
      rw [List.length_take] at this; omega
    rw [List.getElem?_take, if_pos hi] at hx
    exact hc i x hx⟩
theorem at_any {B : Nat} {A : Option Addr} {n c : Nat} {us : List UInt8} {w : World} (h : Rd w B A n us) (i : Nat) (hn : n ≤ 9223372036854775807) (hi : i ≤ 9223372036854775807) :
    Calls Tryd.prog 39 #[.slice A n c, .int .i64 i] w fun e w' => e = .returned (.int .i64 (uv (dg (nb us) i))) ∧ w = w' := by
  have Hl := Lib.hid h.1
  by_cases hlt : i < n
  · obtain ⟨b, off, rfl, _, hc⟩ := h.at_ hlt
    rw [bv_uv] at hc
    have u0 := uv_nn (dg (nb us) i)
    have u1 : uv (dg (nb us) i) < 256 := by have := dg_lt (by omega) (nb_lt us) i; unfold uv; omega
    clear h
    go_enter Tryd.func39, Tryd.ntmps39
    go_wp2_with fail
    go_ret
    exact ⟨rfl, rfl⟩
  · have e : Hid (uv (dg (nb us) i) = 0) := Lib.hid (by rw [dg_none (by rw [nb_length, Hl.out]; omega)]; rfl)
    clear h
    go_enter Tryd.func39, Tryd.ntmps39
    go_wp2_with fail
    go_ret
    exact ⟨by rw [e.out]; rfl, rfl⟩
/-- How long a slice is. -/
def slen0 : Value → Nat
  | .slice _ n _ => n
  | _ => 0
/-- What 'Trim' gives: the same row, less the noughts at its end. -/
def TrimB (A : Option Addr) (c n : Nat) (us : List UInt8) (e : Ending) : Prop :=
  ∃ m, e = .returned (.slice A m c) ∧ m ≤ n ∧ Canon (nb (us.take m)) ∧ leN (us.take m) = leN us
theorem trim_any {B : Nat} {A : Option Addr} {n c : Nat} {us : List UInt8} {w : World} (h : Rd w B A n us) (hn : n ≤ c) (hc : c ≤ 9223372036854775807) :
    Calls Tryd.prog 17 #[.slice A n c] w fun e w' => TrimB A c n us e ∧ w = w' := by
  have Hl := Lib.hid h.1
  have Hat := Lib.hid (fun (k : Nat) => h.at_ (k := k))
  clear h
  have HZ := Lib.hid (show Null (nb us) n from fun i hi => dg_none (by rw [nb_length, Hl.out]; exact hi))
  go_enter Tryd.func17, Tryd.ntmps17
  go_wp2
  go_loop [0] (fun s => ∃ k : Nat, k ≤ n ∧ s = .slice A k c ∧ Hid (Null (nb us) k)) (fun s => slen0 s)
  case atStart => exact ⟨n, by omega, rfl, HZ⟩
  case round =>
    obtain ⟨k, hk, rfl, hz⟩ := hrel
    have hnum : Hid (leN (us.take k) = leN us) := Lib.hid (by unfold leN; rw [nb_take]; exact num_null 256 hz.out)
    by_cases hlt : 0 < k
    · obtain ⟨j, rfl⟩ : ∃ j, k = j + 1 := ⟨k - 1, by omega⟩
      obtain ⟨b, off, rfl, hbB, hcell⟩ := Hat.out j (by omega)
      rw [bv_uv] at hcell
      have e1 : ((j + 1 : Nat) : Int) - 1 = (j : Int) := by omega
      have e2 : (j : Int) + 1 - 1 = (j : Int) := by omega
      by_cases h0 : dg (nb us) j = 0
      · have t : (uv (dg (nb us) j) == 0) = true := by rw [h0]; rfl
        have Hz := Lib.hid (show Null (nb us) j from fun i hi => by
          by_cases hij : i = j
          · rw [hij]; exact h0
          · exact hz.out i (by omega))
        clear h0
        go_wp2_with fail
        go_round
        case rel => exact ⟨j, by omega, rfl, Hz⟩
        case measure => simp [slen0]
      · have t : (uv (dg (nb us) j) == 0) = false := by
          have : uv (dg (nb us) j) ≠ 0 := by unfold uv; omega
          simpa using this
        have Hc : Hid (Canon (nb (us.take (j + 1)))) := Lib.hid (by rw [nb_take]; exact canon_take (by rw [nb_length, Hl.out]; omega) (.inr h0))
        clear h0
        go_wp2_with fail
        go_ret
        exact ⟨⟨j + 1, rfl, hk, Hc.out, hnum.out⟩, rfl⟩
    · obtain rfl : k = 0 := by omega
      go_wp2_with fail
      go_ret
      exact ⟨⟨0, rfl, by omega, canon_nil, hnum.out⟩, rfl⟩
end Go.Proofs.YthfbgcjfnpajjaaDoor
