import Derived.Test.YthfbgcjfnpajjaaDoorL06B
import Derived.Test.YthfbgcjfnpajjaaDoorRefF
/- NatTells: its walk. -/
namespace Go.Proofs.YthfbgcjfnpajjaaDoor
open Go.RowKit
set_option linter.unusedVariables false
set_option maxRecDepth 100000

theorem len_bl {A : Option Addr} {n c N : Nat} {w : World} (h : NatIs w w.heap.size (.agg #[.slice A n c]) N) :
    Calls Tryd.prog 16 #[.agg #[.slice A n c]] w fun e w' => (∃ k : Nat, e = .returned (.int .i64 k) ∧ BL 256 N k) ∧ Below w.heap.size w w' := by
  obtain ⟨A', n', c', ws, e, w1, w2, rfl, w4⟩ := h
  injection e with e; injection e with e; injection e with e _; injection e with e1 e2 e3; subst e1 e2 e3
  exact len_walk w1 w2 w4
theorem trim_bl {B : Nat} {A : Option Addr} {n c : Nat} {us : List UInt8} {w : World} (h : Rd w B A n us) (hn : n ≤ c) (hc : c ≤ 9223372036854775807) :
    Calls Tryd.prog 17 #[.slice A n c] w fun e w' => (∃ m, e = .returned (.slice A m c) ∧ m ≤ n ∧ Rd w B A m (us.take m) ∧ BL 256 (leN us) m ∧ Canon (nb (us.take m)) ∧ leN (us.take m) = leN us) ∧ w = w' := by
  refine (trim_any h hn hc).mono ?_
  rintro e w' ⟨⟨m, rfl, hm, hk, hle⟩, rfl⟩
  have hl : (us.take m).length = m := by rw [List.length_take, h.1]; omega
  refine ⟨⟨m, rfl, hm, h.part_take hm, ?_, hk, hle⟩, rfl⟩
  have := canon_bl (nb_lt (us.take m)) hk
  rw [nb_length, hl] at this
  rwa [← hle]
end Go.Proofs.YthfbgcjfnpajjaaDoor
