import Derived.Test.YtaidbcppecoenaaElimI
import Derived.Test.YtaidbcppecoenaaGridF
/- The statements of layer 8: Few. -/
namespace Go.Proofs.Ytaidbcppecoenaa
open Go.RowKit
set_option linter.unusedVariables false
set_option maxRecDepth 100000

def small8 (r : RowL) : Bool := decide (r.1.length ≤ 20) && decide (r.2.length ≤ 20)
def few8B (L : List RowL) : Bool := L.all small8 && decide (L.length ≤ 30)
set_option maxHeartbeats 1000000 in
theorem few8_any {B : Nat} {A : Option Addr} {n c : Nat} {L : List RowL} {w : World} (h : RL w B A n L) (hn : n ≤ 9223372036854775807) :
    Calls Try.prog 26 #[.slice A n c] w fun e w' => e = .returned (.bool (few8B L)) ∧ Below w.heap.size w w' := by
  have H1 := Lib.hid h.1.symm
  go_enter Try.func26, Try.ntmps26
  go_wp2_with fail
  go_loopw [7] (fun i wr => ∃ j : Nat, j ≤ n ∧ i = .int .i64 j ∧ Hid ((L.take j).all small8 = true) ∧ Below w.heap.size w wr) (fun i _ => n - (intOf i).toNat)
  case atStart => exact ⟨0, by omega, rfl, Lib.hid rfl, Below.refl _ _⟩
  case round =>
    obtain ⟨j, hj, rfl, hp, hb⟩ := hrel
    by_cases hlt : j < n
    · obtain ⟨g, o, A1, n1, c1, A2, n2, c2, rfl, k0, k1, r⟩ := (h.step hb).at_ hlt
      have b6 := Blk.new wr 54 #[.slice A1 n1 c1, .slice A2 n2 c2]
      have hb6 := bstep hb (balloc wr (.cells #[.slice A1 n1 c1, .slice A2 n2 c2] 54))
      obtain ⟨d0, d1, _, _⟩ := cells2 b6
      obtain ⟨p1, p2, _, _⟩ := r.parts
      have e1 := p1.1
      have e2 := p2.1
      have hjl : j < L.length := by rw [H1.out]; exact hlt
      have hbad : ¬ (n1 ≤ 20 ∧ n2 ≤ 20) → few8B L = false := fun hno => by
        unfold few8B
        rw [Bool.and_eq_false_iff]; left
        rw [List.all_eq_false]
        refine ⟨L[j], List.getElem_mem hjl, ?_⟩
        rw [List.getElem?_eq_getElem hjl] at e1 e2
        simp only [Option.getD_some] at e1 e2
        simp [small8, e1, e2]
        omega
      have hok : n1 ≤ 20 ∧ n2 ≤ 20 → (L.take (j + 1)).all small8 = true := fun ⟨x1, x2⟩ => by
        rw [← take_get ([], []) hjl, List.all_append, hp.out]
        simp [small8, e1, e2, x1, x2]
      have HBad := Lib.hid hbad
      have HOk := Lib.hid hok
      clear hbad hok p1 p2 e1 e2 r
      have hjz : (j : Int) < (n : Int) := by omega
      by_cases x1 : 20 < n1
      · have Hf := Lib.hid (HBad.out (by omega))
        go_wp2_with fail
        go_ret
        exact ⟨ret_bool Hf.out.symm, hb6⟩
      · have x1' : n1 ≤ 20 := by omega
        by_cases x2 : 20 < n2
        · have Hf := Lib.hid (HBad.out (by omega))
          clear x1
          go_wp2_with fail
          go_ret
          exact ⟨ret_bool Hf.out.symm, hb6⟩
        · have x2' : n2 ≤ 20 := by omega
          have Hp := Lib.hid (HOk.out ⟨x1', x2'⟩)
          clear x1 x2
          go_wp2_with fail
          go_roundw
          case rel => exact ⟨j + 1, by omega, by go_num, Hp, hb6⟩
          case measure => simp [intOf]; omega
    · obtain rfl : j = n := by omega
      by_cases h30 : j ≤ 30
      · have Hf : Hid (few8B L = true) := Lib.hid (by
          have := hp.out
          rw [List.take_of_length_le (by rw [H1.out]; exact Nat.le_refl _)] at this
          unfold few8B; rw [this, H1.out]; simp [h30])
        go_wp2_with fail
        go_ret
        exact ⟨ret_bool (by rw [Hf.out]; simp; omega), hb⟩
      · have Hf : Hid (few8B L = false) := Lib.hid (by
          unfold few8B; rw [H1.out]; simp [h30])
        have h31 : 30 < j := by omega
        clear h30
        go_wp2_with fail
        go_ret
        exact ⟨ret_bool (by rw [Hf.out]; simp; omega), hb⟩
end Go.Proofs.Ytaidbcppecoenaa

