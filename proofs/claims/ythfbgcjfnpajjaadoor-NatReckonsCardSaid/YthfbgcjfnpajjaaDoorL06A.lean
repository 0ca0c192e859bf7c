import Derived.Test.YthfbgcjfnpajjaaDoorNatI
/- What the laws of package nat lean on. -/
namespace Go.Proofs.YthfbgcjfnpajjaaDoor
open Go.RowKit
set_option linter.unusedVariables false
set_option maxRecDepth 100000

theorem lt_bd {N : Nat} (h : N < W64) : N < BD := by
  have : W64 ^ 1 ≤ BD := Nat.pow_le_pow_right (n := W64) W64_pos (show 1 ≤ K512 by decide)
  rw [Nat.pow_one] at this
  omega
theorem op_two {op : Nat → Nat → Nat} {s N M : Nat} (h1 : op s N < BD) (h2 : op (op s N) M < BD) : opAll op s [N, M] = some (op (op s N) M) := by
  simp only [opAll, List.foldl_cons, List.foldl_nil, opF, Option.bind_some, if_pos h1, if_pos h2]
/-- Two numbers, side by side in a block. -/
theorem nats_two {w : World} {g N M n1 c1 n2 c2 : Nat} {A1 A2 : Option Addr} {t : TypeId} (hg : Blk w g t #[.slice A1 n1 c1, .slice A2 n2 c2]) (h1 : NatIs w w.heap.size (.agg #[.slice A1 n1 c1]) N) (h2 : NatIs w w.heap.size (.agg #[.slice A2 n2 c2]) M) :
    Nats w w.heap.size (some ⟨g, 0, none⟩) 2 [N, M] := by
  refine ⟨rfl, fun _ => ⟨g, 0, rfl, hg.lt, fun i K hK => ?_⟩⟩
  match i, hK with
  | 0, hK => simp at hK; subst hK; exact ⟨A1, n1, c1, by rw [hg.cell]; rfl, h1⟩
  | 1, hK => simp at hK; subst hK; exact ⟨A2, n2, c2, by rw [hg.cell]; rfl, h2⟩
/-- The value of a number, opened. -/
theorem NatIs.open_ {w : World} {B N : Nat} {v : Value} (h : NatIs w B v N) : ∃ A n c, v = .agg #[.slice A n c] ∧ NatIs w B (.agg #[.slice A n c]) N := by
  obtain ⟨A, n, c, ws, rfl, h⟩ := h
  exact ⟨A, n, c, rfl, A, n, c, ws, rfl, h⟩
/-- The sum, or the product, of two that were just put side by side. -/
theorem call_two {f : FuncId} {op : Nat → Nat → Nat} {s0 : Nat} (hf : ∀ (A : Option Addr) (n c : Nat) (Ns : List Nat) (w : World), Nats w w.heap.size A n Ns → n ≤ 9223372036854775807 → Calls Tryd.prog f #[.slice A n c] w (GivesOpt (opAll op s0 Ns) w))
    {w : World} {N M n1 c1 n2 c2 : Nat} {A1 A2 : Option Addr} {t : TypeId} (h1 : NatIs w w.heap.size (.agg #[.slice A1 n1 c1]) N) (h2 : NatIs w w.heap.size (.agg #[.slice A2 n2 c2]) M) :
    Calls Tryd.prog f #[.slice (some ⟨w.heap.size, 0, none⟩) 2 2] (w.alloc (.cells #[.slice A1 n1 c1, .slice A2 n2 c2] t)) (GivesOpt (opAll op s0 [N, M]) (w.alloc (.cells #[.slice A1 n1 c1, .slice A2 n2 c2] t))) :=
  hf _ _ _ _ _ (nats_two (Blk.new w t _) (h1.step (balloc w _)) (h2.step (balloc w _))) (by omega)
theorem mul_two {w : World} {N M n1 c1 n2 c2 : Nat} {A1 A2 : Option Addr} {t : TypeId} (h1 : NatIs w w.heap.size (.agg #[.slice A1 n1 c1]) N) (h2 : NatIs w w.heap.size (.agg #[.slice A2 n2 c2]) M) :
    Calls Tryd.prog 21 #[.slice (some ⟨w.heap.size, 0, none⟩) 2 2] (w.alloc (.cells #[.slice A1 n1 c1, .slice A2 n2 c2] t)) (GivesOpt (opAll (fun s N => s * N) 1 [N, M]) (w.alloc (.cells #[.slice A1 n1 c1, .slice A2 n2 c2] t))) :=
  call_two (fun A n c Ns w h hn => mulall_any h hn) h1 h2
theorem add_two {w : World} {N M n1 c1 n2 c2 : Nat} {A1 A2 : Option Addr} {t : TypeId} (h1 : NatIs w w.heap.size (.agg #[.slice A1 n1 c1]) N) (h2 : NatIs w w.heap.size (.agg #[.slice A2 n2 c2]) M) :
    Calls Tryd.prog 20 #[.slice (some ⟨w.heap.size, 0, none⟩) 2 2] (w.alloc (.cells #[.slice A1 n1 c1, .slice A2 n2 c2] t)) (GivesOpt (opAll (fun s N => s + N) 0 [N, M]) (w.alloc (.cells #[.slice A1 n1 c1, .slice A2 n2 c2] t))) :=
  call_two (fun A n c Ns w h hn => addall_any h hn) h1 h2
theorem mul_ok {w : World} {N M P n1 c1 n2 c2 : Nat} {A1 A2 : Option Addr} {t : TypeId} (hP : opAll (fun s N => s * N) 1 [N, M] = some P) (h1 : NatIs w w.heap.size (.agg #[.slice A1 n1 c1]) N) (h2 : NatIs w w.heap.size (.agg #[.slice A2 n2 c2]) M) :
    Calls Tryd.prog 21 #[.slice (some ⟨w.heap.size, 0, none⟩) 2 2] (w.alloc (.cells #[.slice A1 n1 c1, .slice A2 n2 c2] t)) (GivesPair P (w.alloc (.cells #[.slice A1 n1 c1, .slice A2 n2 c2] t))) := by
  have := mul_two (t := t) h1 h2
  rwa [hP] at this
theorem add_ok {w : World} {N M P n1 c1 n2 c2 : Nat} {A1 A2 : Option Addr} {t : TypeId} (hP : opAll (fun s N => s + N) 0 [N, M] = some P) (h1 : NatIs w w.heap.size (.agg #[.slice A1 n1 c1]) N) (h2 : NatIs w w.heap.size (.agg #[.slice A2 n2 c2]) M) :
    Calls Tryd.prog 20 #[.slice (some ⟨w.heap.size, 0, none⟩) 2 2] (w.alloc (.cells #[.slice A1 n1 c1, .slice A2 n2 c2] t)) (GivesPair P (w.alloc (.cells #[.slice A1 n1 c1, .slice A2 n2 c2] t))) := by
  have := add_two (t := t) h1 h2
  rwa [hP] at this
theorem of_lit (z : Int) (N : Nat) (hz : uv N = z) (hN : N < W64) (w : World) : Calls Tryd.prog 11 #[.int .u64 z] w (GivesNat N w) := by
  rw [← hz]; exact of_any N hN w
theorem awake6 (w : World) : Calls Tryd.prog 7 #[] w fun e w' => e = .returned (.bool true) ∧ Below w.heap.size w w' := by
  have O := fun X => of_lit 255 255 rfl (by decide) X
  have e1 : opAll (fun s N => s * N) 1 [255, 255] = some 65025 := op_two (lt_bd (by decide)) (lt_bd (by decide))
  have x1 : hexT 65025 = [102, 101, 48, 49] := by rw [← hexT_of (k := 4) (by decide) (by decide)]; rfl
  have x2 : hexT 255 = [102, 102] := by rw [← hexT_of (k := 2) (by decide) (by decide)]; rfl
  have E1 := Lib.hid e1
  have X1 := Lib.hid x1
  have X2 := Lib.hid x2
  clear e1 x1 x2
  go_enter Tryd.func7, Tryd.ntmps7
  go_wp2_with fail
  refine (O _).mono ?_
  rintro e w1 ⟨v1, rfl, h1, b1⟩
  obtain ⟨A1, n1, c1, rfl, h1⟩ := h1.open_
  go_wp2_with fail
  refine (O _).mono ?_
  rintro e w2 ⟨v2, rfl, h2, b2⟩
  obtain ⟨A2, n2, c2, rfl, h2⟩ := h2.open_
  have k2 := bstep b1 b2
  have C := mul_two (t := 27) (h1.step b2) h2
  rw [E1.out] at C
  have k3 := bstep k2 (balloc w2 (.cells #[.slice A1 n1 c1, .slice A2 n2 c2] 27))
  clear h1 h2 b1 b2 k2
  go_wp2_with fail
  refine C.mono ?_
  rintro e w4 ⟨v4, rfl, h4, b4⟩
  obtain ⟨A4, n4, c4, rfl, h4⟩ := h4.open_
  have k4 := bstep k3 b4
  have k5 := bstep k4 (balloc w4 (.cells #[.slice A4 n4 c4] 27))
  have T := text_any (h4.step (balloc w4 (.cells #[.slice A4 n4 c4] 27)))
  rw [X1.out] at T
  clear C h4 b4 k4 k3 E1 X1
  have ts := bs_toList [102, 101, 48, 49]
  go_wp2_with fail
  refine T.mono ?_
  rintro e w6 ⟨rfl, b6⟩
  have k6 := bstep k5 b6
  clear T k5 b6
  go_wp2_with fail
  clear ts
  refine (O _).mono ?_
  rintro e w7 ⟨v7, rfl, h7, b7⟩
  obtain ⟨A7, n7, c7, rfl, h7⟩ := h7.open_
  have k7 := bstep k6 b7
  have T := text_any h7
  rw [X2.out] at T
  have ts := bs_toList [102, 102]
  clear b7 k6 X2 h7
  go_wp2_with fail
  refine T.mono ?_
  rintro e w8 ⟨rfl, b8⟩
  have k8 := bstep k7 b8
  clear T b8 k7
  go_wp2_with fail
  go_ret
  exact ⟨rfl, k8⟩
end Go.Proofs.YthfbgcjfnpajjaaDoor
