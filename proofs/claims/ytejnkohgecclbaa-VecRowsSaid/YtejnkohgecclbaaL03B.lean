import Derived.Test.YtejnkohgecclbaaVecD
import Derived.Test.YtejnkohgecclbaaL03A
import Derived.Lib.SmallJoins
import Derived.Deep.DeepCutAuto
import Derived.Deep.CutRange
/- Proved: for every input VecRows returns true and leaves what it is handed as it was. No condition. -/
namespace Go.Proofs.Ytejnkohgecclbaa
open Go.Joins Go.ChangeShapes Go.WideShapes Go.ChangeAt Go.RowKit
open Go.ChangeMaps (open_string shut_string)
set_option linter.unusedVariables false
set_option maxRecDepth 100000

theorem cells22 {W w : World} {g g2 : Nat} {T T2 : TypeId} {a b c d : Value} (h : Blk W g T #[a, b]) (h2 : Blk W g2 T2 #[c, d]) (hB : Below W.heap.size W w) :
    w.cell? ⟨g, 0, none⟩ = some a ∧ w.cell? ⟨g, 1, none⟩ = some b ∧ w.cell? ⟨g2, 0, none⟩ = some c ∧ w.cell? ⟨g2, 1, none⟩ = some d := by
  obtain ⟨k0, k1, _, _⟩ := cells2 (h.below hB h.lt)
  obtain ⟨k2, k3, _, _⟩ := cells2 (h2.below hB h2.lt)
  exact ⟨k0, k1, k2, k3⟩
set_option maxHeartbeats 4000000 in
theorem rows3_main (A1 : Option Addr) (n1 c1 : Nat) (A2 : Option Addr) (n2 c2 : Nat) (A3 : Option Addr) (n3 c3 : Nat) (A4 : Option Addr) (n4 c4 : Nat) (r o : List UInt8 × List UInt8) (x : UInt8) (w : World)
    (h1 : Rd w w.heap.size A1 n1 r.1) (h2 : Rd w w.heap.size A2 n2 r.2) (h3 : Rd w w.heap.size A3 n3 o.1) (h4 : Rd w w.heap.size A4 n4 o.2) (l1 : n1 ≤ 100) (l2 : n2 ≤ 100) (l3 : n3 ≤ 100) (l4 : n4 ≤ 100) :
    Calls Try.prog 4 #[.agg #[.slice A1 n1 c1, .slice A2 n2 c2], .agg #[.slice A3 n3 c3, .slice A4 n4 c4], .int .u8 (bv x)] w fun e w' => e = .returned (.bool true) ∧ Below w.heap.size w w' := by
  obtain ⟨hb0, bx, by_⟩ := two_alloc (w := w) (T := 33) (T2 := 33) (cs := #[.slice A1 n1 c1, .slice A2 n2 c2]) (cs2 := #[.slice A3 n3 c3, .slice A4 n4 c4])
  have rx : RowIs w r (.agg #[.slice A1 n1 c1, .slice A2 n2 c2]) := ⟨_, _, _, _, _, _, rfl, h1, h2, by omega, by omega⟩
  have ry : RowIs w o (.agg #[.slice A3 n3 c3, .slice A4 n4 c4]) := ⟨_, _, _, _, _, _, rfl, h3, h4, by omega, by omega⟩
  replace rx := rx.step hb0
  replace ry := ry.step hb0
  clear h1 h2 h3 h4
  go_enter Try.func4, Try.ntmps4
  go_wp2_with fail
  refine (awake3 _).mono ?_
  rintro e w1 ⟨rfl, hB⟩
  generalize (w.alloc (.cells #[.slice A1 n1 c1, .slice A2 n2 c2] 33)).alloc (.cells #[.slice A3 n3 c3, .slice A4 n4 c4] 33) = W at *
  obtain ⟨k0, k1, k2, k3⟩ := cells22 bx by_ hB
  go_wp2_with fail
  refine (few3_any (by omega) (by omega)).mono ?_
  rintro e w2 ⟨rfl, b⟩
  replace hB := bstep hB b
  clear k0 k1 k2 k3 b
  obtain ⟨k0, k1, k2, k3⟩ := cells22 bx by_ hB
  go_wp2_with fail
  refine (few3_any (by omega) (by omega)).mono ?_
  rintro e w3 ⟨rfl, b⟩
  replace hB := bstep hB b
  clear k0 k1 k2 k3 b
  obtain ⟨k0, k1, k2, k3⟩ := cells22 bx by_ hB
  go_wp2_with fail
  refine (c_make (rx.step hB)).mono ?_
  rintro e w4 ⟨v, rfl, ⟨A5, n5, c5, A6, n6, c6, rfl, q1, q2, m1, m2⟩, b⟩
  have rr : RowIs w4 r (.agg #[.slice A5 n5 c5, .slice A6 n6 c6]) := ⟨_, _, _, _, _, _, rfl, q1, q2, m1, m2⟩
  replace hB := bstep hB b
  clear k0 k1 k2 k3 b q1 q2
  go_upto_region 6 with fail
  have hT := bstep hb0 (bstep hB (balloc w4 (.cells #[.slice A5 n5 c5, .slice A6 n6 c6] 35)))
  have br := Blk.new w4 35 #[.slice A5 n5 c5, .slice A6 n6 c6]
  replace bx := bx.below (bstep hB (balloc w4 (.cells #[.slice A5 n5 c5, .slice A6 n6 c6] 35))) bx.lt
  replace by_ := by_.below (bstep hB (balloc w4 (.cells #[.slice A5 n5 c5, .slice A6 n6 c6] 35))) by_.lt
  replace rx := rx.step (bstep hB (balloc w4 (.cells #[.slice A5 n5 c5, .slice A6 n6 c6] 35)))
  replace ry := ry.step (bstep hB (balloc w4 (.cells #[.slice A5 n5 c5, .slice A6 n6 c6] 35)))
  replace rr := rr.step (balloc w4 (.cells #[.slice A5 n5 c5, .slice A6 n6 c6] 35))
  clear hB hb0
  generalize w4.alloc (.cells #[.slice A5 n5 c5, .slice A6 n6 c6] 35) = V at *
  generalize w4.heap.size = g7 at *
  generalize w.heap.size + 1 = g4 at *
  have HS : Hid (∀ w', Below V.heap.size V w' → (Below V.heap.size V w' ∧ w'.cell? ⟨g7, 0, none⟩ = some (.slice A5 n5 c5) ∧ w'.cell? ⟨g7, 1, none⟩ = some (.slice A6 n6 c6) ∧ w'.cell? ⟨g4, 0, none⟩ = some (.slice A3 n3 c3) ∧ w'.cell? ⟨g4, 1, none⟩ = some (.slice A4 n4 c4))) := Lib.hid fun w' hb => ⟨hb, cells22 br by_ hb⟩
  go_cut [8, 9] (fun s8 s9 wx => ∃ g, s8 = .pointer (some ⟨g, 0, none⟩) ∧ s9 = .int .i64 (lessR r x o).2 ∧ Holds wx g 35 (lessR r x o).1 ∧ Below V.heap.size V wx)
  case first =>
    go_region_held3 (fun w' => Below V.heap.size V w' ∧ w'.cell? ⟨g7, 0, none⟩ = some (.slice A5 n5 c5) ∧ w'.cell? ⟨g7, 1, none⟩ = some (.slice A6 n6 c6) ∧ w'.cell? ⟨g4, 0, none⟩ = some (.slice A3 n3 c3) ∧ w'.cell? ⟨g4, 1, none⟩ = some (.slice A4 n4 c4))
      ((refine HS.out _ ?_; first | exact (Below.refl _ _).drew | assumption | exact bstep (And.left ‹Below V.heap.size V _ ∧ _›) (balloc _ _) | go_grown))
      (first
        | (go_at_call 13; (with_reducible refine (c_make (w := (V.alloc (.cells #[.slice none 0 0, .slice none 0 0] 35)).drew) (ry.step (And.left ‹Below V.heap.size V _ ∧ _›))).mono ?_); rintro e w6 ⟨v, rfl, r6, b6⟩; have kB6 := bstep (And.left ‹Below V.heap.size V _ ∧ _›) b6; have kgA := (Blk.new V 35 #[.slice none 0 0, .slice none 0 0]).drew.below b6 (by simp))
        | (go_at_call 13; (with_reducible refine (c_make (ry.step (And.left ‹Below V.heap.size V _ ∧ _›))).mono ?_); rintro e w6 ⟨v, rfl, r6, b6⟩; have kB6 := bstep (And.left ‹Below V.heap.size V _ ∧ _›) b6)
        | (go_at_call 14; (with_reducible refine (c_less (w := w6.alloc (.cells #[.slice none 0 0, .slice none 0 0] 35)) x (rr.step (And.left ‹Below V.heap.size V _ ∧ _›)) (r6.step (balloc _ _))).mono ?_); rintro e w7 ⟨v7, rfl, ⟨A7, n7, c7, A8, n8, c8, rfl, q7, q8, l7, l8⟩, b7⟩; have kB7 := bstep (And.left ‹Below V.heap.size V _ ∧ _›) b7; have kg := (Blk.new w6 35 #[.slice none 0 0, .slice none 0 0]).below b7 (by simp); obtain ⟨z0, z1, z2, z3⟩ := cells2 kg; have zs := kB6.size)
        | (go_at_call 14; (with_reducible refine (c_less x (rr.step (And.left ‹Below V.heap.size V _ ∧ _›)) r6).mono ?_); rintro e w7 ⟨v7, rfl, ⟨A7, n7, c7, A8, n8, c8, rfl, q7, q8, l7, l8⟩, b7⟩; have kB7 := bstep (And.left ‹Below V.heap.size V _ ∧ _›) b7; have kg := kgA.below b7 kgA.lt; obtain ⟨z0, z1, z2, z3⟩ := cells2 kg; have zs := Nat.le_refl V.heap.size)
        | (go_at_call 14; (with_reducible refine (c_less x (rr.step (And.left ‹Below V.heap.size V _ ∧ _›)) r6).mono ?_); rintro e w7 ⟨v7, rfl, ⟨A7, n7, c7, A8, n8, c8, rfl, q7, q8, l7, l8⟩, b7⟩; have kB7 := bstep (And.left ‹Below V.heap.size V _ ∧ _›) b7; have zs := kB7.size))
    all_goals
      go_wp2_with fail
      go_meet
      have r7 : RowIs w7 (lessR r x o).1 (.agg #[.slice A7 n7 c7, .slice A8 n8 c8]) := ⟨_, _, _, _, _, _, rfl, q7, q8, l7, l8⟩
      first
      | exact ⟨_, rfl, rfl, Holds.set kg r7, (kB7.setCell zs _).setCell zs _⟩
      | exact ⟨_, rfl, rfl, Holds.new r7, bstep kB7 (balloc _ _)⟩
  case rest =>
    obtain ⟨g8, rfl, rfl, ⟨A9, n9, c9, A10, n10, c10, b8, r8⟩, hB6⟩ := hcut
    go_upto_region 7 with fail
    replace bx := bx.below hB6 bx.lt
    replace by_ := by_.below hB6 by_.lt
    replace br := br.below hB6 br.lt
    replace rx := rx.step hB6
    replace ry := ry.step hB6
    replace rr := rr.step hB6
    replace hT := bstep hT hB6
    clear HS hB6
    generalize wc = V at *
    generalize w.heap.size = g0 at bx ⊢
    have HS : Hid (∀ w', Below V.heap.size V w' → (Below V.heap.size V w' ∧ w'.cell? ⟨g0, 0, none⟩ = some (.slice A1 n1 c1) ∧ w'.cell? ⟨g0, 1, none⟩ = some (.slice A2 n2 c2) ∧ w'.cell? ⟨g4, 0, none⟩ = some (.slice A3 n3 c3) ∧ w'.cell? ⟨g4, 1, none⟩ = some (.slice A4 n4 c4))) := Lib.hid fun w' hb => ⟨hb, cells22 bx by_ hb⟩
    go_cut [10, 11] (fun s8 s9 wx => ∃ g, s8 = .pointer (some ⟨g, 0, none⟩) ∧ s9 = .int .i64 (lessR r x o).2 ∧ Holds wx g 39 (lessR r x o).1 ∧ Below V.heap.size V wx)
    case first =>
      go_region_held3 (fun w' => Below V.heap.size V w' ∧ w'.cell? ⟨g0, 0, none⟩ = some (.slice A1 n1 c1) ∧ w'.cell? ⟨g0, 1, none⟩ = some (.slice A2 n2 c2) ∧ w'.cell? ⟨g4, 0, none⟩ = some (.slice A3 n3 c3) ∧ w'.cell? ⟨g4, 1, none⟩ = some (.slice A4 n4 c4))
        ((refine HS.out _ ?_; first | exact (Below.refl _ _).drew | assumption | exact bstep (And.left ‹Below V.heap.size V _ ∧ _›) (balloc _ _) | go_grown))
        (first
          | (go_at_call 16; (with_reducible refine (c_ref (w := (V.alloc (.cells #[.slice none 0 0, .slice none 0 0] 39)).drew) (rx.step (And.left ‹Below V.heap.size V _ ∧ _›))).mono ?_); rintro e w5 ⟨v5, rfl, r5, b5⟩; have kB5 := bstep (And.left ‹Below V.heap.size V _ ∧ _›) b5; have kg5 := (Blk.new V 39 #[.slice none 0 0, .slice none 0 0]).drew.below b5 (by simp); have zs := Nat.le_refl V.heap.size)
          | (go_at_call 16; (with_reducible refine (c_ref (w := V.drew) (rx.step (And.left ‹Below V.heap.size V _ ∧ _›))).mono ?_); rintro e w5 ⟨v5, rfl, r5, b5⟩; have kB5 := bstep (And.left ‹Below V.heap.size V _ ∧ _›) b5)
          | (go_at_call 16; (with_reducible refine (c_ref (w := w5.alloc (.cells #[.slice none 0 0, .slice none 0 0] 39)) (ry.step (And.left ‹Below V.heap.size V _ ∧ _›))).mono ?_); rintro e w6 ⟨v6, rfl, r6, b6⟩; have kB6 := bstep (And.left ‹Below V.heap.size V _ ∧ _›) b6; have r5' := (r5.step (balloc _ _)).step b6; have kg6 := (Blk.new w5 39 #[.slice none 0 0, .slice none 0 0]).below b6 (by simp); have zs := kB5.size)
          | (go_at_call 16; (with_reducible refine (c_ref (ry.step (And.left ‹Below V.heap.size V _ ∧ _›))).mono ?_); rintro e w6 ⟨v6, rfl, r6, b6⟩; have kB6 := bstep (And.left ‹Below V.heap.size V _ ∧ _›) b6; have r5' := r5.step b6; have kg6 := kg5.below b6 kg5.lt)
          | (go_at_call 16; (with_reducible refine (c_ref (ry.step (And.left ‹Below V.heap.size V _ ∧ _›))).mono ?_); rintro e w6 ⟨v6, rfl, r6, b6⟩; have kB6 := bstep (And.left ‹Below V.heap.size V _ ∧ _›) b6; have r5' := r5.step b6)
          | (go_at_call 15; (with_reducible refine (c_refless (w := w6.alloc (.cells #[.slice none 0 0, .slice none 0 0] 39)) x (r5'.step (balloc _ _)) (r6.step (balloc _ _))).mono ?_); rintro e w7 ⟨v7, rfl, ⟨A7, n7, c7, A8, n8, c8, rfl, q7, q8, l7, l8⟩, b7⟩; have kB7 := bstep (And.left ‹Below V.heap.size V _ ∧ _›) b7; have kg := (Blk.new w6 39 #[.slice none 0 0, .slice none 0 0]).below b7 (by simp); obtain ⟨z0, z1, z2, z3⟩ := cells2 kg; have zs := kB6.size)
          | (go_at_call 15; (with_reducible refine (c_refless x r5' r6).mono ?_); rintro e w7 ⟨v7, rfl, ⟨A7, n7, c7, A8, n8, c8, rfl, q7, q8, l7, l8⟩, b7⟩; have kB7 := bstep (And.left ‹Below V.heap.size V _ ∧ _›) b7; have kg := kg6.below b7 kg6.lt; obtain ⟨z0, z1, z2, z3⟩ := cells2 kg)
          | (go_at_call 15; (with_reducible refine (c_refless x r5' r6).mono ?_); rintro e w7 ⟨v7, rfl, ⟨A7, n7, c7, A8, n8, c8, rfl, q7, q8, l7, l8⟩, b7⟩; have kB7 := bstep (And.left ‹Below V.heap.size V _ ∧ _›) b7; have zs := kB7.size))
      all_goals
        go_wp2_with fail
        go_meet
        have r7 : RowIs w7 (lessR r x o).1 (.agg #[.slice A7 n7 c7, .slice A8 n8 c8]) := ⟨_, _, _, _, _, _, rfl, q7, q8, l7, l8⟩
        first
        | exact ⟨_, rfl, rfl, Holds.set kg r7, (kB7.setCell zs _).setCell zs _⟩
        | exact ⟨_, rfl, rfl, Holds.new r7, bstep kB7 (balloc _ _)⟩
    case rest =>
      obtain ⟨g10, rfl, rfl, ⟨A11, n11, c11, A12, n12, c12, b10, r10⟩, hB7⟩ := hcut
      go_upto_region 8 with fail
      replace bx := bx.below hB7 bx.lt
      replace by_ := by_.below hB7 by_.lt
      replace br := br.below hB7 br.lt
      replace b8 := b8.below hB7 b8.lt
      replace rx := rx.step hB7
      replace ry := ry.step hB7
      replace rr := rr.step hB7
      replace r8 := r8.step hB7
      replace hT := bstep hT hB7
      clear HS hB7
      generalize wc = V at *
      have HS : Hid (∀ w', Below V.heap.size V w' → (Below V.heap.size V w' ∧ w'.cell? ⟨g7, 0, none⟩ = some (.slice A5 n5 c5) ∧ w'.cell? ⟨g7, 1, none⟩ = some (.slice A6 n6 c6) ∧ w'.cell? ⟨g4, 0, none⟩ = some (.slice A3 n3 c3) ∧ w'.cell? ⟨g4, 1, none⟩ = some (.slice A4 n4 c4) ∧ w'.cell? ⟨g0, 0, none⟩ = some (.slice A1 n1 c1) ∧ w'.cell? ⟨g0, 1, none⟩ = some (.slice A2 n2 c2) ∧ w'.cell? ⟨g8, 0, none⟩ = some (.slice A9 n9 c9) ∧ w'.cell? ⟨g8, 1, none⟩ = some (.slice A10 n10 c10) ∧ w'.cell? ⟨g10, 0, none⟩ = some (.slice A11 n11 c11) ∧ w'.cell? ⟨g10, 1, none⟩ = some (.slice A12 n12 c12))) := Lib.hid fun w' hb => by
        obtain ⟨k0, k1, k2, k3⟩ := cells22 br by_ hb
        obtain ⟨k4, k5, k6, k7⟩ := cells22 bx b8 hb
        obtain ⟨k8, k9, _, _⟩ := cells22 b10 b10 hb
        exact ⟨hb, k0, k1, k2, k3, k4, k5, k6, k7, k8, k9⟩
      have hsr : (sameR r o == sameR r o) = true := by simp
      go_region_held3 (fun w' => Below V.heap.size V w' ∧ w'.cell? ⟨g7, 0, none⟩ = some (.slice A5 n5 c5) ∧ w'.cell? ⟨g7, 1, none⟩ = some (.slice A6 n6 c6) ∧ w'.cell? ⟨g4, 0, none⟩ = some (.slice A3 n3 c3) ∧ w'.cell? ⟨g4, 1, none⟩ = some (.slice A4 n4 c4) ∧ w'.cell? ⟨g0, 0, none⟩ = some (.slice A1 n1 c1) ∧ w'.cell? ⟨g0, 1, none⟩ = some (.slice A2 n2 c2) ∧ w'.cell? ⟨g8, 0, none⟩ = some (.slice A9 n9 c9) ∧ w'.cell? ⟨g8, 1, none⟩ = some (.slice A10 n10 c10) ∧ w'.cell? ⟨g10, 0, none⟩ = some (.slice A11 n11 c11) ∧ w'.cell? ⟨g10, 1, none⟩ = some (.slice A12 n12 c12)) ((refine HS.out _ ?_; first | exact (Below.refl _ _).drew | exact (And.left ‹Below V.heap.size V _ ∧ True›)))
        (first
          | (go_at_call 19; apply Calls.mono; (focus ((with_reducible apply c_norm); (repeat (first | exact rx.step (And.left ‹Below V.heap.size V _ ∧ _›) | exact ry.step (And.left ‹Below V.heap.size V _ ∧ _›) | exact rr.step (And.left ‹Below V.heap.size V _ ∧ _›) | exact r8.step (And.left ‹Below V.heap.size V _ ∧ _›) | exact r10.step (And.left ‹Below V.heap.size V _ ∧ _›) | assumption | (focus (apply RowIs.step; rotate_left 1; assumption)))); done)); rintro e wk ⟨vk, rfl, rk, bk⟩; have kB := And.intro (bstep (And.left ‹Below V.heap.size V _ ∧ _›) bk) trivial)
          | (go_at_call 18; apply Calls.mono; (focus ((with_reducible apply c_of); (repeat (first | exact rx.step (And.left ‹Below V.heap.size V _ ∧ _›) | exact ry.step (And.left ‹Below V.heap.size V _ ∧ _›) | exact rr.step (And.left ‹Below V.heap.size V _ ∧ _›) | exact r8.step (And.left ‹Below V.heap.size V _ ∧ _›) | exact r10.step (And.left ‹Below V.heap.size V _ ∧ _›) | assumption | (focus (apply RowIs.step; rotate_left 1; assumption)))); done)); rintro e wk ⟨vk, rfl, rk, bk⟩; have kB := And.intro (bstep (And.left ‹Below V.heap.size V _ ∧ _›) bk) trivial)
          | (go_at_call 16; apply Calls.mono; (focus ((with_reducible apply c_ref); (repeat (first | exact rx.step (And.left ‹Below V.heap.size V _ ∧ _›) | exact ry.step (And.left ‹Below V.heap.size V _ ∧ _›) | exact rr.step (And.left ‹Below V.heap.size V _ ∧ _›) | exact r8.step (And.left ‹Below V.heap.size V _ ∧ _›) | exact r10.step (And.left ‹Below V.heap.size V _ ∧ _›) | assumption | (focus (apply RowIs.step; rotate_left 1; assumption)))); done)); rintro e wk ⟨vk, rfl, rk, bk⟩; have kB := And.intro (bstep (And.left ‹Below V.heap.size V _ ∧ _›) bk) trivial)
          | (go_at_call 20; apply Calls.mono; (focus ((with_reducible apply c_refnorm); (repeat (first | exact rx.step (And.left ‹Below V.heap.size V _ ∧ _›) | exact ry.step (And.left ‹Below V.heap.size V _ ∧ _›) | exact rr.step (And.left ‹Below V.heap.size V _ ∧ _›) | exact r8.step (And.left ‹Below V.heap.size V _ ∧ _›) | exact r10.step (And.left ‹Below V.heap.size V _ ∧ _›) | assumption | (focus (apply RowIs.step; rotate_left 1; assumption)))); done)); rintro e wk ⟨vk, rfl, rk, bk⟩; have kB := And.intro (bstep (And.left ‹Below V.heap.size V _ ∧ _›) bk) trivial)
          | (go_at_call 17; apply Calls.mono; (focus ((with_reducible apply c_refsame_self); (repeat (first | exact rx.step (And.left ‹Below V.heap.size V _ ∧ _›) | exact ry.step (And.left ‹Below V.heap.size V _ ∧ _›) | exact rr.step (And.left ‹Below V.heap.size V _ ∧ _›) | exact r8.step (And.left ‹Below V.heap.size V _ ∧ _›) | exact r10.step (And.left ‹Below V.heap.size V _ ∧ _›) | assumption | (focus (apply RowIs.step; rotate_left 1; assumption)))); done)); rintro e wk ⟨rfl, bk⟩; have kB := And.intro (bstep (And.left ‹Below V.heap.size V _ ∧ _›) bk) trivial)
          | (go_at_call 17; apply Calls.mono; (focus ((with_reducible apply c_refsame); (repeat (first | exact rx.step (And.left ‹Below V.heap.size V _ ∧ _›) | exact ry.step (And.left ‹Below V.heap.size V _ ∧ _›) | exact rr.step (And.left ‹Below V.heap.size V _ ∧ _›) | exact r8.step (And.left ‹Below V.heap.size V _ ∧ _›) | exact r10.step (And.left ‹Below V.heap.size V _ ∧ _›) | assumption | (focus (apply RowIs.step; rotate_left 1; assumption)))); done)); rintro e wk ⟨rfl, bk⟩; have kB := And.intro (bstep (And.left ‹Below V.heap.size V _ ∧ _›) bk) trivial)
          | (go_at_call 13; apply Calls.mono; (focus ((with_reducible apply c_make); (repeat (first | exact rx.step (And.left ‹Below V.heap.size V _ ∧ _›) | exact ry.step (And.left ‹Below V.heap.size V _ ∧ _›) | exact rr.step (And.left ‹Below V.heap.size V _ ∧ _›) | exact r8.step (And.left ‹Below V.heap.size V _ ∧ _›) | exact r10.step (And.left ‹Below V.heap.size V _ ∧ _›) | assumption | (focus (apply RowIs.step; rotate_left 1; assumption)))); done)); rintro e wk ⟨vk, rfl, rk, bk⟩; have kB := And.intro (bstep (And.left ‹Below V.heap.size V _ ∧ _›) bk) trivial)
          | (go_at_call 21; apply Calls.mono; (focus ((with_reducible apply c_same); (repeat (first | exact rx.step (And.left ‹Below V.heap.size V _ ∧ _›) | exact ry.step (And.left ‹Below V.heap.size V _ ∧ _›) | exact rr.step (And.left ‹Below V.heap.size V _ ∧ _›) | exact r8.step (And.left ‹Below V.heap.size V _ ∧ _›) | exact r10.step (And.left ‹Below V.heap.size V _ ∧ _›) | assumption | (focus (apply RowIs.step; rotate_left 1; assumption)))); done)); rintro e wk ⟨rfl, bk⟩; have kB := And.intro (bstep (And.left ‹Below V.heap.size V _ ∧ _›) bk) trivial)
          | (go_at_call 22; apply Calls.mono; (focus ((with_reducible apply c_clone); (repeat (first | exact rx.step (And.left ‹Below V.heap.size V _ ∧ _›) | exact ry.step (And.left ‹Below V.heap.size V _ ∧ _›) | exact rr.step (And.left ‹Below V.heap.size V _ ∧ _›) | exact r8.step (And.left ‹Below V.heap.size V _ ∧ _›) | exact r10.step (And.left ‹Below V.heap.size V _ ∧ _›) | assumption | (focus (apply RowIs.step; rotate_left 1; assumption)))); done)); rintro e wk ⟨vk, rfl, rk, bk⟩; have kB := And.intro (bstep (And.left ‹Below V.heap.size V _ ∧ _›) bk) trivial))
      go_wp2_with fail
      go_ret
      exact ⟨rfl, bstep hT (And.left ‹Below V.heap.size V _ ∧ _›)⟩
theorem rows3_skip (A1 : Option Addr) (n1 c1 : Nat) (A2 : Option Addr) (n2 c2 : Nat) (A3 : Option Addr) (n3 c3 : Nat) (A4 : Option Addr) (n4 c4 : Nat) (x : UInt8) (w : World)
    (l1 : n1 ≤ 9223372036854775807) (l2 : n2 ≤ 9223372036854775807) (l3 : n3 ≤ 9223372036854775807) (l4 : n4 ≤ 9223372036854775807) (h : 100 < n1 ∨ 100 < n2 ∨ 100 < n3 ∨ 100 < n4) :
    Calls Try.prog 4 #[.agg #[.slice A1 n1 c1, .slice A2 n2 c2], .agg #[.slice A3 n3 c3, .slice A4 n4 c4], .int .u8 (bv x)] w fun e w' => e = .returned (.bool true) ∧ Below w.heap.size w w' := by
  obtain ⟨hb0, bx, by_⟩ := two_alloc (w := w) (T := 33) (T2 := 33) (cs := #[.slice A1 n1 c1, .slice A2 n2 c2]) (cs2 := #[.slice A3 n3 c3, .slice A4 n4 c4])
  have C1 := fun w => few3_any (A := A1) (A2 := A2) (c := c1) (c2 := c2) (w := w) l1 l2
  have C2 := fun w => few3_any (A := A3) (A2 := A4) (c := c3) (c2 := c4) (w := w) l3 l4
  by_cases g : n1 ≤ 100 ∧ n2 ≤ 100
  · have e1 : (decide (n1 ≤ 100) && decide (n2 ≤ 100)) = true := by simp [g]
    have e2 : (decide (n3 ≤ 100) && decide (n4 ≤ 100)) = false := by simp; omega
    rw [e1] at C1
    rw [e2] at C2
    clear e1 e2 g h
    go_enter Try.func4, Try.ntmps4
    go_wp2_with fail
    refine (awake3 _).mono ?_
    rintro e w1 ⟨rfl, hB⟩
    generalize (w.alloc (.cells #[.slice A1 n1 c1, .slice A2 n2 c2] 33)).alloc (.cells #[.slice A3 n3 c3, .slice A4 n4 c4] 33) = W at *
    obtain ⟨k0, k1, k2, k3⟩ := cells22 bx by_ hB
    go_wp2_with fail
    refine (C1 _).mono ?_
    rintro e w2 ⟨rfl, b⟩
    replace hB := bstep hB b
    clear k0 k1 k2 k3 b
    obtain ⟨k0, k1, k2, k3⟩ := cells22 bx by_ hB
    go_wp2_with fail
    refine (C2 _).mono ?_
    rintro e w3 ⟨rfl, b⟩
    go_wp2_with fail
    go_ret
    exact ⟨rfl, bstep (bstep hb0 hB) b⟩
  · have e1 : (decide (n1 ≤ 100) && decide (n2 ≤ 100)) = false := by simp; omega
    rw [e1] at C1
    clear e1 g h
    go_enter Try.func4, Try.ntmps4
    go_wp2_with fail
    refine (awake3 _).mono ?_
    rintro e w1 ⟨rfl, hB⟩
    generalize (w.alloc (.cells #[.slice A1 n1 c1, .slice A2 n2 c2] 33)).alloc (.cells #[.slice A3 n3 c3, .slice A4 n4 c4] 33) = W at *
    obtain ⟨k0, k1, k2, k3⟩ := cells22 bx by_ hB
    go_wp2_with fail
    refine (C1 _).mono ?_
    rintro e w2 ⟨rfl, b⟩
    go_wp2_with fail
    go_ret
    exact ⟨rfl, bstep (bstep hb0 hB) b⟩
theorem rows3_walk (A1 : Option Addr) (n1 c1 : Nat) (A2 : Option Addr) (n2 c2 : Nat) (us1 us2 : List UInt8) (A3 : Option Addr) (n3 c3 : Nat) (A4 : Option Addr) (n4 c4 : Nat) (us3 us4 : List UInt8) (x : UInt8) (w : World)
    (h1 : Rd w w.heap.size A1 n1 us1) (l1 : n1 ≤ c1 ∧ c1 ≤ maxLen) (h2 : Rd w w.heap.size A2 n2 us2) (l2 : n2 ≤ c2 ∧ c2 ≤ maxLen) (h3 : Rd w w.heap.size A3 n3 us3) (l3 : n3 ≤ c3 ∧ c3 ≤ maxLen) (h4 : Rd w w.heap.size A4 n4 us4) (l4 : n4 ≤ c4 ∧ c4 ≤ maxLen) :
    Calls Try.prog 4 #[.agg #[.slice A1 n1 c1, .slice A2 n2 c2], .agg #[.slice A3 n3 c3, .slice A4 n4 c4], .int .u8 (bv x)] w fun e w' => e = .returned (.bool true) ∧ Below w.heap.size w w' := by
  unfold maxLen at l1 l2 l3 l4
  by_cases h : 100 < n1 ∨ 100 < n2 ∨ 100 < n3 ∨ 100 < n4
  · exact rows3_skip A1 n1 c1 A2 n2 c2 A3 n3 c3 A4 n4 c4 x w (by omega) (by omega) (by omega) (by omega) h
  · exact rows3_main A1 n1 c1 A2 n2 c2 A3 n3 c3 A4 n4 c4 (us1, us2) (us3, us4) x w h1 h2 h3 h4 (by omega) (by omega) (by omega) (by omega)

/-! ### The frame of 'VecRows' -/
namespace vecRows
theorem own : ownKnob Try.prog.godebug = none := by kernel_rfl
theorem laidOut : laidOutB Try.prog = true := by kernel_rfl
theorem lifted (os : Os) (started : os.Started) (H : Type) (enc : TypeId × Value → H) :
    ReturnsInHanded {} Try.checked os 4 .any (Rows.vecRowsSpec.pre6 enc Try.prog Try.f4 Rows.vecRowsRow.domain false) (Rows.vecRowsSpec.post enc Try.prog Try.f4 false true false false) := by
  refine returnsInHanded_of_change (C := Try.checked) own started (by kernel_rfl) Try.func4
    (ChangeSpec.witness6 (enc := enc) (C := Try.checked) false ⟨#[], #[.agg #[.slice none 0 0, .slice none 0 0], .agg #[.slice none 0 0, .slice none 0 0], .int .u8 0], []⟩ 8 (by kernel_rfl) (by kernel_rfl) (by kernel_rfl) (by kernel_rfl)) ?_
  intro W base args ds gs before hval0 hW hcnd _
  have hval : ∀ (j : Nat) t v, Try.f4.params[j]? = some t → args[j]? = some v → Value.okWide Try.prog W .any base t v := hval0
  have hW' := hW
  obtain ⟨p, q, hA0, hV, rfl, hfz, hnd⟩ := hW
  have hA : DataW.TrodAll enc Try.prog W 0 (fun _ => true) true Try.f4.params.toList args.toList ds p := hA0
  rw [Try.params4] at hA hval
  obtain ⟨v0, vs0, d0, ds0, p0, q0, hargs, rfl, rfl, h0, q0'⟩ := trodAll_cons hA
  obtain ⟨v1, vs1, d1, ds1, p1, q1, rfl, rfl, rfl, h1, q1'⟩ := trodAll_cons q0'
  obtain ⟨v2, vs2, d2, ds2, p2, q2, rfl, rfl, rfl, h2, q2'⟩ := trodAll_cons q1'
  obtain ⟨rfl, rfl, rfl⟩ := trodAll_nil q2'
  obtain rfl : args = #[v0, v1, v2] := by cases args; simp_all
  obtain ⟨rfl, rfl⟩ := trodVars_none hV
  have k0 := h0
  have lt0 : ∀ x ∈ p0, x.block < W.heap.size := by obtain ⟨m, hm⟩ := k0; exact DataW.trod_lt m _ _ _ hm
  have k1 := h1
  have lt1 : ∀ x ∈ p1, x.block < W.heap.size := by obtain ⟨m, hm⟩ := k1; exact DataW.trod_lt m _ _ _ hm
  have k2 := h2
  have lt2 : ∀ x ∈ p2, x.block < W.heap.size := by obtain ⟨m, hm⟩ := k2; exact DataW.trod_lt m _ _ _ hm
  obtain ⟨va0, vb0, ya0, yb0, nf0, rfl, rfl, rfl, ta0, tb0⟩ := open_agg2 Try.underlying33 (by kernel_rfl) (by kernel_rfl) (hval 0 33 v0 rfl rfl) h0
  obtain ⟨A0, n0, c0, us0, rfl, r0, l0⟩ := bytes_cell Try.underlying22 Try.underlying5 (by kernel_rfl) ta0
  obtain ⟨B0, m0, d0, vs0, rfl, q0, s0⟩ := bytes_cell Try.underlying22 Try.underlying5 (by kernel_rfl) tb0
  obtain ⟨va1, vb1, ya1, yb1, nf1, rfl, rfl, rfl, ta1, tb1⟩ := open_agg2 Try.underlying33 (by kernel_rfl) (by kernel_rfl) (hval 1 33 v1 rfl rfl) h1
  obtain ⟨A1, n1, c1, us1, rfl, r1, l1⟩ := bytes_cell Try.underlying22 Try.underlying5 (by kernel_rfl) ta1
  obtain ⟨B1, m1, d1, vs1, rfl, q1, s1⟩ := bytes_cell Try.underlying22 Try.underlying5 (by kernel_rfl) tb1
  obtain ⟨a2, rfl, rfl, rfl, w2⟩ := open_int Try.underlying5 (hval 2 5 v2 rfl rfl) h2
  obtain ⟨u2, rfl⟩ := byte_of w2
  clear hA0 hval0
  refine (rows3_walk A0 n0 c0 B0 m0 d0 us0 vs0 A1 n1 c1 B1 m1 d1 us1 vs1 u2 W r0 l0 q0 s0 r1 l1 q1 s1).mono fun e W' ⟨he, bel⟩ => ?_
  subst he
  exact ⟨_, rfl, _, _, _, [], _, [], hW', trodAll_mk1 (shut_bool Try.underlying4 _), (trodAll_cons_mk (Below.trod laidOut (by kernel_rfl) (of_decide_eq_true (by kernel_rfl)) k0 bel lt0) (trodAll_cons_mk (Below.trod laidOut (by kernel_rfl) (of_decide_eq_true (by kernel_rfl)) k1 bel lt1) (trodAll_cons_mk (Below.trod laidOut (by kernel_rfl) (of_decide_eq_true (by kernel_rfl)) k2 bel lt2) trodAll_mk0))), rfl, bel.frame _, fun h => by cases h⟩

theorem over : Rows.vecRowsRow.holds Try.pinned (OpenSpec.ofChange Rows.vecRowsSpec) :=
  OpenClaim.holds_of_wide 4 Try.f4 rfl rfl rfl rfl rfl rfl rfl ⟨rfl, rfl, rfl, rfl, rfl⟩ rfl rfl rfl rfl rfl (by kernel_rfl) Try.func4 (by kernel_rfl)
    (of_decide_eq_true (by kernel_rfl)) (by unfold Func.isWrapper; first | (rw [if_pos (by decide +kernel)]; kernel_rfl) | (rw [if_neg (by decide +kernel)]; exact ⟨rfl, rfl⟩))
    (fun os started H enc _ => lifted os started H enc)
/-- The statement. -/
theorem proved : Rows.VecRowsSaid := over
end vecRows
end Go.Proofs.Ytejnkohgecclbaa
