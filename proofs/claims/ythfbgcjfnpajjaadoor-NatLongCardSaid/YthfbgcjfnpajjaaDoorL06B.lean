import Derived.Test.YthfbgcjfnpajjaaDoorL06A
/- NatLong: its walk. -/
namespace Go.Proofs.YthfbgcjfnpajjaaDoor
open Go.RowKit
set_option linter.unusedVariables false
set_option maxRecDepth 100000

theorem all_pow {N : Nat} (m : Nat) : ∀ s, (∀ k, k ≤ m → s * N ^ k < BD) → opAll (fun s N => s * N) s (List.replicate m N) = some (s * N ^ m) := by
  induction m with
  | zero => intro s _; simp [opAll]
  | succ m ih =>
    intro s h
    have h1 : s * N < BD := by have := h 1 (by omega); rwa [Nat.pow_one] at this
    have h2 := ih (s * N) fun k hk => by
      have := h (k + 1) (by omega)
      rwa [Nat.pow_succ, Nat.mul_comm (N ^ k), ← Nat.mul_assoc] at this
    rw [Nat.pow_succ, Nat.mul_comm (N ^ m), ← Nat.mul_assoc, ← h2]
    simp only [opAll, List.replicate_succ, List.foldl_cons, opF, Option.bind_some, if_pos h1]
theorem all_long {N j m : Nat} (hj : j < m) (h : ∀ k, k ≤ j → N ^ k < BD) (hb : BD ≤ N ^ (j + 1)) : opAll (fun s N => s * N) 1 (List.replicate m N) = none := by
  have h1 := all_pow j 1 (N := N) fun k hk => by rw [Nat.one_mul]; exact h k hk
  have h2 := opAll_take (Ns := List.replicate m N) (k := j) (by rw [List.take_replicate, Nat.min_eq_left (by omega)]; exact h1) (by rw [List.length_replicate]; exact hj)
  rw [dg_rep hj, Nat.one_mul] at h2
  have e : N ^ j * N = N ^ (j + 1) := (Nat.pow_succ ..).symm
  rw [if_neg (by rw [e]; omega)] at h2
  exact opAll_stop h2
theorem pow_ok {N : Nat} {v : Value} {w : World} (n : Int) (m : Nat) (h : NatIs w w.heap.size v N) (hm : (min n 65536).toNat = m) (hn : 0 ≤ n ∧ n ≤ 65536) (hb : ∀ k, k ≤ m → N ^ k < BD) :
    Calls Tryd.prog 26 #[v, .int .i64 n] w (GivesPair (N ^ m) w) := by
  refine (pow_any n h).mono fun e w' hp => ?_
  rw [hm] at hp
  unfold PowSays at hp
  rw [all_pow m 1 (fun k hk => by rw [Nat.one_mul]; exact hb k hk)] at hp
  simp only [if_neg (show ¬ (n < 0 ∨ 65536 < n) by omega), Nat.one_mul] at hp
  exact hp
theorem pow_range {N : Nat} {v : Value} {w : World} (n : Int) (m : Nat) (h : NatIs w w.heap.size v N) (hm : (min n 65536).toNat = m) (hn : n < 0 ∨ 65536 < n) (hb : ∀ k, k ≤ m → N ^ k < BD) :
    Calls Tryd.prog 26 #[v, .int .i64 n] w (GivesErr 2 w) := by
  refine (pow_any n h).mono fun e w' hp => ?_
  rw [hm] at hp
  unfold PowSays at hp
  rw [all_pow m 1 (fun k hk => by rw [Nat.one_mul]; exact hb k hk)] at hp
  simp only [if_pos hn] at hp
  exact hp
theorem pow_long {N : Nat} {v : Value} {w : World} (n : Int) (m j : Nat) (h : NatIs w w.heap.size v N) (hm : (min n 65536).toNat = m) (hj : j < m) (hk : ∀ k, k ≤ j → N ^ k < BD) (hb : BD ≤ N ^ (j + 1)) :
    Calls Tryd.prog 26 #[v, .int .i64 n] w (GivesErr 16 w) := by
  refine (pow_any n h).mono fun e w' hp => ?_
  rw [hm] at hp
  unfold PowSays at hp
  rw [all_long hj hk hb] at hp
  exact hp
/-! ### The bound itself -/
def K4095 : Nat := 4095
def K65536 : Nat := 65536
def TOP : Nat := 256 ^ K4095
theorem bd_eq : BD = 256 ^ (K4095 + 1) := by
  have h : W64 = 256 ^ 8 := by decide
  unfold BD
  rw [h, ← Nat.pow_mul, show 8 * K512 = K4095 + 1 from by decide]
theorem bd_top : BD = TOP * 256 := by rw [bd_eq, Nat.pow_succ, TOP]
theorem top_pos : 0 < TOP := Nat.pow_pos (by decide)
theorem top_lt : TOP < BD := by have := bd_top; have := top_pos; omega
theorem pow_lt_bd {k : Nat} (h : k ≤ K4095) : 256 ^ k < BD := by
  rw [bd_eq]; exact Nat.pow_lt_pow_right (by decide) (by omega)
theorem half_lt : 128 * TOP < BD := by have := bd_top; have := top_pos; omega
theorem bl_head {N : Nat} (h1 : TOP ≤ N) (h2 : N < BD) : BL 256 N (K4095 + 1) := ⟨by rw [← bd_eq]; exact h2, .inr (by rw [Nat.add_sub_cancel]; exact h1)⟩
theorem len_is {A : Option Addr} {n c N : Nat} {w : World} (h : NatIs w w.heap.size (.agg #[.slice A n c]) N) (k : Nat) (hk : BL 256 N k) :
    Calls Tryd.prog 16 #[.agg #[.slice A n c]] w fun e w' => e = .returned (.int .i64 k) ∧ Below w.heap.size w w' := by
  obtain ⟨A', n', c', ws, e, w1, w2, rfl, w4⟩ := h
  injection e with e; injection e with e; injection e with e _; injection e with e1 e2 e3; subst e1 e2 e3
  refine (len_walk w1 w2 w4).mono ?_
  rintro e w' ⟨⟨j, rfl, hj⟩, hb⟩
  exact ⟨by rw [hj.same (by decide) hk], hb⟩
theorem blk_new1 (w : World) (o : Obj) (t : TypeId) (cs : Array Value) : Blk ((w.alloc o).alloc (.cells cs t)) (w.heap.size + 1) t cs := by
  have := Blk.new (w.alloc o) t cs
  rwa [World.size_alloc] at this
/-- A number that lies in a box of its own. -/
def Box (w : World) (g N : Nat) : Prop := ∃ A n c, Blk w g 27 #[.slice A n c] ∧ NatIs w w.heap.size (.agg #[.slice A n c]) N
theorem Box.step {w w' : World} {g N : Nat} (h : Box w g N) (hb : Below w.heap.size w w') : Box w' g N := by
  obtain ⟨A, n, c, h1, h2⟩ := h
  exact ⟨A, n, c, blk_size h1 hb, h2.step hb⟩
theorem Box.new {w : World} {A : Option Addr} {n c N : Nat} (h : NatIs w w.heap.size (.agg #[.slice A n c]) N) : Box (w.alloc (.cells #[.slice A n c] 27)) w.heap.size N :=
  ⟨A, n, c, Blk.new w _ _, h.step (balloc w _)⟩
theorem Box.lt {w : World} {g N : Nat} (h : Box w g N) : g < w.heap.size := by
  obtain ⟨A, n, c, h1, h2⟩ := h
  exact h1.lt
set_option maxHeartbeats 2000000 in
theorem long_walk (w : World) : Calls Tryd.prog 6 #[] w fun e w' => e = .returned (.bool true) ∧ Below w.heap.size w w' := by
  have O256 := fun X => of_lit 256 256 rfl (by decide) X
  have O128 := fun X => of_lit 128 128 rfl (by decide) X
  have HO256 := Lib.hid O256
  have HO128 := Lib.hid O128
  clear O256 O128
  go_enter Tryd.func6, Tryd.ntmps6
  go_wp2_with fail
  refine (HO256.out _).mono ?_
  rintro e w1 ⟨v1, rfl, h1, b1⟩
  obtain ⟨A1, n1, c1, rfl, h1⟩ := h1.open_
  have C1 := pow_ok 4095 K4095 h1 (by decide) (by decide) (fun k hk => pow_lt_bd hk)
  rw [show 256 ^ K4095 = TOP from rfl] at C1
  go_wp2_with fail
  refine C1.mono ?_
  rintro e w2 ⟨v2, rfl, h2, b2⟩
  obtain ⟨A2, n2, c2, rfl, h2⟩ := h2.open_
  have X1 := Box.new h2
  have k3 := bstep (bstep b1 b2) (balloc w2 (.cells #[.slice A2 n2 c2] 27))
  clear C1 h1 b1 b2 h2
  go_wp2_with fail
  generalize w2.alloc (.cells #[.slice A2 n2 c2] 27) = W2 at *
  generalize w2.heap.size = g1 at *
  clear h2
  obtain ⟨A2, n2, c2, hg1, h2⟩ := X1
  have hcell := (blk_cell hg1).1
  have HG1 := Lib.hid hg1
  have HH2 := Lib.hid h2
  have E1 : Hid (opAll (fun s N => s * N) 1 [128, TOP] = some (128 * TOP)) := Lib.hid (by
    have := op_two (op := fun s N => s * N) (s := 1) (N := 128) (M := TOP) (lt_bd (by decide)) (by simpa using half_lt)
    simpa using this)
  go_cut [3, 4] from 22 to 28 (fun s3 s4 wx => ∃ g3, s3 = .pointer (some ⟨g3, 0, none⟩) ∧ s4 = .int .i64 0 ∧ Hid (Box wx g3 (128 * TOP)) ∧ Below W2.heap.size W2 wx)
  case first =>
    have HK : Hid (∀ w', Below W2.heap.size W2 w' → (Below W2.heap.size W2 w' ∧ w'.cell? ⟨g1, 0, none⟩ = some (.slice A2 n2 c2))) := Lib.hid fun w' hb => ⟨hb, (blk_cell (blk_size HG1.out hb)).1⟩
    have HK2 : Hid (∀ w' g y, Below W2.heap.size W2 w' → W2.heap.size ≤ g → (Below W2.heap.size W2 (w'.setCell ⟨g, 0, none⟩ y) ∧ (w'.setCell ⟨g, 0, none⟩ y).cell? ⟨g1, 0, none⟩ = some (.slice A2 n2 c2))) := Lib.hid fun w' g y hb hg => ⟨hb.setCell hg y, (blk_cell (blk_size HG1.out (hb.setCell hg y))).1⟩
    clear hg1 h2
    go_region_held3 (fun w' => Below W2.heap.size W2 w' ∧ w'.cell? ⟨g1, 0, none⟩ = some (.slice A2 n2 c2))
      ((first | exact HK.out _ (Below.refl _ _).drew | exact HK.out _ (And.left ‹Below W2.heap.size W2 _ ∧ True›) | exact HK.out _ (bstep (And.left ‹Below W2.heap.size W2 _ ∧ True›) (balloc _ _)) | exact HK.out _ (bstep (And.left ‹Below W2.heap.size W2 _ ∧ _›) (balloc _ _)) | exact HK.out _ (bstep (Below.refl _ _).drew (balloc _ _)) | exact HK2.out _ _ _ (And.left ‹Below W2.heap.size W2 _ ∧ True›) (by have := kB.1.size; omega)))
      (first
        | (go_at_call 11; (with_reducible refine (HO128.out _).mono ?_); rintro e w4 ⟨v4, rfl, h4, b4⟩; obtain ⟨A4, n4, c4, rfl, h4⟩ := h4.open_; have hz4 : Blk w4 W2.heap.size 27 #[.slice none 0 0] := blk_size (Blk.new W2.drew 27 #[.slice none 0 0]) b4; have kB := And.intro (bstep (And.left ‹Below W2.heap.size W2 _ ∧ _›) b4) trivial)
        | (go_at_call 11; (with_reducible refine (HO128.out _).mono ?_); rintro e w4 ⟨v4, rfl, h4, b4⟩; obtain ⟨A4, n4, c4, rfl, h4⟩ := h4.open_; have kB := And.intro (bstep (And.left ‹Below W2.heap.size W2 _ ∧ _›) b4) trivial)
        | (go_at_call 21; have hq4 := hz4; (with_reducible refine (mul_at E1.out (Blk.new _ _ _) (h4.step (balloc _ _)) ((HH2.out.step kB.1).step (balloc _ _))).mono ?_); rintro e w5 ⟨v5, rfl, h5, b5⟩; obtain ⟨A5, n5, c5, rfl, h5⟩ := h5.open_; have hz5 := blk_size (hz4.alloc _) b5; obtain ⟨z0, z1⟩ := blk_cell hz5; have hz6 := hz5.lt; have kB2 := And.intro (bstep (bstep kB.1 (balloc _ _)) b5) trivial)
        | (go_at_call 21; (with_reducible refine (mul_at E1.out (Blk.new _ _ _) (h4.step (balloc _ _)) ((HH2.out.step kB.1).step (balloc _ _))).mono ?_); rintro e w5 ⟨v5, rfl, h5, b5⟩; obtain ⟨A5, n5, c5, rfl, h5⟩ := h5.open_; have kB2 := And.intro (bstep (bstep kB.1 (balloc _ _)) b5) trivial)
        | (go_at_call 21; (with_reducible refine (mul_at E1.out ((Blk.new _ _ _).alloc _) (h4.step (bstep (balloc _ _) (balloc _ _))) ((HH2.out.step kB.1).step (bstep (balloc _ _) (balloc _ _)))).mono ?_); rintro e w5 ⟨v5, rfl, h5, b5⟩; obtain ⟨A5, n5, c5, rfl, h5⟩ := h5.open_; have hz5 := blk_size (Blk.new (w4.alloc _) 27 #[.slice none 0 0]) b5; simp only [World.size_alloc] at hz5; obtain ⟨z0, z1⟩ := blk_cell hz5; have hz6 := hz5.lt; have kB2 := And.intro (bstep (bstep kB.1 (bstep (balloc _ _) (balloc _ _))) b5) trivial)
        | (go_at_call 21; (with_reducible refine (mul_at E1.out (blk_new1 _ _ _ _) (h4.step (bstep (balloc _ _) (balloc _ _))) ((HH2.out.step kB.1).step (bstep (balloc _ _) (balloc _ _)))).mono ?_); rintro e w5 ⟨v5, rfl, h5, b5⟩; obtain ⟨A5, n5, c5, rfl, h5⟩ := h5.open_; have hz5 := blk_size ((Blk.new w4 27 #[.slice none 0 0]).alloc _) b5; obtain ⟨z0, z1⟩ := blk_cell hz5; have hz6 := hz5.lt; have kB2 := And.intro (bstep (bstep kB.1 (bstep (balloc _ _) (balloc _ _))) b5) trivial))
    all_goals
      go_wp2_with fail
      go_meet
      first
        | exact ⟨_, rfl, rfl, Lib.hid (Box.new h5), bstep kB2.1 (balloc _ _)⟩
        | exact ⟨_, rfl, rfl, Lib.hid ⟨A5, n5, c5, blk_one hz5, (h5.set hz5).more (by rw [size_setCell']; exact Nat.le_refl _)⟩, kB2.1.setCell (by have := kB.1.size; simp <;> omega) _⟩
  case rest =>
    obtain ⟨g3, rfl, rfl, X3, b3⟩ := hcut
    have hG1 := blk_size HG1.out b3
    have hH2 := HH2.out.step b3
    have k4 := bstep k3 b3
    clear hcell hg1 h2 HG1 HH2 E1 HO128 k3
    generalize hWc : wc = W3 at *
    clear hWc b3
    obtain ⟨A3, n3, c3, hg3, h3⟩ := X3.out
    have hcell := (blk_cell hg3).1
    have C5 := add_no (t := 27) (N := 128 * TOP) (M := 128 * TOP) (op_two_none (op := fun s N => s + N) (s := 0) (by simpa using half_lt) (by have := bd_top; simp; omega)) h3 h3
    have k5 := bstep k4 (balloc W3 (.cells #[.slice A3 n3 c3, .slice A3 n3 c3] 27))
    go_wp2_with fail
    refine C5.mono ?_
    rintro e w5 ⟨rfl, b5⟩
    have k6 := bstep (bstep k5 b5) (balloc w5 (.cells #[.slice none 0 0] 27))
    have hG1c := blk_size (blk_size (blk_size hG1 (balloc _ _)) b5) (balloc w5 (.cells #[.slice none 0 0] 27))
    have hG3c := blk_size (blk_size (blk_size hg3 (balloc _ _)) b5) (balloc w5 (.cells #[.slice none 0 0] 27))
    have hH2c := ((hH2.step (balloc _ _)).step b5).step (balloc w5 (.cells #[.slice none 0 0] 27))
    have hH3c := ((h3.step (balloc _ _)).step b5).step (balloc w5 (.cells #[.slice none 0 0] 27))
    clear C5 b5 k5 k4 hG1 hg3 hH2 h3 hcell X3
    go_wp2_with fail
    generalize w5.alloc (.cells #[.slice none 0 0] 27) = W4 at *
    have hcellb := (blk_cell hG1c).1
    have HG1b := Lib.hid hG1c
    have HH2b := Lib.hid hH2c
    have HG3b := Lib.hid hG3c
    have HH3b := Lib.hid hH3c
    have E1 : Hid (opAll (fun s N => s * N) 1 [256, TOP] = none) := Lib.hid (op_two_none (op := fun s N => s * N) (s := 1) (lt_bd (by decide)) (by have := bd_top; simp; omega))
    have hG1d := hG1c
    have hH2d := hH2c
    clear hG1c hH2c hG3c hH3c
    go_cut [8] from 36 to 42 (fun s8 wx => s8 = .int .i64 16 ∧ Below W4.heap.size W4 wx)
    case first =>
      have HK : Hid (∀ w', Below W4.heap.size W4 w' → (Below W4.heap.size W4 w' ∧ w'.cell? ⟨g1, 0, none⟩ = some (.slice A2 n2 c2))) := Lib.hid fun w' hb => ⟨hb, (blk_cell (blk_size HG1b.out hb)).1⟩
      have HK2 : Hid (∀ w' g y, Below W4.heap.size W4 w' → W4.heap.size ≤ g → (Below W4.heap.size W4 (w'.setCell ⟨g, 0, none⟩ y) ∧ (w'.setCell ⟨g, 0, none⟩ y).cell? ⟨g1, 0, none⟩ = some (.slice A2 n2 c2))) := Lib.hid fun w' g y hb hg => ⟨hb.setCell hg y, (blk_cell (blk_size HG1b.out (hb.setCell hg y))).1⟩
      clear hG1d hH2d
      go_region_held3 (fun w' => Below W4.heap.size W4 w' ∧ w'.cell? ⟨g1, 0, none⟩ = some (.slice A2 n2 c2))
        ((first | exact HK.out _ (Below.refl _ _).drew | exact HK.out _ (And.left ‹Below W4.heap.size W4 _ ∧ True›) | exact HK.out _ (bstep (And.left ‹Below W4.heap.size W4 _ ∧ True›) (balloc _ _)) | exact HK.out _ (bstep (And.left ‹Below W4.heap.size W4 _ ∧ _›) (balloc _ _)) | exact HK.out _ (bstep (Below.refl _ _).drew (balloc _ _)) | exact HK2.out _ _ _ (And.left ‹Below W4.heap.size W4 _ ∧ True›) (by have := kB.1.size; omega)))
        (first
          | (go_at_call 11; (with_reducible refine (HO256.out _).mono ?_); rintro e w4 ⟨v4, rfl, h4, b4⟩; obtain ⟨A4, n4, c4, rfl, h4⟩ := h4.open_; have hz4 : Blk w4 W4.heap.size 27 #[.slice none 0 0] := blk_size (Blk.new W4.drew 27 #[.slice none 0 0]) b4; have kB := And.intro (bstep (And.left ‹Below W4.heap.size W4 _ ∧ _›) b4) trivial)
          | (go_at_call 11; (with_reducible refine (HO256.out _).mono ?_); rintro e w4 ⟨v4, rfl, h4, b4⟩; obtain ⟨A4, n4, c4, rfl, h4⟩ := h4.open_; have kB := And.intro (bstep (And.left ‹Below W4.heap.size W4 _ ∧ _›) b4) trivial)
          | (go_at_call 21; have hq4 := hz4; (with_reducible refine (mul_at_no E1.out (Blk.new _ _ _) (h4.step (balloc _ _)) ((HH2b.out.step kB.1).step (balloc _ _))).mono ?_); rintro e w5 ⟨rfl, b5⟩; have hz5 := blk_size (hz4.alloc _) b5; obtain ⟨z0, z1⟩ := blk_cell hz5; have hz6 := hz5.lt; have kB2 := And.intro (bstep (bstep kB.1 (balloc _ _)) b5) trivial)
          | (go_at_call 21; (with_reducible refine (mul_at_no E1.out (Blk.new _ _ _) (h4.step (balloc _ _)) ((HH2b.out.step kB.1).step (balloc _ _))).mono ?_); rintro e w5 ⟨rfl, b5⟩; have kB2 := And.intro (bstep (bstep kB.1 (balloc _ _)) b5) trivial)
          | (go_at_call 21; (with_reducible refine (mul_at_no E1.out ((Blk.new _ _ _).alloc _) (h4.step (bstep (balloc _ _) (balloc _ _))) ((HH2b.out.step kB.1).step (bstep (balloc _ _) (balloc _ _)))).mono ?_); rintro e w5 ⟨rfl, b5⟩; have hz5 := blk_size (Blk.new (w4.alloc _) 27 #[.slice none 0 0]) b5; simp only [World.size_alloc] at hz5; obtain ⟨z0, z1⟩ := blk_cell hz5; have hz6 := hz5.lt; have kB2 := And.intro (bstep (bstep kB.1 (bstep (balloc _ _) (balloc _ _))) b5) trivial)
          | (go_at_call 21; (with_reducible refine (mul_at_no E1.out (blk_new1 _ _ _ _) (h4.step (bstep (balloc _ _) (balloc _ _))) ((HH2b.out.step kB.1).step (bstep (balloc _ _) (balloc _ _)))).mono ?_); rintro e w5 ⟨rfl, b5⟩; have hz5 := blk_size ((Blk.new w4 27 #[.slice none 0 0]).alloc _) b5; obtain ⟨z0, z1⟩ := blk_cell hz5; have hz6 := hz5.lt; have kB2 := And.intro (bstep (bstep kB.1 (bstep (balloc _ _) (balloc _ _))) b5) trivial))
      all_goals
        go_wp2_with fail
        go_meet
        first
          | exact ⟨rfl, bstep kB2.1 (balloc _ _)⟩
          | exact ⟨rfl, kB2.1.setCell (by have := kB.1.size; simp <;> omega) _⟩
    case rest =>
      obtain ⟨rfl, b6⟩ := hcut
      have hG1e := blk_size HG1b.out b6
      have hH2e := HH2b.out.step b6
      have hG3e := blk_size HG3b.out b6
      have hH3e := HH3b.out.step b6
      have k7 := bstep k6 b6
      clear hcellb hG1d hH2d HG1b HH2b HG3b HH3b E1 k6
      generalize hWc : wc = W6 at *
      clear hWc b6
      have X1 : Hid (Box W6 g1 TOP) := Lib.hid ⟨_, _, _, hG1e, hH2e⟩
      have X3 : Hid (Box W6 g3 (128 * TOP)) := Lib.hid ⟨_, _, _, hG3e, hH3e⟩
      clear hG1e hH2e hG3e hH3e
      go_wp2_with fail
      refine (HO256.out _).mono ?_
      rintro e w7 ⟨v7, rfl, h7, b7⟩
      obtain ⟨A7, n7, c7, rfl, h7⟩ := h7.open_
      have C8 := pow_long 4096 (K4095 + 1) K4095 h7 (by decide) (by omega) (fun k hk => pow_lt_bd hk) (by rw [← bd_eq]; exact Nat.le_refl _)
      go_wp2_with fail
      refine C8.mono ?_
      rintro e w8 ⟨rfl, b8⟩
      have kk8 := bstep b7 b8
      have X1b := X1.out.step kk8
      have X3b := X3.out.step kk8
      have k8 := bstep k7 kk8
      clear C8 h7 b7 b8 kk8 k7 X1 X3
      go_wp2_with fail
      have X1c := Lib.hid (X1b.step (balloc w8 (.cells #[.slice none 0 0] 27)))
      have X3c := Lib.hid (X3b.step (balloc w8 (.cells #[.slice none 0 0] 27)))
      have k9 := bstep k8 (balloc w8 (.cells #[.slice none 0 0] 27))
      clear X1b X3b k8
      generalize w8.alloc (.cells #[.slice none 0 0] 27) = W9 at *
      refine (of_lit 2 2 rfl (by decide) _).mono ?_
      rintro e w10 ⟨v10, rfl, h10, b10⟩
      obtain ⟨A10, n10, c10, rfl, h10⟩ := h10.open_
      have C11 := pow_range (-1) 0 h10 (by decide) (.inl (by decide)) (fun k hk => by rw [Nat.le_zero.1 hk, Nat.pow_zero]; exact lt_bd (by decide))
      go_wp2_with fail
      refine C11.mono ?_
      rintro e w11 ⟨rfl, b11⟩
      have kk := bstep (bstep b10 b11) (balloc w11 (.cells #[.slice none 0 0] 27))
      have X1d := Lib.hid (X1c.out.step kk)
      have X3d := Lib.hid (X3c.out.step kk)
      have k12 := bstep k9 kk
      clear C11 h10 b10 b11 kk k9 X1c X3c
      go_wp2_with fail
      generalize w11.alloc (.cells #[.slice none 0 0] 27) = W12 at *
      have O1 := Lib.hid (fun X => of_lit 1 1 rfl (by decide) X)
      have hone : ∀ k, k ≤ K65536 → 1 ^ k < BD := fun k _ => by rw [Nat.one_pow]; exact lt_bd (by decide)
      have Hone := Lib.hid hone
      clear hone
      refine (O1.out _).mono ?_
      rintro e w13 ⟨v13, rfl, h13, b13⟩
      obtain ⟨A13, n13, c13, rfl, h13⟩ := h13.open_
      have C14 := pow_ok 65536 K65536 h13 (by decide) (by decide) Hone.out
      rw [Nat.one_pow] at C14
      go_wp2_with fail
      refine C14.mono ?_
      rintro e w14 ⟨v14, rfl, h14, b14⟩
      obtain ⟨A14, n14, c14, rfl, h14⟩ := h14.open_
      have kk := bstep (bstep b13 b14) (balloc w14 (.cells #[.slice A14 n14 c14] 27))
      have X1e := Lib.hid (X1d.out.step kk)
      have X3e := Lib.hid (X3d.out.step kk)
      have X13 := Lib.hid (Box.new h14)
      have k15 := bstep k12 kk
      clear C14 h13 b13 b14 h14 kk k12 X1d X3d
      go_wp2_with fail
      generalize w14.alloc (.cells #[.slice A14 n14 c14] 27) = W15 at *
      generalize w14.heap.size = g13 at *
      refine (O1.out _).mono ?_
      rintro e w16 ⟨v16, rfl, h16, b16⟩
      obtain ⟨A16, n16, c16, rfl, h16⟩ := h16.open_
      have C17 := pow_range 65537 K65536 h16 (by decide) (.inr (by decide)) Hone.out
      go_wp2_with fail
      refine C17.mono ?_
      rintro e w17 ⟨rfl, b17⟩
      have kk := bstep (bstep b16 b17) (balloc w17 (.cells #[.slice none 0 0] 27))
      have X1f := X1e.out.step kk
      have X3f := X3e.out.step kk
      have X13f := X13.out.step kk
      have k18 := bstep k15 kk
      clear C17 h16 b16 b17 kk k15 X1e X3e X13 Hone
      go_wp2_with fail
      generalize w17.alloc (.cells #[.slice none 0 0] 27) = W18 at *
      obtain ⟨P1, p1, q1, hP1, hT1⟩ := X1f
      obtain ⟨P3, p3, q3, hP3, hT3⟩ := X3f
      obtain ⟨P4, p4, q4, hP4, hT4⟩ := X13f
      have z1 := (blk_cell hP1).1
      have z3 := (blk_cell hP3).1
      have z4 := (blk_cell hP4).1
      have HK : Hid (∀ w', Below W18.heap.size W18 w' → (Below W18.heap.size W18 w' ∧ w'.cell? ⟨g1, 0, none⟩ = some (.slice P1 p1 q1) ∧ w'.cell? ⟨g3, 0, none⟩ = some (.slice P3 p3 q3) ∧ w'.cell? ⟨g13, 0, none⟩ = some (.slice P4 p4 q4))) := Lib.hid fun w' hb =>
        ⟨hb, (blk_cell (blk_size hP1 hb)).1, (blk_cell (blk_size hP3 hb)).1, (blk_cell (blk_size hP4 hb)).1⟩
      have L1 := Lib.hid (fun X (hX : Below W18.heap.size W18 X) => len_is (hT1.step hX) (K4095 + 1) (bl_head (Nat.le_refl _) top_lt))
      have L3 := Lib.hid (fun X (hX : Below W18.heap.size W18 X) => len_is (hT3.step hX) (K4095 + 1) (bl_head (by omega) half_lt))
      have HT4 := Lib.hid hT4
      have e46 : ((K4095 + 1 : Nat) : Int) = 4096 := by decide
      rw [e46] at L1 L3
      have c11 := cmpN_eq 1
      clear e46 hT1 hT3 hT4 hP1 hP3 hP4
      go_region_held3 (fun w' => Below W18.heap.size W18 w' ∧ w'.cell? ⟨g1, 0, none⟩ = some (.slice P1 p1 q1) ∧ w'.cell? ⟨g3, 0, none⟩ = some (.slice P3 p3 q3) ∧ w'.cell? ⟨g13, 0, none⟩ = some (.slice P4 p4 q4))
        ((first | exact HK.out _ (Below.refl _ _).drew | exact HK.out _ (And.left ‹Below W18.heap.size W18 _ ∧ True›)))
        (first
          | (go_at_call 7; (with_reducible refine (awake6 _).mono ?_); rintro e w20 ⟨rfl, b20⟩; have kB := And.intro (bstep (And.left ‹Below W18.heap.size W18 _ ∧ _›) b20) trivial)
          | (go_at_call 16; (with_reducible refine (L1.out _ (And.left ‹Below W18.heap.size W18 _ ∧ True›)).mono ?_); rintro e w20 ⟨rfl, b20⟩; have kB := And.intro (bstep (And.left ‹Below W18.heap.size W18 _ ∧ _›) b20) trivial)
          | (go_at_call 16; (with_reducible refine (L3.out _ (And.left ‹Below W18.heap.size W18 _ ∧ True›)).mono ?_); rintro e w20 ⟨rfl, b20⟩; have kB := And.intro (bstep (And.left ‹Below W18.heap.size W18 _ ∧ _›) b20) trivial)
          | (go_at_call 11; (with_reducible refine (O1.out _).mono ?_); rintro e w20 ⟨v20, rfl, h20, b20⟩; obtain ⟨A20, n20, c20, rfl, h20⟩ := h20.open_; have kB := And.intro (bstep (And.left ‹Below W18.heap.size W18 _ ∧ _›) b20) trivial)
          | (go_at_call 18; (with_reducible refine (cmp_any (HT4.out.step kB.1) h20).mono ?_); rintro e w21 ⟨rfl, b21⟩; have kC := And.intro (bstep kB.1 b21) trivial))
      have kE := bstep k18 kC.1
      go_wp2_with fail
      go_ret
      exact ⟨rfl, kE⟩
end Go.Proofs.YthfbgcjfnpajjaaDoor
