import Derived.Test.YtaidbcppecoenaaL08H
import Derived.Deep.SlicePairs
import Derived.Lib.SmallJoins
/- ElimPuts: lists of equations that came in; its other ways. -/
namespace Go.Proofs.Ytaidbcppecoenaa
open Go.RowKit
set_option linter.unusedVariables false
set_option maxRecDepth 100000

/-- A slice of equations, of any lengths. -/
def RL0 (w : World) (A : Option Addr) (n : Nat) (L : List RowL) : Prop :=
  n = L.length ∧ (0 < n → ∃ g o, A = some ⟨g, o, none⟩ ∧ g < w.heap.size ∧ ∀ i r, L[i]? = some r → ∃ A1 n1 c1 A2 n2 c2,
    w.cell? ⟨g, o + i * 2, none⟩ = some (.slice A1 n1 c1) ∧ w.cell? ⟨g, o + i * 2 + 1, none⟩ = some (.slice A2 n2 c2) ∧ Rd w w.heap.size A1 n1 r.1 ∧ Rd w w.heap.size A2 n2 r.2)
theorem RL0.step {w w' : World} {A : Option Addr} {n : Nat} {L : List RowL} (h : RL0 w A n L) (hb : Below w.heap.size w w') : RL0 w' A n L := by
  refine ⟨h.1, fun hn => ?_⟩
  obtain ⟨g, o, e, hg, hc⟩ := h.2 hn
  refine ⟨g, o, e, Nat.lt_of_lt_of_le hg hb.size, fun i r hi => ?_⟩
  obtain ⟨A1, n1, c1, A2, n2, c2, h0, h1, h2, h3⟩ := hc i r hi
  exact ⟨A1, n1, c1, A2, n2, c2, (hb.cell (p := ⟨g, o + i * 2, none⟩) hg).trans h0, (hb.cell (p := ⟨g, o + i * 2 + 1, none⟩) hg).trans h1, h2.step hb, h3.step hb⟩
theorem RL0.at_ {w : World} {A : Option Addr} {n k : Nat} {L : List RowL} (h : RL0 w A n L) (hk : k < n) : ∃ g o A1 n1 c1 A2 n2 c2, A = some ⟨g, o, none⟩ ∧
    w.cell? ⟨g, o + k * 2, none⟩ = some (.slice A1 n1 c1) ∧ w.cell? ⟨g, o + k * 2 + 1, none⟩ = some (.slice A2 n2 c2) ∧ Rd w w.heap.size A1 n1 (L[k]?.getD ([], [])).1 ∧ Rd w w.heap.size A2 n2 (L[k]?.getD ([], [])).2 := by
  obtain ⟨g, o, e, hg, hc⟩ := h.2 (by omega)
  have hl := h.1
  obtain ⟨A1, n1, c1, A2, n2, c2, h0, h1, h2, h3⟩ := hc k L[k] (List.getElem?_eq_getElem (by omega))
  refine ⟨g, o, A1, n1, c1, A2, n2, c2, e, h0, h1, ?_, ?_⟩ <;> rw [List.getElem?_eq_getElem (by omega)] <;> assumption
theorem RL0.rl {w : World} {A : Option Addr} {n m : Nat} {L : List RowL} (h : RL0 w A n L) (hs : ∀ r ∈ L, r.1.length ≤ m ∧ r.2.length ≤ m) (hm : m ≤ 140737488355327) : RL w w.heap.size A n L := by
  refine ⟨h.1, fun hn => ?_⟩
  obtain ⟨g, o, e, hg, hc⟩ := h.2 hn
  refine ⟨g, o, e, hg, hg, fun i r hi => ?_⟩
  obtain ⟨A1, n1, c1, A2, n2, c2, h0, h1, h2, h3⟩ := hc i r hi
  obtain ⟨s1, s2⟩ := hs r (List.mem_of_getElem? hi)
  have e1 := h2.1
  have e2 := h3.1
  exact ⟨A1, n1, c1, A2, n2, c2, h0, h1, RowIs.mk h2 h3 (by omega) (by omega)⟩
theorem few8_all {L : List RowL} (h : few8B L = true) : ∀ r ∈ L, r.1.length ≤ 20 ∧ r.2.length ≤ 20 := fun r hr => by
  unfold few8B at h
  rw [Bool.and_eq_true] at h
  have := List.all_eq_true.1 h.1 r hr
  simpa [small8] using this
/-- An argument of equations, opened. -/
theorem ones_arg {H : Type} {enc : TypeId × Value → H} {W : World} {held : Bool} {t e : TypeId} {f0 f1 : Field} {A : Option Addr} {n c : Nat} {d : DataW H} {p : List MemPlace}
    (ht : Try.prog.underlying t = some (.slice e)) (he : Try.prog.underlying e = some (.struct #[f0, f1])) (ce : Try.prog.cellsOf e = 2) (o0 : f0.offset = 0) (o1 : f1.offset = 1)
    (q0 : Try.prog.underlying f0.type = some (.slice 5)) (q1 : Try.prog.underlying f1.type = some (.slice 5)) (c0 : Try.prog.cellsOf f0.type = 1) (c1 : Try.prog.cellsOf f1.type = 1)
    (h : DataW.Trod enc Try.prog W 0 (fun _ => true) held t (.slice A n c) d p) :
    ∃ L, RL0 W A n L ∧ n ≤ c ∧ c ≤ maxLen := by
  obtain ⟨fuel, hf⟩ := h
  rcases Go.Deep.open_slice_pairs ht he ce o0 o1 c0 c1 hf with ⟨hcs, _⟩ | ⟨a, len, cap, m, k, V0, V1, D0, D1, P0, P1, hcs, _, hl, hm, hmm, _, hx⟩
  · simp [Value.cells] at hcs
    obtain ⟨rfl, rfl, rfl⟩ := hcs
    exact ⟨[], ⟨rfl, fun h => absurd h (by omega)⟩, by omega, by omega⟩
  · simp [Value.cells] at hcs
    obtain ⟨rfl, rfl, rfl⟩ := hcs
    have hmc : m = c := by simpa using hmm
    have hlm : n ≤ m := by omega
    have each : ∀ i, i < n → ∃ r : RowL, ∃ A1 n1 c1 A2 n2 c2, V0 i = .slice A1 n1 c1 ∧ V1 i = .slice A2 n2 c2 ∧ Rd W W.heap.size A1 n1 r.1 ∧ Rd W W.heap.size A2 n2 r.2 := fun i hi => by
      obtain ⟨_, _, h2, h3⟩ := hx i (by omega)
      obtain ⟨A1, n1, c1, us, e1, r1, _, _⟩ := bytes_cell q0 Try.underlying5 (by kernel_rfl) h2
      obtain ⟨A2, n2, c2, vs, e2, r2, _, _⟩ := bytes_cell q1 Try.underlying5 (by kernel_rfl) h3
      exact ⟨(us, vs), A1, n1, c1, A2, n2, c2, e1, e2, r1, r2⟩
    obtain ⟨R, hR⟩ := Go.Deep.choose_lt each
    refine ⟨(List.range n).map R, ⟨by simp, fun hn => ?_⟩, hl, hm⟩
    obtain ⟨b, off, spot⟩ := a
    have h0 := (hx 0 (by omega)).1
    have hspot : spot = none := by simpa [Addr.add] using World.cell?_spot h0
    subst hspot
    rw [addr_add] at h0
    refine ⟨b, off, rfl, cell_lt h0, fun i r hi => ?_⟩
    have hin : i < n := by
      have := (List.getElem?_eq_some_iff.1 hi).1
      simpa using this
    have hri : r = R i := by
      simp [hin] at hi
      exact hi.symm
    obtain ⟨g0, g1, _, _⟩ := hx i (by omega)
    rw [addr_add] at g0 g1
    obtain ⟨A1, n1, c1, A2, n2, c2, e1, e2, r1, r2⟩ := hR i hin
    rw [e1] at g0
    rw [e2] at g1
    subst hri
    exact ⟨A1, n1, c1, A2, n2, c2, g0, g1, r1, r2⟩
set_option maxHeartbeats 1000000 in
theorem few80_any {A : Option Addr} {n c : Nat} {L : List RowL} {w : World} (h : RL0 w A n L) (hn : n ≤ 9223372036854775807) :
    Calls Try.prog 26 #[.slice A n c] w fun e w' => e = .returned (.bool (few8B L)) ∧ Below w.heap.size w w' := by
  have H1 := Lib.hid h.1.symm
  go_enter Try.func26, Try.ntmps26
  go_wp2_with fail
  go_loopw [7] (fun i wr => ∃ j : Nat, j ≤ n ∧ i = .int .i64 j ∧ Hid ((L.take j).all small8 = true) ∧ Below w.heap.size w wr) (fun i _ => n - (intOf i).toNat)
  case atStart => exact ⟨0, by omega, rfl, Lib.hid rfl, Below.refl _ _⟩
  case round =>
    obtain ⟨j, hj, rfl, hp, hb⟩ := hrel
    by_cases hlt : j < n
    · obtain ⟨g, o, A1, n1, c1, A2, n2, c2, rfl, k0, k1, p1, p2⟩ := (h.step hb).at_ hlt
      have b6 := Blk.new wr 54 #[.slice A1 n1 c1, .slice A2 n2 c2]
      have hb6 := bstep hb (balloc wr (.cells #[.slice A1 n1 c1, .slice A2 n2 c2] 54))
      obtain ⟨d0, d1, _, _⟩ := cells2 b6
      have e1 := p1.1
      have e2 := p2.1
      have hjl : j < L.length := by rw [H1.out]; exact hlt
      have hbad : ¬ (n1 ≤ 20 ∧ n2 ≤ 20) → few8B L = false := fun hno => by
        unfold few8B
        rw [Bool.and_eq_false_iff]; left
        rw [List.all_eq_false]
        refine ⟨L[j], List.getElem_mem hjl, ?_⟩
        rw [List.getElem?_eq_getElem hjl] at e1 e2
        simp only [Option.getD_some] at e1 e2
        simp [small8, e1, e2]
        omega
      have hok : n1 ≤ 20 ∧ n2 ≤ 20 → (L.take (j + 1)).all small8 = true := fun ⟨x1, x2⟩ => by
        rw [← take_get ([], []) hjl, List.all_append, hp.out]
        simp [small8, e1, e2, x1, x2]
      have HBad := Lib.hid hbad
      have HOk := Lib.hid hok
      clear hbad hok p1 p2 e1 e2
      have hjz : (j : Int) < (n : Int) := by omega
      by_cases x1 : 20 < n1
      · have Hf := Lib.hid (HBad.out (by omega))
        go_wp2_with fail
        go_ret
        exact ⟨ret_bool Hf.out.symm, hb6⟩
      · have x1' : n1 ≤ 20 := by omega
        by_cases x2 : 20 < n2
        · have Hf := Lib.hid (HBad.out (by omega))
          clear x1
          go_wp2_with fail
          go_ret
          exact ⟨ret_bool Hf.out.symm, hb6⟩
        · have x2' : n2 ≤ 20 := by omega
          have Hp := Lib.hid (HOk.out ⟨x1', x2'⟩)
          clear x1 x2
          go_wp2_with fail
          go_roundw
          case rel => exact ⟨j + 1, by omega, by go_num, Hp, hb6⟩
          case measure => simp [intOf]; omega
    · obtain rfl : j = n := by omega
      by_cases h30 : j ≤ 30
      · have Hf : Hid (few8B L = true) := Lib.hid (by
          have := hp.out
          rw [List.take_of_length_le (by rw [H1.out]; exact Nat.le_refl _)] at this
          unfold few8B; rw [this, H1.out]; simp [h30])
        go_wp2_with fail
        go_ret
        exact ⟨ret_bool (by rw [Hf.out]; simp; omega), hb⟩
      · have Hf : Hid (few8B L = false) := Lib.hid (by
          unfold few8B; rw [H1.out]; simp [h30])
        have h31 : 30 < j := by omega
        clear h30
        go_wp2_with fail
        go_ret
        exact ⟨ret_bool (by rw [Hf.out]; simp; omega), hb⟩
theorem puts_many {w : World} {k t i : Int} {n c : Nat} {A : Option Addr} {l : List RowL} (hL : RL0 w A n l) (hn : n ≤ 9223372036854775807) (hfew : few8B l = false) :
    Calls Try.prog 5 #[.int .i64 k, .int .i64 t, .slice A n c, .int .i64 i] w (GridEnds (.bool true) w) := by
  have CF := Lib.hid fun W (hW : Below w.heap.size w W) => few80_any (c := c) (hL.step hW) hn
  rw [hfew] at CF
  clear hL hfew
  go_enter Try.func5, Try.ntmps5
  go_wp2_with fail
  refine (awake8 _).mono ?_
  rintro e w1 ⟨rfl, b1⟩
  go_wp2_with fail
  refine (CF.out w1 b1).mono ?_
  rintro e w2 ⟨rfl, b2⟩
  go_wp2_with fail
  go_ret
  exact ⟨rfl, bstep b1 b2⟩
set_option maxHeartbeats 1000000 in
theorem puts_bad {w : World} {k t i : Int} {n c : Nat} {A : Option Addr} {l : List RowL} (hL : RL0 w A n l) (hn : n ≤ 9223372036854775807) (hfew : few8B l = true) (h : k < 1 ∨ 4096 < k ∨ t < 0 ∨ 65535 < t) :
    Calls Try.prog 5 #[.int .i64 k, .int .i64 t, .slice A n c, .int .i64 i] w (GridEnds (.bool true) w) := by
  have CF := Lib.hid fun W (hW : Below w.heap.size w W) => few80_any (c := c) (hL.step hW) hn
  rw [hfew] at CF
  have CN := Lib.hid fun W => enew_bad k t W h
  have hc : k < 1 ∨ 1 ≤ k ∧ 4096 < k ∨ 1 ≤ k ∧ k ≤ 4096 ∧ t < 0 ∨ 1 ≤ k ∧ k ≤ 4096 ∧ 0 ≤ t ∧ 65535 < t := by omega
  clear hL hfew h
  rcases hc with h1 | ⟨h1, h2⟩ | ⟨h1, h2, h3⟩ | ⟨h1, h2, h3, h4⟩
  all_goals
    go_enter Try.func5, Try.ntmps5
    go_wp2_with fail
    refine (awake8 _).mono ?_
    rintro e w1 ⟨rfl, b1⟩
    go_wp2_with fail
    refine (CF.out w1 b1).mono ?_
    rintro e w2 ⟨rfl, b2⟩
    go_wp2_with fail
    refine (CN.out w2).mono ?_
    rintro e w' ⟨rfl, rfl⟩
    go_wp2_with fail
    go_ret
    exact ⟨rfl, bstep b1 b2⟩
set_option maxHeartbeats 1000000 in
theorem puts_big {w : World} {k t n c : Nat} {i : Int} {A : Option Addr} {l : List RowL} (hL : RL0 w A n l) (hn : n ≤ 9223372036854775807) (hfew : few8B l = true) (h1 : 1 ≤ k) (h2 : k ≤ 4096) (h3 : t ≤ 65535) (h : 20 < k ∨ 20 < t) :
    Calls Try.prog 5 #[.int .i64 (k : Int), .int .i64 (t : Int), .slice A n c, .int .i64 i] w (GridEnds (.bool true) w) := by
  have CF := Lib.hid fun W (hW : Below w.heap.size w W) => few80_any (c := c) (hL.step hW) hn
  rw [hfew] at CF
  have h1' : (1 : Int) ≤ (k : Int) := by omega
  have h2' : (k : Int) ≤ 4096 := by omega
  have h3' : (t : Int) ≤ 65535 := by omega
  have tk : ((k : Int) != (k : Int)) = false := by simp
  have tt : ((t : Int) != (t : Int)) = false := by simp
  have hc : (20 : Int) < (k : Int) ∨ (k : Int) ≤ 20 ∧ (20 : Int) < (t : Int) := by omega
  clear hL hfew h
  rcases hc with h4 | ⟨h4, h5⟩
  all_goals
    go_enter Try.func5, Try.ntmps5
    go_wp2_with fail
    refine (awake8 _).mono ?_
    rintro e w1 ⟨rfl, b1⟩
    go_wp2_with fail
    refine (CF.out w1 b1).mono ?_
    rintro e w2 ⟨rfl, b2⟩
    go_wp2_with fail
    refine (enew_ok k t w2 h1 h2 h3).mono ?_
    rintro e w3 ⟨p, rfl, hg, hge, b3⟩
    have hS := Sys.fresh hg h1 h2 h3
    clear hg hge
    go_wp2_with fail
    refine (esize_any hS).mono ?_
    rintro e w4 ⟨rfl, b4⟩
    clear hS
    go_wp2_with fail
    go_ret
    exact ⟨rfl, bstep (bstep (bstep b1 b2) b3) b4⟩
theorem puts_walk (k t : Int) (A : Option Addr) (n c : Nat) (l : List RowL) (i : Int) (w : World) (wk : (Lit.int .i64 k).wf = true) (wt : (Lit.int .i64 t).wf = true) (hL : RL0 w A n l) (hn : n ≤ c ∧ c ≤ maxLen) (wi : (Lit.int .i64 i).wf = true) :
    Calls Try.prog 5 #[.int .i64 k, .int .i64 t, .slice A n c, .int .i64 i] w fun e w' => e = .returned (.bool true) ∧ Below w.heap.size w w' := by
  obtain ⟨z1, z2⟩ := bounds_i64 wi
  obtain ⟨h1, h2⟩ := hn
  have hn : n ≤ 9223372036854775807 := by unfold maxLen at h2; omega
  cases hfew : few8B l
  · exact puts_many hL hn hfew
  · by_cases hbad : k < 1 ∨ 4096 < k ∨ t < 0 ∨ 65535 < t
    · exact puts_bad hL hn hfew hbad
    · obtain ⟨K, rfl⟩ : ∃ K : Nat, k = (K : Int) := ⟨k.toNat, by omega⟩
      obtain ⟨T, rfl⟩ : ∃ T : Nat, t = (T : Int) := ⟨t.toNat, by omega⟩
      by_cases hbig : 20 < K ∨ 20 < T
      · exact puts_big hL hn hfew (by omega) (by omega) (by omega) hbig
      · exact puts_main (hL.rl (few8_all hfew) (by omega)) (by omega) (by omega) (by omega) hfew z1 z2
end Go.Proofs.Ytaidbcppecoenaa

