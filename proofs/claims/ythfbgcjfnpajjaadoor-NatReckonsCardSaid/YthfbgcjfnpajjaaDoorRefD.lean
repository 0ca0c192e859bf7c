import Derived.Test.YthfbgcjfnpajjaaDoorRefC
/- The document's own numbers: Of, Cmp, Add, Sub. -/
namespace Go.Proofs.YthfbgcjfnpajjaaDoor
open Go.RowKit
set_option linter.unusedVariables false
set_option maxRecDepth 100000

theorem Rd.of_own2 {w : World} {base : Nat} {e : TypeId} {v : Value} {n : Nat} {us : List UInt8} (h : w.ownsRow base e 1 v n (bvs us)) : ∃ A c, v = .slice A n c ∧ Rd w w.heap.size A n us ∧ n ≤ c ∧ c ≤ 9223372036854775807 := by
  obtain ⟨A, c, rfl, r⟩ := Rd.of_own h
  refine ⟨A, c, rfl, r, ?_⟩
  rcases h.2 with ⟨e, rfl⟩ | ⟨g, cap, cur, e, hb, hh, hn, hm, hs, ht⟩
  · injection e with e1 e2 e3
    omega
  · injection e with e1 e2 e3
    unfold maxLen at hm
    omega
theorem nb_all (us : List UInt8) {m : Nat} (h : us.length ≤ m) : num 256 ((nb us).take m) = leN us := num_all 256 (by rw [nb_length]; exact h)
/-- A row of the call's own, without noughts at its end: the number N. -/
def GivesRow (N L : Nat) (w : World) (e : Ending) (w' : World) : Prop :=
  ∃ A m c us, e = .returned (.slice A m c) ∧ Rd w' w'.heap.size A m us ∧ m ≤ c ∧ c ≤ 9223372036854775807 ∧ m ≤ L ∧ leN us = N ∧ BL 256 N m ∧ Below w.heap.size w w'
theorem trim_row {A : Option Addr} {n c : Nat} {us : List UInt8} {w0 w : World} (h : Rd w w.heap.size A n us) (hn : n ≤ c) (hc : c ≤ 9223372036854775807) (L : Nat) (hL : n ≤ L) (hb : Below w0.heap.size w0 w) :
    Calls Tryd.prog 17 #[.slice A n c] w (GivesRow (leN us) L w0) := by
  refine (trim_any h hn hc).mono ?_
  rintro e w' ⟨⟨m, rfl, hm, hk, hle⟩, rfl⟩
  have hl : (us.take m).length = m := by rw [List.length_take, h.1]; omega
  refine ⟨A, m, c, us.take m, rfl, h.part_take hm, by omega, hc, by omega, hle, ?_, hb⟩
  have := canon_bl (nb_lt (us.take m)) hk
  rw [nb_length, hl] at this
  rwa [← hle]
/-! ### Of -/
theorem of_step {N k : Nat} (hN : N < 18446744073709551616) (h : N / 256 ^ k ≠ 0) : k < 8 := by
  refine Nat.lt_of_not_le fun h8 => h ?_
  have : 256 ^ 8 ≤ 256 ^ k := Nat.pow_le_pow_right (by omega) h8
  exact Nat.div_eq_of_lt (by omega)
/-- So far the bytes of a number. -/
def OfTo (N k : Nat) (us : List UInt8) : Prop := us.length = k ∧ k ≤ 8 ∧ leN us = N % 256 ^ k ∧ (k = 0 ∨ N / 256 ^ (k - 1) ≠ 0)
theorem OfTo.start (N : Nat) : OfTo N 0 [] := ⟨rfl, by omega, by simp [leN, nb, num_nil, Nat.mod_one], .inl rfl⟩
theorem OfTo.next {N k : Nat} {us : List UInt8} (h : OfTo N k us) (hN : N < 18446744073709551616) (h0 : N / 256 ^ k ≠ 0) : OfTo N (k + 1) (us ++ [UInt8.ofNat (N / 256 ^ k % 256)]) := by
  obtain ⟨h1, h2, h3, h4⟩ := h
  refine ⟨by simp [h1], of_step hN h0, ?_, .inr (by rwa [Nat.add_sub_cancel])⟩
  unfold leN at *
  rw [nb_snoc, num_snoc, h3, nb_length, h1, UInt8.toNat_ofNat_of_lt' (Nat.mod_lt _ (by decide)), Nat.pow_succ, Nat.mod_mul, Nat.mul_comm (256 ^ k)]
theorem OfTo.done {N k : Nat} {us : List UInt8} (h : OfTo N k us) (h0 : N / 256 ^ k = 0) : leN us = N ∧ BL 256 N k := by
  obtain ⟨h1, h2, h3, h4⟩ := h
  have hp : 0 < 256 ^ k := Nat.pow_pos (by omega)
  have hlt : N < 256 ^ k := (Nat.div_eq_zero_iff_lt hp).1 h0
  refine ⟨by rw [h3, Nat.mod_eq_of_lt hlt], hlt, ?_⟩
  rcases h4 with h4 | h4
  · exact .inl h4
  · refine .inr (Nat.le_of_not_lt fun hl => h4 (Nat.div_eq_of_lt hl))
/-! ### Cmp -/
theorem rcmp_any {B B2 : Nat} {A A2 : Option Addr} {n n2 c c2 : Nat} {us us2 : List UInt8} {w : World} (h : Rd w B A n us) (h2 : Rd w B2 A2 n2 us2) (hB : B ≤ w.heap.size) (hB2 : B2 ≤ w.heap.size) (ha : Canon (nb us)) (hb : Canon (nb us2)) (hn : n ≤ 100000) (hn2 : n2 ≤ 100000) :
    Calls Tryd.prog 19 #[.slice A n c, .slice A2 n2 c2] w fun e w' => e = .returned (.int .i64 (cmpN (leN us) (leN us2))) ∧ Below w.heap.size w w' := by
  have Hla := Lib.hid (show (nb us).length = n by rw [nb_length, h.1])
  have Hlb := Lib.hid (show (nb us2).length = n2 by rw [nb_length, h2.1])
  have Hta := Lib.hid (nb_lt us)
  have Htb := Lib.hid (nb_lt us2)
  have Hb : Below w.heap.size w w := Below.refl _ _
  by_cases hl : n = n2
  · subst hl
    go_enter Tryd.func19, Tryd.ntmps19
    go_wp2_with fail
    go_loopw [5] (fun v wr => ∃ k : Nat, k ≤ n ∧ v = .int .i64 ((k : Int) - 1) ∧ Hid ((nb us).drop k = (nb us2).drop k) ∧ Below w.heap.size w wr) (fun v _ => ((intOf v) + 1).toNat)
    case atStart => exact ⟨n, by omega, rfl, Lib.hid (by rw [List.drop_of_length_le (by rw [Hla.out]; omega), List.drop_of_length_le (by rw [Hlb.out]; omega)]), Hb⟩
    case round =>
      clear Hb
      obtain ⟨k, hk, rfl, hd, hbel⟩ := hrel
      by_cases hk0 : 0 < k
      · obtain ⟨j, rfl⟩ : ∃ j, k = j + 1 := ⟨k - 1, by omega⟩
        have ej : ((j + 1 : Nat) : Int) - 1 = (j : Int) := by omega
        have ej2 : (j : Int) + 1 - 1 = (j : Int) := by omega
        obtain ⟨b1, o1, rfl, hb1, hc1⟩ := (h.below (hbel.mono hB)).at_ (k := j) (by omega)
        obtain ⟨b2, o2, rfl, hb2, hc2⟩ := (h2.below (hbel.mono hB2)).at_ (k := j) (by omega)
        rw [bv_uv] at hc1 hc2
        rcases Nat.lt_trichotomy (dg (nb us) j) (dg (nb us2) j) with hx | hx | hx
        · have hr := Lib.hid (dig_lt (by omega) Hta.out (by rw [Hla.out, Hlb.out]) (by rw [Hla.out]; omega) hd.out hx)
          have hr2 : Hid (cmpN (leN us) (leN us2) = -1) := Lib.hid (cmpN_lt hr.out)
          have t1 : uv (dg (nb us) j) < uv (dg (nb us2) j) := by unfold uv; omega
          clear hx
          go_wp2_with fail
          go_quiet (fail)
          go_wp2_with fail
          go_ret
          exact ⟨by rw [hr2.out]; rfl, (by first | exact below_drewN hbel _ | exact below_drewN (below_drewN hbel _) _)⟩
        · have hd2 := Lib.hid (drop_pred (by rw [Hla.out, Hlb.out]) (by rw [Hla.out]; omega) hd.out hx)
          rw [hx] at hc1
          have t1 : ¬ uv (dg (nb us2) j) < uv (dg (nb us2) j) := by omega
          clear hx
          go_wp2_with fail
          go_quiet (fail)
          go_wp2_with fail
          go_quiet (fail)
          go_wp2_with fail
          go_roundw
          case rel => exact ⟨j, by omega, by go_num, hd2, (by first | exact below_drewN hbel _ | exact below_drewN (below_drewN hbel _) _)⟩
          case measure => simp [intOf]
        · have hr := Lib.hid (dig_lt (by omega) Htb.out (by rw [Hla.out, Hlb.out]) (by rw [Hlb.out]; omega) hd.out.symm hx)
          have hr2 : Hid (cmpN (leN us) (leN us2) = 1) := Lib.hid (cmpN_gt hr.out)
          have t1 : ¬ uv (dg (nb us) j) < uv (dg (nb us2) j) := by unfold uv; omega
          have t2 : uv (dg (nb us2) j) < uv (dg (nb us) j) := by unfold uv; omega
          clear hx
          go_wp2_with fail
          go_quiet (fail)
          go_wp2_with fail
          go_quiet (fail)
          go_wp2_with fail
          go_ret
          exact ⟨by rw [hr2.out]; rfl, (by first | exact below_drewN hbel _ | exact below_drewN (below_drewN hbel _) _)⟩
      · obtain rfl : k = 0 := by omega
        have hr := hd.out
        rw [List.drop_zero, List.drop_zero] at hr
        have hr2 : Hid (cmpN (leN us) (leN us2) = 0) := Lib.hid (by unfold leN; rw [hr, cmpN_eq])
        clear hr
        go_wp2_with fail
        go_ret
        exact ⟨by rw [hr2.out]; rfl, hbel⟩
  · by_cases hlt : n < n2
    · have hr2 : Hid (cmpN (leN us) (leN us2) = -1) := Lib.hid (cmpN_lt (len_lt (by omega) Hta.out hb (by rw [Hla.out, Hlb.out]; exact hlt)))
      have t1 : ¬ (n : Int) = (n2 : Int) := by omega
      have t2 : (n : Int) < (n2 : Int) := by omega
      clear hl hlt
      go_enter Tryd.func19, Tryd.ntmps19
      go_wp2_with fail
      go_ret
      exact ⟨by rw [hr2.out]; rfl, Hb⟩
    · have hr2 : Hid (cmpN (leN us) (leN us2) = 1) := Lib.hid (cmpN_gt (len_lt (by omega) Htb.out ha (by rw [Hla.out, Hlb.out]; omega)))
      have t1 : ¬ (n : Int) = (n2 : Int) := by omega
      have t2 : ¬ (n : Int) < (n2 : Int) := by omega
      clear hl hlt
      go_enter Tryd.func19, Tryd.ntmps19
      go_wp2_with fail
      go_ret
      exact ⟨by rw [hr2.out]; rfl, Hb⟩
/-! ### Add -/
/-- So far the bytes of a sum, and what is carried. -/
def AddB (a b : List Nat) (m i : Nat) (L : List UInt8) (c : Nat) : Prop := L.length = i ∧ c ≤ 1 ∧ (c = 0 ∨ i ≤ m) ∧ leN L + c * 256 ^ i = num 256 (a.take i) + num 256 (b.take i)
theorem AddB.start (a b : List Nat) (m : Nat) : AddB a b m 0 [] 0 := ⟨rfl, by omega, .inl rfl, by simp [leN, nb, num_nil]⟩
theorem AddB.next {a b : List Nat} {L : List UInt8} {m i c s : Nat} (h : AddB a b m i L c) (ha : Below' 256 a) (hb : Below' 256 b) (hm : a.length ≤ m) (hm2 : b.length ≤ m) (him : i ≤ m) (hs : dg a i + dg b i + c = s) : AddB a b m (i + 1) (L ++ [UInt8.ofNat (s % 256)]) (s / 256) := by
  obtain ⟨h1, h3, h0, h4⟩ := h
  have hx := dg_lt (by omega) ha i
  have hy := dg_lt (by omega) hb i
  refine ⟨by simp [h1], by omega, ?_, ?_⟩
  · by_cases hi : i = m
    · rw [dg_none (by omega), dg_none (by omega)] at hs
      exact .inl (by omega)
    · exact .inr (by omega)
  · unfold leN at *
    rw [nb_snoc, num_snoc, num_take, num_take, nb_length, h1, UInt8.toNat_ofNat_of_lt' (show s % 256 < 256 by omega), Nat.pow_succ, ← hs]
    have := carry_step (dg a i) (dg b i) c 256 (256 ^ i)
    omega
theorem radd_any {B B2 : Nat} {A A2 : Option Addr} {n n2 c c2 : Nat} {us us2 : List UInt8} {w : World} (h : Rd w B A n us) (h2 : Rd w B2 A2 n2 us2) (hB : B ≤ w.heap.size) (hB2 : B2 ≤ w.heap.size) (m : Nat) (hn : n ≤ m) (hn2 : n2 ≤ m) (hm : m ≤ 100000) :
    Calls Tryd.prog 23 #[.slice A n c, .slice A2 n2 c2] w (GivesRow (leN us + leN us2) (m + 1) w) := by
  have Hla := Lib.hid h.1
  have Hlb := Lib.hid h2.1
  have Hst := Lib.hid (AddB.start (nb us) (nb us2) m)
  go_enter Tryd.func23, Tryd.ntmps23
  go_wp2_with fail
  go_loopw [5, 6, 7] (fun v y k wr => ∃ (i q : Nat) (L : List UInt8), i ≤ m + 1 ∧ k = .int .i64 ((i : Nat) : Int) ∧ y = .int .i64 ((q : Nat) : Int) ∧ Hid (AddB (nb us) (nb us2) m i L q) ∧ wr.ownsRow w.heap.size 5 1 v i (bvs L) ∧ Below w.heap.size w wr) (fun _ _ k _ => m + 1 - (intOf k).toNat)
  case atStart => exact ⟨0, 0, [], by omega, rfl, rfl, Hst, World.ownsRow_nil _ _ _ _, Below.refl _ _⟩
  case round =>
    clear Hst
    obtain ⟨i, q, L, hi, rfl, rfl, HS, hown, hb⟩ := hrel
    have hz := hb.size
    have hq := HS.out.2.1
    by_cases hgo : i < n ∨ i < n2 ∨ 0 < q
    · have him : i ≤ m := by have := HS.out.2.2.1; omega
      obtain ⟨s, hs⟩ : ∃ s, dg (nb us) i + dg (nb us2) i + q = s := ⟨_, rfl⟩
      have Hn := Lib.hid (HS.out.next (nb_lt us) (nb_lt us2) (by rw [nb_length, Hla.out]; exact hn) (by rw [nb_length, Hlb.out]; exact hn2) him hs)
      have C1 := at_any (c := c) (h.below (hb.mono hB)) i (by omega) (by omega)
      have C2 := at_any (c := c2) (h2.below (hb.mono hB2)) i (by omega) (by omega)
      have hx := dg_lt (by omega) (nb_lt us) i
      have hy := dg_lt (by omega) (nb_lt us2) i
      generalize dg (nb us) i = x at *
      generalize dg (nb us2) i = y at *
      have x0 := uv_nn x
      have y0 := uv_nn y
      have x1 : uv x < 256 := by unfold uv; omega
      have y1 : uv y < 256 := by unfold uv; omega
      have e1 : uv x + uv y + (q : Int) = (s : Int) := by unfold uv; omega
      have hs5 : s ≤ 511 := by omega
      have e2 : (s : Int) % 256 = bv (UInt8.ofNat (s % 256)) := by rw [bv_ofNat _ (by omega)]; omega
      have e3 : (s : Int) / 256 = ((s / 256 : Nat) : Int) := by omega
      clear hs hx hy
      generalize UInt8.ofNat (s % 256) = u at *
      generalize s / 256 = q2 at *
      have u0 := bv_nn u
      have u1 := bv_lt u
      by_cases h1 : i < n
      · clear hgo
        go_wp2_with fail
        refine C1.mono ?_
        rintro e w' ⟨rfl, rfl⟩
        go_wp2_with fail
        refine C2.mono ?_
        rintro e w' ⟨rfl, rfl⟩
        clear C1 C2
        go_wp2_with (at_builtin; refine push_byte rfl (.tmp 34) (.tmp 38) rfl w.heap.size _ i _ u rfl (hown.alloc _) wr.heap.size 1 rfl ?c1 ?c2 ?c3 ?_)
        case c1 => go_simp
        case c2 => omega
        case c3 => simp; omega
        intro v1 w1 hown1 hb1
        go_wp2_with fail
        go_roundw
        case rel => exact ⟨i + 1, q2, L ++ [u], by omega, by go_num, rfl, Hn, hown1, (hb.alloc hz _).trans hb1⟩
        case measure => simp [intOf]; omega
      · by_cases h3 : i < n2
        · clear hgo
          go_wp2_with fail
          refine C1.mono ?_
          rintro e w' ⟨rfl, rfl⟩
          go_wp2_with fail
          refine C2.mono ?_
          rintro e w' ⟨rfl, rfl⟩
          clear C1 C2
          go_wp2_with (at_builtin; refine push_byte rfl (.tmp 34) (.tmp 38) rfl w.heap.size _ i _ u rfl (hown.alloc _) wr.heap.size 1 rfl ?c1 ?c2 ?c3 ?_)
          case c1 => go_simp
          case c2 => omega
          case c3 => simp; omega
          intro v1 w1 hown1 hb1
          go_wp2_with fail
          go_roundw
          case rel => exact ⟨i + 1, q2, L ++ [u], by omega, by go_num, rfl, Hn, hown1, (hb.alloc hz _).trans hb1⟩
          case measure => simp [intOf]; omega
        · have h0 : 0 < q := (hgo.resolve_left h1).resolve_left h3
          have h00 : (0 : Int) < (q : Int) := by omega
          clear hgo
          go_wp2_with fail
          refine C1.mono ?_
          rintro e w' ⟨rfl, rfl⟩
          go_wp2_with fail
          refine C2.mono ?_
          rintro e w' ⟨rfl, rfl⟩
          clear C1 C2
          go_wp2_with (at_builtin; refine push_byte rfl (.tmp 34) (.tmp 38) rfl w.heap.size _ i _ u rfl (hown.alloc _) wr.heap.size 1 rfl ?c1 ?c2 ?c3 ?_)
          case c1 => go_simp
          case c2 => omega
          case c3 => simp; omega
          intro v1 w1 hown1 hb1
          go_wp2_with fail
          go_roundw
          case rel => exact ⟨i + 1, q2, L ++ [u], by omega, by go_num, rfl, Hn, hown1, (hb.alloc hz _).trans hb1⟩
          case measure => simp [intOf]; omega
    · have h1 : ¬ i < n := fun e => hgo (.inl e)
      have h3 : ¬ i < n2 := fun e => hgo (.inr (.inl e))
      have h0 : q = 0 := by omega
      subst h0
      have Hd : Hid (leN L = leN us + leN us2) := Lib.hid (by
        have := HS.out.2.2.2
        rw [nb_all us (by rw [Hla.out]; omega), nb_all us2 (by rw [Hlb.out]; omega)] at this
        omega)
      obtain ⟨A', c', rfl, hr, hc1, hc2⟩ := Rd.of_own2 hown
      have C := trim_row hr hc1 hc2 (m + 1) hi hb
      rw [Hd.out] at C
      clear hown hgo hr
      go_wp2_with fail
      refine C.mono ?_
      rintro e w' ⟨A1, m1, c1, vs, rfl, g⟩
      go_wp2_with fail
      go_ret
      exact ⟨A1, m1, c1, vs, rfl, g⟩
end Go.Proofs.YthfbgcjfnpajjaaDoor
