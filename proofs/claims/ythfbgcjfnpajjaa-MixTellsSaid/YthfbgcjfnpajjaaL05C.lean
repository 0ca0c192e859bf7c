import Derived.Test.YthfbgcjfnpajjaaMixB
import Derived.ProofKit
import Derived.OpenShut
/- MixTells: walk and frame. -/
namespace Go.Proofs.Ythfbgcjfnpajjaa
open Go.ChangeShapes Go.WideShapes Go.ChangeAt Go.RowKit
set_option linter.unusedVariables false
set_option maxRecDepth 100000

/-- The slice '.slice A n c' reads as these numbers of 64 bits with a sign; its cells lie below block B. -/
def RdI (w : World) (B : Nat) (A : Option Addr) (n : Nat) (zs : List Int) : Prop :=
  zs.length = n ∧ (∀ z ∈ zs, (Lit.int .i64 z).wf = true) ∧ (0 < n → ∃ b off, A = some ⟨b, off, none⟩ ∧ b < B ∧ ∀ i z, zs[i]? = some z → w.cell? ⟨b, off + i, none⟩ = some (.int .i64 z))
theorem RdI.at_ {w : World} {B n : Nat} {A : Option Addr} {zs : List Int} (h : RdI w B A n zs) {k : Nat} (hk : k < n) :
    ∃ b off z, A = some ⟨b, off, none⟩ ∧ b < B ∧ (Lit.int .i64 z).wf = true ∧ w.cell? ⟨b, off + k, none⟩ = some (.int .i64 z) := by
  obtain ⟨b, off, e, hb, hc⟩ := h.2.2 (by omega)
  have hl : k < zs.length := by have := h.1; omega
  exact ⟨b, off, zs[k], e, hb, h.2.1 _ (List.getElem_mem _), hc k zs[k] (List.getElem?_eq_getElem hl)⟩
theorem RdI.below {w w' : World} {B n : Nat} {A : Option Addr} {zs : List Int} (h : RdI w B A n zs) (hb : Below B w w') : RdI w' B A n zs :=
  ⟨h.1, h.2.1, fun hn => by
    obtain ⟨b, off, e, hB, hc⟩ := h.2.2 hn
    exact ⟨b, off, e, hB, fun j u hu => (hb.cell (p := ⟨b, off + j, none⟩) hB).trans (hc j u hu)⟩⟩
theorem ints_arg {H : Type} {enc : TypeId × Value → H} {W : World} {held : Bool} {t e : TypeId} {A : Option Addr} {n c : Nat} {d : DataW H} {p : List MemPlace}
    (ht : Try.prog.underlying t = some (.slice e)) (he : Try.prog.underlying e = some (.int .i64)) (ce : Try.prog.cellsOf e = 1)
    (h : DataW.Trod enc Try.prog W 0 (fun _ => true) held t (.slice A n c) d p) :
    ∃ zs, RdI W W.heap.size A n zs ∧ n ≤ c ∧ c ≤ maxLen := by
  obtain ⟨fuel, hf⟩ := h
  rcases Go.ChangeShapes.open_ints ht he ce hf with ⟨hcs, _⟩ | ⟨x, l, c', zs, hcs, _, hl, hm, hz, _, hcell, hwz⟩
  · simp [Value.cells] at hcs
    obtain ⟨rfl, rfl, rfl⟩ := hcs
    exact ⟨[], ⟨rfl, (fun z hz => absurd hz (by simp)), fun h => absurd h (by omega)⟩, by omega, by omega⟩
  · simp [Value.cells] at hcs
    obtain ⟨rfl, rfl, rfl⟩ := hcs
    have hz' : zs.length = c := by simpa using hz
    refine ⟨zs.take n, ⟨by simp; omega, fun z hz => hwz z (List.mem_of_mem_take hz), fun hn => ?_⟩, hl, hm⟩
    obtain ⟨b, off, spot⟩ := x
    have h0 := hcell 0 (by omega)
    have hspot : spot = none := by simpa [Addr.add] using World.cell?_spot h0
    subst hspot
    rw [addr_add] at h0
    refine ⟨b, off, rfl, cell_lt h0, fun i z hu => ?_⟩
    have hi : i < n := by
      have := (List.getElem?_eq_some_iff.1 hu).1
      simp at this; omega
    have h1 := hcell i (by omega)
    rw [addr_add] at h1
    rw [List.getElem?_take, if_pos hi] at hu
    rw [h1]
    simp [List.getD, hu]
set_option maxHeartbeats 1000000 in
theorem tells5_main (s : Nat) (hs : s < 18446744073709551616) (A : Option Addr) (N c : Nat) (zs : List Int) (w : World) (r : RdI w w.heap.size A N zs) (l : N ≤ 40) :
    Calls Try.prog 3 #[.int .u64 (uv s), .slice A N c] w fun e w' => e = .returned (.bool true) ∧ Below w.heap.size w w' := by
  have Hs := Lib.hid hs
  clear hs
  go_enter Try.func3, Try.ntmps3
  go_wp2_with fail
  refine (awake5 _).mono ?_
  rintro e w1 ⟨rfl, b1⟩
  go_wp2_with fail
  refine (new_any s _).mono ?_
  rintro e w2 ⟨g, rfl, G2, hg, b2⟩
  have k2 := bstep b1 b2
  have hg' : w.heap.size ≤ g := by have := b1.size; omega
  have HG := Lib.hid G2
  clear b1 b2 hg G2
  go_wp2_with fail
  go_loopw [6, 26] (fun z c wr => ∃ i t : Nat, i ≤ N ∧ c = .int .i64 i ∧ z = .int .u64 (uv t) ∧ Hid (t < 18446744073709551616) ∧ Hid (MAt wr g t) ∧ Below w.heap.size w wr) (fun _ c _ => N - (intOf c).toNat)
  case atStart => exact ⟨0, s, by omega, rfl, rfl, Hs, HG, k2⟩
  case round =>
    clear HG k2 Hs
    obtain ⟨i, t, hi, rfl, rfl, Ht, HG, kb⟩ := hrel
    by_cases hlt : i < N
    · obtain ⟨b, off, n, rfl, hbl, hwf, hc⟩ := (r.below kb).at_ hlt
      have hn := bounds_i64 hwf
      have hbW : b < w.heap.size := hbl
      by_cases hskip : 500 < n ∧ n ≤ 65536
      · obtain ⟨q1, q2⟩ := hskip
        go_wp2_with fail
        go_ret
        exact ⟨rfl, kb⟩
      · have hcl : (500 < n ∧ ¬ n ≤ 65536) ∨ (n < 0 ∧ n < 0) ∨ (0 ≤ n ∧ n ≤ 500) := by omega
        have hN1 := Lib.hid (next_any g t)
        have hN2 := Lib.hid (refnext_any t)
        have Hx := Lib.hid (st_lt t 1)
        have hcl : (500 < n ∧ ¬ n ≤ 65536 ∧ ¬ n < 0 ∧ 65536 < n) ∨ (n < 0 ∧ ¬ 500 < n) ∨ (0 ≤ n ∧ ¬ 500 < n ∧ ¬ n < 0 ∧ ¬ 65536 < n) := by omega
        clear hskip hn hwf
        rcases hcl with ⟨c1, c2, c3, c4⟩ | ⟨d1, d2⟩ | ⟨e1, e2, e3, e4⟩
        · cases h5 : (n.tmod 5 == 0)
          all_goals
            have HT := Lib.hid h5
            have h5' := h5
            rw [Int.tmod_eq_emod_of_nonneg (by omega)] at h5'
            go_wp2_with fail
            refine (clone_any g t _ HG.out).mono ?_
            rintro e w3 ⟨k, rfl, K3, hk, b3⟩
            have G3 := HG.out.step b3
            have hkg : g ≠ k := by have := HG.out.lt; omega
            have kb3 := bstep kb b3
            have hk' : w.heap.size ≤ k := by have := kb.size; omega
            clear b3 hk
            go_wp2_with fail
            refine (next_any k t _ K3).mono ?_
            rintro e w4 ⟨rfl, _, b4⟩
            have G4 := Lib.hid (G3.grown b4 hkg)
            have kb4 := kb3.trans (grown_below b4 kb3.size hk')
            clear b4 G3 K3 kb3 hkg hk' HG kb
            go_wp2_with fail
            first
              | (have h5t : (n.tmod 5 == 0) = true := HT.out
                 clear h5t
                 refine (hN2.out _).mono ?_
                 rintro e w' ⟨rfl, rfl⟩
                 clear hN2
                 generalize stir (st t 1) = q at *
                 have tq : (uv q != uv q) = false := by simp
                 go_wp2_with fail
                 refine (hN1.out _ G4.out).mono ?_
                 rintro e w5 ⟨rfl, G5, b5⟩
                 have kb5 := kb4.trans (grown_below b5 kb4.size hg')
                 have HG5 := Lib.hid G5
                 clear G5 b5 G4 kb4 hN1 Ht
                 obtain ⟨t2, ht2⟩ : ∃ t2, st t 1 = t2 := ⟨_, rfl⟩
                 rw [ht2] at HG5 Hx
                 simp only [ht2]
                 clear ht2
                 go_wp2_with fail)
              | (have h5t : (n.tmod 5 == 0) = false := HT.out
                 clear h5t
                 have kb5 := kb4
                 have HG5 := G4
                 clear kb4 G4 hN1 hN2 Hx
                 have Hx := Ht
                 clear Ht
                 obtain ⟨t2, ht2⟩ : ∃ t2, t2 = t := ⟨_, rfl⟩
                 subst ht2)
            refine (bytes_no _ n (.inr c4) _).mono ?_
            rintro e w' ⟨rfl, rfl⟩
            go_wp2_with fail
            go_roundw
            case rel => exact ⟨i + 1, t2, by omega, by go_num, rfl, Hx, HG5, kb5⟩
            case measure => simp [intOf]; omega
        · cases h5 : (n.tmod 5 == 0)
          all_goals
            have HT := Lib.hid h5
            go_wp2_with fail
            refine (clone_any g t _ HG.out).mono ?_
            rintro e w3 ⟨k, rfl, K3, hk, b3⟩
            have G3 := HG.out.step b3
            have hkg : g ≠ k := by have := HG.out.lt; omega
            have kb3 := bstep kb b3
            have hk' : w.heap.size ≤ k := by have := kb.size; omega
            clear b3 hk
            go_wp2_with fail
            refine (next_any k t _ K3).mono ?_
            rintro e w4 ⟨rfl, _, b4⟩
            have G4 := Lib.hid (G3.grown b4 hkg)
            have kb4 := kb3.trans (grown_below b4 kb3.size hk')
            clear b4 G3 K3 kb3 hkg hk' HG kb
            go_wp2_with fail
            first
              | (have h5t : (n.tmod 5 == 0) = true := HT.out
                 clear h5t
                 refine (hN2.out _).mono ?_
                 rintro e w' ⟨rfl, rfl⟩
                 clear hN2
                 generalize stir (st t 1) = q at *
                 have tq : (uv q != uv q) = false := by simp
                 go_wp2_with fail
                 refine (hN1.out _ G4.out).mono ?_
                 rintro e w5 ⟨rfl, G5, b5⟩
                 have kb5 := kb4.trans (grown_below b5 kb4.size hg')
                 have HG5 := Lib.hid G5
                 clear G5 b5 G4 kb4 hN1 Ht
                 obtain ⟨t2, ht2⟩ : ∃ t2, st t 1 = t2 := ⟨_, rfl⟩
                 rw [ht2] at HG5 Hx
                 simp only [ht2]
                 clear ht2
                 go_wp2_with fail)
              | (have h5t : (n.tmod 5 == 0) = false := HT.out
                 clear h5t
                 have kb5 := kb4
                 have HG5 := G4
                 clear kb4 G4 hN1 hN2 Hx
                 have Hx := Ht
                 clear Ht
                 obtain ⟨t2, ht2⟩ : ∃ t2, t2 = t := ⟨_, rfl⟩
                 subst ht2)
            refine (bytes_no _ n (.inl d1) _).mono ?_
            rintro e w' ⟨rfl, rfl⟩
            go_wp2_with fail
            go_roundw
            case rel => exact ⟨i + 1, t2, by omega, by go_num, rfl, Hx, HG5, kb5⟩
            case measure => simp [intOf]; omega
        · cases h5 : (n.tmod 5 == 0)
          all_goals
            have HT := Lib.hid h5
            have h5' := h5
            rw [Int.tmod_eq_emod_of_nonneg (by omega)] at h5'
            go_wp2_with fail
            refine (clone_any g t _ HG.out).mono ?_
            rintro e w3 ⟨k, rfl, K3, hk, b3⟩
            have G3 := HG.out.step b3
            have hkg : g ≠ k := by have := HG.out.lt; omega
            have kb3 := bstep kb b3
            have hk' : w.heap.size ≤ k := by have := kb.size; omega
            clear b3 hk
            go_wp2_with fail
            refine (next_any k t _ K3).mono ?_
            rintro e w4 ⟨rfl, _, b4⟩
            have G4 := Lib.hid (G3.grown b4 hkg)
            have kb4 := kb3.trans (grown_below b4 kb3.size hk')
            clear b4 G3 K3 kb3 hkg hk' HG kb
            go_wp2_with fail
            first
              | (have h5t : (n.tmod 5 == 0) = true := HT.out
                 clear h5t
                 refine (hN2.out _).mono ?_
                 rintro e w' ⟨rfl, rfl⟩
                 clear hN2
                 generalize stir (st t 1) = q at *
                 have tq : (uv q != uv q) = false := by simp
                 go_wp2_with fail
                 refine (hN1.out _ G4.out).mono ?_
                 rintro e w5 ⟨rfl, G5, b5⟩
                 have kb5 := kb4.trans (grown_below b5 kb4.size hg')
                 have HG5 := Lib.hid G5
                 clear G5 b5 G4 kb4 hN1 Ht
                 obtain ⟨t2, ht2⟩ : ∃ t2, st t 1 = t2 := ⟨_, rfl⟩
                 rw [ht2] at HG5 Hx
                 simp only [ht2]
                 clear ht2
                 go_wp2_with fail)
              | (have h5t : (n.tmod 5 == 0) = false := HT.out
                 clear h5t
                 have kb5 := kb4
                 have HG5 := G4
                 clear kb4 G4 hN1 hN2 Hx
                 have Hx := Ht
                 clear Ht
                 obtain ⟨t2, ht2⟩ : ∃ t2, t2 = t := ⟨_, rfl⟩
                 subst ht2)
            obtain ⟨m, rfl⟩ : ∃ m : Nat, n = (m : Int) := ⟨n.toNat, by omega⟩
            have tm : (mixL t2 m == mixL t2 m) = true := by simp
            have lm := Lib.hid (mixL_length t2 m)
            have Hst := Lib.hid (st_lt t2 ((m + 7) / 8))
            refine (bytes_any g t2 m (by omega) _ Hx.out HG5.out).mono ?_
            rintro e w6 ⟨j, rfl, K6, hj, G6, b6⟩
            have kb6 := kb5.trans (grown_below b6 kb5.size hg')
            have HG6 := Lib.hid G6
            clear G6 b6 HG5 kb5
            go_wp2_with fail
            refine (refbytes_any t2 m (by omega) Hx.out _).mono ?_
            rintro e w7 ⟨A7, c7, rfl, R7, b7⟩
            have kb7 := bstep kb6 b7
            have HG7 := Lib.hid (HG6.out.step b7)
            have R6 := Rd.of_blk (K6.below b7 K6.lt)
            rw [lm.out] at R6
            have S := same_any (c := m) (c2 := c7) R6 R7 (Nat.le_trans K6.lt b7.size) (Nat.le_refl _) (by omega)
            rw [tm] at S
            clear K6 R6 R7 HG6 kb6 b7
            go_wp2_with fail
            refine S.mono ?_
            rintro e w8 ⟨rfl, b8⟩
            have kb8 := bstep kb7 b8
            have HG8 := Lib.hid (HG7.out.step b8)
            clear S b8 HG7 kb7
            go_wp2_with fail
            go_roundw
            case rel => exact ⟨i + 1, st t2 ((m + 7) / 8), by omega, by go_num, rfl, Hst, HG8, kb8⟩
            case measure => simp [intOf]; omega
    · obtain rfl : i = N := by omega
      go_wp2_with fail
      go_ret
      exact ⟨rfl, kb⟩
theorem tells5_walk (z : Int) (A : Option Addr) (N c : Nat) (zs : List Int) (w : World) (w1 : (Lit.int .u64 z).wf = true) (r : RdI w w.heap.size A N zs) (l : N ≤ c ∧ c ≤ maxLen) :
    Calls Try.prog 3 #[.int .u64 z, .slice A N c] w fun e w' => e = .returned (.bool true) ∧ Below w.heap.size w w' := by
  have b1 := bounds_u64 w1
  unfold maxLen at l
  by_cases h : 40 < N
  · go_enter Try.func3, Try.ntmps3
    go_wp2_with fail
    refine (awake5 _).mono ?_
    rintro e w1 ⟨rfl, h1⟩
    go_wp2_with fail
    go_ret
    exact ⟨rfl, h1⟩
  · have e : z = uv z.toNat := by unfold uv; omega
    rw [e]
    exact tells5_main z.toNat (by omega) A N c zs w r (by omega)

/-! ### The frame of 'MixTells' -/
namespace mixTells
theorem own : ownKnob Try.prog.godebug = none := by kernel_rfl
theorem laidOut : laidOutB Try.prog = true := by kernel_rfl
theorem lifted (os : Os) (started : os.Started) (H : Type) (enc : TypeId × Value → H) :
    ReturnsInHanded {} Try.checked os 3 .any (Rows.mixTellsSpec.pre6 enc Try.prog Try.f3 Rows.mixTellsRow.domain false) (Rows.mixTellsSpec.post enc Try.prog Try.f3 false true false false) := by
  refine returnsInHanded_of_change (C := Try.checked) own started (by kernel_rfl) Try.func3
    (ChangeSpec.witness6 (enc := enc) (C := Try.checked) false ⟨#[], #[.int .u64 0, .slice none 0 0], []⟩ 8 (by kernel_rfl) (by kernel_rfl) (by kernel_rfl) (by kernel_rfl)) ?_
  intro W base args ds gs before hval0 hW hcnd _
  have hval : ∀ (j : Nat) t v, Try.f3.params[j]? = some t → args[j]? = some v → Value.okWide Try.prog W .any base t v := hval0
  have hW' := hW
  obtain ⟨p, q, hA0, hV, rfl, hfz, hnd⟩ := hW
  have hA : DataW.TrodAll enc Try.prog W 0 (fun _ => true) true Try.f3.params.toList args.toList ds p := hA0
  rw [Try.params3] at hA hval
  obtain ⟨v0, vs0, d0, ds0, p0, q0, hargs, rfl, rfl, h0, q0'⟩ := trodAll_cons hA
  obtain ⟨v1, vs1, d1, ds1, p1, q1, rfl, rfl, rfl, h1, q1'⟩ := trodAll_cons q0'
  obtain ⟨rfl, rfl, rfl⟩ := trodAll_nil q1'
  obtain rfl : args = #[v0, v1] := by cases args; simp_all
  obtain ⟨rfl, rfl⟩ := trodVars_none hV
  have k0 := h0
  have lt0 : ∀ x ∈ p0, x.block < W.heap.size := by obtain ⟨m, hm⟩ := k0; exact DataW.trod_lt m _ _ _ hm
  have k1 := h1
  have lt1 : ∀ x ∈ p1, x.block < W.heap.size := by obtain ⟨m, hm⟩ := k1; exact DataW.trod_lt m _ _ _ hm
  obtain ⟨a0, rfl, rfl, rfl, w0⟩ := open_int Try.underlying22 (hval 0 22 v0 rfl rfl) h0
  obtain ⟨A1, n1, c1, rfl⟩ := okWide_slice Try.underlying23 (hval 1 23 v1 rfl rfl)
  obtain ⟨us1, r1, l1⟩ := ints_arg Try.underlying23 Try.underlying3 (by kernel_rfl) h1
  clear hA0 hval0
  refine (tells5_walk a0 A1 n1 c1 us1 W w0 r1 l1).mono fun e W' ⟨he, bel⟩ => ?_
  subst he
  exact ⟨_, rfl, _, _, _, [], _, [], hW', trodAll_mk1 (shut_bool Try.underlying4 _), (trodAll_cons_mk (Below.trod laidOut (by kernel_rfl) (of_decide_eq_true (by kernel_rfl)) k0 bel lt0) (trodAll_cons_mk (Below.trod laidOut (by kernel_rfl) (of_decide_eq_true (by kernel_rfl)) k1 bel lt1) trodAll_mk0)), rfl, bel.frame _, fun h => by cases h⟩

theorem over : Rows.mixTellsRow.holds Try.pinned (OpenSpec.ofChange Rows.mixTellsSpec) :=
  OpenClaim.holds_of_wide 3 Try.f3 rfl rfl rfl rfl rfl rfl rfl ⟨rfl, rfl, rfl, rfl, rfl⟩ rfl rfl rfl rfl rfl (by kernel_rfl) Try.func3 (by kernel_rfl)
    (of_decide_eq_true (by kernel_rfl)) (by unfold Func.isWrapper; first | (rw [if_pos (by decide +kernel)]; kernel_rfl) | (rw [if_neg (by decide +kernel)]; exact ⟨rfl, rfl⟩))
    (fun os started H enc _ => lifted os started H enc)
/-- The statement. -/
theorem proved : Rows.MixTellsSaid := over
end mixTells
end Go.Proofs.Ythfbgcjfnpajjaa
