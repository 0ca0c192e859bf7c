import Derived.Test.YtilelmejpbnbnaaR07G
import Derived.Deep.RegionWith
/- The document's determinant, called. -/
namespace Go.Proofs.Ytilelmejpbnbnaa
open Go.RowKit
set_option linter.unusedVariables false
set_option maxRecDepth 100000

theorem without_any {B : Nat} {w : World} {A : Option Addr} {n c i K : Nat} {rows : List (List UInt8)} (h : Rds w B A n rows) (hC : Caps w B A n) (hB : B ≤ w.heap.size) (h2 : 1 ≤ n) (hn : n ≤ 65536) (hc : n ≤ c) (hc2 : c ≤ 9223372036854775807) (hl : lenB K rows = true) (hK : K ≤ 65536) (hi : i < K) :
    Calls Try.prog 59 #[.slice A n c, .int .i64 i] w (RowsC (outL rows i) w) := by
  obtain ⟨b, o, rfl, _⟩ := h.2 h2
  by_cases h1 : n = 1
  · subst h1
    exact without_one h.1 hc hc2 (by omega)
  · exact without_more h hC hB (by omega) hn hc hc2 hl hK hi
set_option maxHeartbeats 600000 in
theorem refdet_any (n : Nat) : ∀ (w : World) (B : Nat) (A : Option Addr) (c : Nat) (rows : List (List UInt8)), Rds w B A n rows → Caps w B A n → B ≤ w.heap.size → n ≤ 1000 → n ≤ c → c ≤ 9223372036854775807 → lenB n rows = true →
    Calls Try.prog 24 #[.slice A n c] w fun e w' => e = .returned (.int .u8 (bv (detL n rows))) ∧ Below w.heap.size w w' := by
  induction n with
  | zero =>
    intro w B A c rows h hC hB hn hc hc2 hl
    go_enter Try.func24, Try.ntmps24
    go_wp2_with fail
    go_ret
    exact ⟨rfl, Below.refl _ _⟩
  | succ n ih =>
    intro w B A c rows h hC hB hn hc hc2 hl
    have HL := Lib.hid h.1
    have Hl := Lib.hid hl
    replace h := h.more hB
    replace hC := hC.more hB
    have IH := Lib.hid ih
    have t9 : ((n + 1 : Nat) : Int) ≠ 0 := by omega
    clear hl ih hB
    obtain ⟨N, hN⟩ : ∃ N, N = n + 1 := ⟨_, rfl⟩
    have HN := Lib.hid hN
    rw [← hN] at h hC hn hc t9 ⊢
    have hN1 : 1 ≤ N := by omega
    have hN0 : 0 < N := by omega
    have hN2 : (0 : Int) < (N : Int) := by omega
    have t10 : ((N : Int) == 0) = false := by simp; omega
    clear hN
    go_enter Try.func24, Try.ntmps24
    go_wp2_with fail
    go_loopw [3, 10] (fun s x wr => ∃ k : Nat, k ≤ N ∧ x = .int .i64 (k : Int) ∧ s = .int .u8 (bv (xs (fun i => gm ((rows[0]?.getD [])[i]?.getD 0) (detL n (outL rows i))) k)) ∧ Below w.heap.size w wr) (fun _ x _ => N - (intOf x).toNat)
    case atStart => exact ⟨0, by omega, rfl, rfl, Below.refl _ _⟩
    case round =>
      obtain ⟨wo, rfl⟩ : ∃ wo : World, wo = wr := ⟨_, rfl⟩
      obtain ⟨k, hk, rfl, rfl, hb⟩ := hrel
      have hz := hb.size
      by_cases hlt : k < N
      · obtain ⟨b1, o1, Ar, cr, rfl, hb1, hcell, hr1⟩ := (h.below hb).at_ (show 0 < N by omega)
        have hlen := lenB_get Hl.out (k := 0) (by rw [HL.out]; omega)
        rw [hlen, ← HN.out] at hcell hr1
        obtain ⟨b2, o2, rfl, hb2, hbyte⟩ := hr1.at_ hlt
        rw [Nat.add_zero] at hcell
        have HX : Hid (xs (fun i => gm ((rows[0]?.getD [])[i]?.getD 0) (detL n (outL rows i))) (k + 1) = xs (fun i => gm ((rows[0]?.getD [])[i]?.getD 0) (detL n (outL rows i))) k ^^^ gm ((rows[0]?.getD [])[k]?.getD 0) (detL n (outL rows k))) := Lib.hid rfl
        have C1 := Lib.hid fun (W : World) (hbW : Below w.heap.size w W) => without_any (i := k) (K := N) (h.below hbW) (hC.below hbW) hbW.size hN1 (by omega) hc hc2 (by rw [HN.out]; exact Hl.out) (by omega) hlt
        have hol : lenB n (outL rows k) = true := outL_lenB Hl.out (by have := HN.out; omega)
        have C2 := Lib.hid fun (W : World) (A2 : Option Addr) (n2 c2 : Nat) (r : Rds W W.heap.size A2 n2 (outL rows k)) (rc : Caps W W.heap.size A2 n2) (q1 : n2 ≤ c2) (q2 : c2 ≤ 9223372036854775807) => (show Calls Try.prog 24 #[.slice A2 n2 c2] W fun e w' => e = .returned (.int .u8 (bv (detL n (outL rows k)))) ∧ Below W.heap.size W w' from by
          have e : n2 = n := by
            have h3 := r.1
            rw [outL_len, HL.out] at h3
            have := HN.out
            omega
          subst e
          exact IH.out _ _ _ _ _ r rc (Nat.le_refl _) (by have := HN.out; omega) q1 q2 hol)
        clear hlen hr1 hol
        generalize (rows[0]?.getD [])[k]?.getD 0 = x at *
        generalize detL n (outL rows k) = y at *
        generalize xs (fun i => gm ((rows[0]?.getD [])[i]?.getD 0) (detL n (outL rows i))) k = s at *
        have HS : Hid (∀ w', Below wo.heap.size wo w' → (Below wo.heap.size wo w' ∧ w'.cell? ⟨b1, o1, none⟩ = some (.slice (some ⟨b2, o2, none⟩) N cr) ∧ w'.cell? ⟨b2, o2 + k, none⟩ = some (.int .u8 (bv x)))) := Lib.hid fun w' hb' =>
          ⟨hb', (hb'.cell (p := ⟨b1, o1, none⟩) (by show b1 < _; omega)).trans hcell, (hb'.cell (p := ⟨b2, o2 + k, none⟩) (by show b2 < _; omega)).trans hbyte⟩
        go_wp2_with fail
        clear hcell hbyte
        go_region_held3 (fun w' => Below wo.heap.size wo w' ∧ w'.cell? ⟨b1, o1, none⟩ = some (.slice (some ⟨b2, o2, none⟩) N cr) ∧ w'.cell? ⟨b2, o2 + k, none⟩ = some (.int .u8 (bv x)))
          ((refine HS.out _ ?_; first | exact (Below.refl _ _).drew | assumption))
          (first
            | (go_at_call 59; (with_reducible refine (C1.out _ (hb.drew)).mono ?_); rintro e x1 ⟨A8, n8, c8, rfl, r8, k8, q1, q2, b8⟩; have m8 := bstep (Below.refl wo.heap.size wo).drew b8)
            | (go_at_call 24; (with_reducible refine (C2.out _ _ _ _ r8 k8 q1 q2).mono ?_); rintro e x2 ⟨rfl, b9⟩; have m9 := bstep m8 b9)
            | (go_at_call 56; (with_reducible refine (refmul_any x y _).mono ?_); rintro e x3 ⟨rfl, rfl⟩))
        have HB := Lib.hid (bstep hb m9)
        clear m8 m9 b8 b9 r8 k8 C1 C2 HS
        try simp only [bits_xor_b]
        try rw [← HX.out]
        go_wp2_with fail
        go_roundw
        case rel => exact ⟨k + 1, by omega, by go_num, rfl, HB.out⟩
        case measure => simp [intOf]; omega
      · have e : k = n + 1 := by have := HN.out; omega
        go_wp2_with fail
        go_ret
        subst e
        have eN := HN.out
        subst eN
        exact ⟨rfl, hb⟩
end Go.Proofs.Ytilelmejpbnbnaa
