import Derived.Test.YthfbgcjfnpajjaaDoorRefA
/- The document's own text of a number; To, Is. -/
namespace Go.Proofs.YthfbgcjfnpajjaaDoor
open Go.RowKit
set_option linter.unusedVariables false
set_option maxRecDepth 100000

theorem dgc_low (d : Nat) (h : d < 10) : (48 : Int) + (d : Int) = bv (dgc d) := by
  unfold dgc
  rw [if_pos h, bv_ofNat _ (by omega)]
  omega
theorem dgc_high (d : Nat) (h : ¬ d < 10) (h2 : d < 16) : (97 : Int) + (d : Int) - 10 = bv (dgc d) := by
  unfold dgc
  rw [if_neg h, bv_ofNat _ (by omega)]
  omega
theorem bs_cons (x : UInt8) (t : List UInt8) : bs [x] ++ bs t = bs (x :: t) := by
  unfold bs
  rw [ByteArray.mk_append_mk]
  rfl
/-- The text, without needless noughts. -/
def textOf (t : List UInt8) : List UInt8 := if strip0 t = [] then [48] else strip0 t
theorem textOf_hex {k N : Nat} (h : N < 16 ^ k) : textOf (hexW k N) = hexT N := by
  unfold textOf
  by_cases h0 : N = 0
  · subst h0; rw [strip_zero, if_pos rfl]; rfl
  · rw [hexT_of h h0, if_neg (fun e => by have := textB_hexT N; rw [e] at this; simp [textB] at this)]
theorem textOf_cons {c : UInt8} {t : List UInt8} (hc : (c == 48) = true) : textOf (c :: t) = textOf t := by unfold textOf; rw [strip0_yes hc]
theorem textOf_no {c : UInt8} {t : List UInt8} (hc : (c == 48) = false) : textOf (c :: t) = c :: t := by unfold textOf; rw [strip0_no hc, if_neg (by simp)]
theorem textOf_one (c : UInt8) : textOf [c] = [c] := by
  cases hc : (c == 48)
  · exact textOf_no hc
  · have : c = 48 := by simpa using hc
    subst this
    rfl
set_option maxHeartbeats 2000000 in
theorem reftext_any {B : Nat} {A : Option Addr} {n c : Nat} {us : List UInt8} {w : World} (h : Rd w B A n us) (hB : B ≤ w.heap.size) (hn : n ≤ 100000) :
    Calls Tryd.prog 13 #[.slice A n c] w fun e w' => e = .returned (.string (bs (hexT (leN us)))) ∧ Below w.heap.size w w' := by
  have Hl := Lib.hid h.1
  have HW := Lib.hid (textOf_hex (leN_lt us))
  rw [h.1] at HW
  have hdig : ∀ i, leN us / 16 ^ i % 16 = dg (nb us) (i / 2) / 16 ^ (i % 2) % 16 := fun i => num_hex (b := 256) (e := 2) (nb_lt us) (by decide) i (by omega)
  have Hdig := Lib.hid hdig
  clear hdig
  generalize hN : leN us = N at *
  have HN := Lib.hid hN
  clear hN
  go_enter Tryd.func13, Tryd.ntmps13
  go_wp2
  go_loopw [3, 4] (fun s k wr => ∃ i : Nat, i ≤ n ∧ k = .int .i64 ((i : Nat) : Int) ∧ s = .string (bs (hexW (2 * i) N)) ∧ Below w.heap.size w wr) (fun _ k _ => n - (intOf k).toNat)
  case atStart => exact ⟨0, by omega, rfl, rfl, Below.refl _ _⟩
  case round =>
    obtain ⟨i, hi, rfl, rfl, hb⟩ := hrel
    by_cases hlt : i < n
    · go_wp2_with fail
      go_loopw [3, 5] (fun s k wr => ∃ j : Nat, j ≤ 2 ∧ k = .int .i64 ((j : Nat) : Int) ∧ s = .string (bs (hexW (2 * i + j) N)) ∧ Below w.heap.size w wr) (fun _ k _ => 2 - (intOf k).toNat)
      case atStart => exact ⟨0, by omega, rfl, rfl, hb⟩
      case round =>
        clear hb
        obtain ⟨j, hj, rfl, rfl, hb⟩ := hrel
        by_cases hj2 : j < 2
        · obtain ⟨b, off, rfl, hbB, hc⟩ := (h.below (hb.mono hB)).at_ hlt
          have hd := Hdig.out (2 * i + j)
          rw [show (2 * i + j) / 2 = i by omega, show (2 * i + j) % 2 = j by omega, nb_dg] at hd
          have Hw := Lib.hid (show hexW (2 * i + (j + 1)) N = dgc (N / 16 ^ (2 * i + j) % 16) :: hexW (2 * i + j) N from rfl)
          rw [hd] at Hw
          have hlen : (bs (hexW (2 * i + j) N)).size = 2 * i + j := by rw [bs_size, hexW_length]
          have hu := (us[i]?.getD 0).toNat_lt
          generalize us[i]?.getD 0 = u at *
          generalize hexW (2 * i + j) N = t at *
          clear hd
          have hub := bv_lt u
          have hub0 := bv_nn u
          have hlen1 : ∀ x, (bs [x]).size = 1 := fun x => rfl
          have hj01 : j = 0 ∨ j = 1 := by omega
          rcases hj01 with rfl | rfl
          · simp only [Nat.pow_zero, Nat.div_one] at Hw
            have hdx : bv u % 16 = ((u.toNat % 16 : Nat) : Int) := by unfold bv; omega
            have hd16 : u.toNat % 16 < 16 := by omega
            generalize u.toNat % 16 = d at *
            have x1 := bs_cons (dgc d) t
            have hcv : (convert 23 9 (.slice (some ⟨wr.heap.size, 0, none⟩) 1 1)).run Tryd.prog (wr.alloc (.cells #[.int .u8 (bv (dgc d))] 5)) = .ok (.string (bs [dgc d])) (wr.alloc (.cells #[.int .u8 (bv (dgc d))] 5)) := to_string (cap := 1) (Blk.new wr 5 (bvs [dgc d]).toArray)
            have hz := hlen1 (dgc d)
            clear hlen1
            by_cases h10 : d < 10
            · have e1 := dgc_low d h10
              have hd9 : (d : Int) < 10 := by omega
              clear h10
              go_wp2_with fail
              go_roundw
              case rel => exact ⟨1, by omega, by go_num, by rw [Hw.out], bstep hb (balloc _ _)⟩
              case measure => simp [intOf]
            · have e1 := dgc_high d h10 hd16
              have hd9 : ¬ (d : Int) < 10 := by omega
              clear h10
              go_wp2_with fail
              go_roundw
              case rel => exact ⟨1, by omega, by go_num, by rw [Hw.out], bstep hb (balloc _ _)⟩
              case measure => simp [intOf]
          · have e16 : u.toNat / 16 % 16 = u.toNat / 16 := by omega
            simp only [Nat.pow_one, e16] at Hw
            have hdx : bv u / 16 = ((u.toNat / 16 : Nat) : Int) := by unfold bv; omega
            have hd16 : u.toNat / 16 < 16 := by omega
            clear e16
            generalize u.toNat / 16 = d at *
            have x1 := bs_cons (dgc d) t
            have hcv : (convert 23 9 (.slice (some ⟨wr.heap.size, 0, none⟩) 1 1)).run Tryd.prog (wr.alloc (.cells #[.int .u8 (bv (dgc d))] 5)) = .ok (.string (bs [dgc d])) (wr.alloc (.cells #[.int .u8 (bv (dgc d))] 5)) := to_string (cap := 1) (Blk.new wr 5 (bvs [dgc d]).toArray)
            have hz := hlen1 (dgc d)
            clear hlen1
            by_cases h10 : d < 10
            · have e1 := dgc_low d h10
              have hd9 : (d : Int) < 10 := by omega
              clear h10
              go_wp2_with fail
              go_roundw
              case rel => exact ⟨2, by omega, by go_num, by rw [Hw.out], bstep hb (balloc _ _)⟩
              case measure => simp [intOf]
            · have e1 := dgc_high d h10 hd16
              have hd9 : ¬ (d : Int) < 10 := by omega
              clear h10
              go_wp2_with fail
              go_roundw
              case rel => exact ⟨2, by omega, by go_num, by rw [Hw.out], bstep hb (balloc _ _)⟩
              case measure => simp [intOf]
        · obtain rfl : j = 2 := by omega
          go_wp2_with fail
          go_roundw
          case rel => exact ⟨i + 1, by omega, by go_num, by rw [show 2 * (i + 1) = 2 * i + 2 by omega], hb⟩
          case measure => simp [intOf]; omega
    · obtain rfl : n = i := by omega
      have hw := HW.out
      have hlen : (bs (hexW (2 * n) N)).size = 2 * n := by rw [bs_size, hexW_length]
      have hl2 : (hexW (2 * n) N).length ≤ 200000 := by rw [hexW_length]; omega
      generalize hexW (2 * n) N = l at *
      have Hw := Lib.hid hw
      clear hw hlen
      go_wp2_with fail
      go_loop [3] (fun s => ∃ t : List UInt8, s = .string (bs t) ∧ Hid (textOf t = hexT N) ∧ t.length ≤ 200000) (fun s => strLen s)
      case atStart => exact ⟨l, rfl, Hw, hl2⟩
      case round =>
        obtain ⟨t, rfl, ht, hlt2⟩ := hrel
        cases t with
        | nil =>
          have hsz : (bs []).size = 0 := rfl
          have htl := bs_toList []
          have he : Hid (bs (hexT N) = ⟨#[48]⟩) := Lib.hid (by rw [← ht.out]; rfl)
          go_wp2_with fail
          go_ret
          exact ⟨by rw [he.out]; rfl, hb⟩
        | cons c t =>
          have hsz : (bs (c :: t)).size = t.length + 1 := bs_size _
          have hsl := bs_tail c t
          rw [hsz] at hsl
          have htl := bs_toList (c :: t)
          have hix : ∀ h : 0 < (bs (c :: t)).size, (bs (c :: t))[0]'h = c := fun h => rfl
          have hlt3 : t.length ≤ 200000 := by simp at hlt2; omega
          clear hlt2
          by_cases h1 : t.length = 0
          · have ht0 : t = [] := List.eq_nil_of_length_eq_zero h1
            have he : Hid (hexT N = c :: t) := Lib.hid (by rw [← ht.out, ht0, textOf_one])
            have hone : ¬ (1 : Int) < (t.length : Int) + 1 := by omega
            clear h1 ht0
            go_wp2_with fail
            go_ret
            exact ⟨by rw [he.out]; rfl, hb⟩
          · have hone : (1 : Int) < (t.length : Int) + 1 := by omega
            cases hc : (c == 48)
            · have tc : ((c.toNat : Int) == 48) = false := by
                have := bv_beq c 48
                rw [hc] at this
                exact this
              have he : Hid (hexT N = c :: t) := Lib.hid (by rw [← ht.out, textOf_no hc])
              clear hc h1
              go_wp2_with fail
              go_ret
              exact ⟨by rw [he.out]; rfl, hb⟩
            · have tc : ((c.toNat : Int) == 48) = true := by
                have := bv_beq c 48
                rw [hc] at this
                exact this
              have he : Hid (textOf t = hexT N) := Lib.hid (by rw [← ht.out, textOf_cons hc])
              clear hc h1
              go_wp2_with fail
              go_round
              case rel => exact ⟨t, rfl, he, hlt3⟩
              case measure => simp [strLen, bs_size]
end Go.Proofs.YthfbgcjfnpajjaaDoor
