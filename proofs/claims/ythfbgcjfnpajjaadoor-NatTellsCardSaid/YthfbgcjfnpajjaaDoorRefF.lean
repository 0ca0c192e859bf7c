import Derived.Test.YthfbgcjfnpajjaaDoorRefE
/- The document's own numbers: Parse. -/
namespace Go.Proofs.YthfbgcjfnpajjaaDoor
open Go.RowKit
set_option linter.unusedVariables false
set_option maxRecDepth 100000

theorem own_open {w : World} {base : Nat} {v : Value} {n : Nat} {us : List UInt8} (h : w.ownsRow base 5 1 v n (bvs us)) (hn : 0 < n) :
    ∃ g c, v = .slice (some ⟨g, 0, none⟩) n c ∧ base ≤ g ∧ (∀ r, r < n → w.cell? ⟨g, r, none⟩ = some (.int .u8 (bv (us[r]?.getD 0)))) ∧ (∀ r, w.frozen? ⟨g, r, none⟩ = false) ∧ (∀ r u, (w.setCell ⟨g, r, none⟩ (.int .u8 (bv u))).ownsRow base 5 1 v n (bvs (us.set r u))) := by
  have hl : us.length = n := by simpa [bvs] using h.1
  rcases h.2 with ⟨e, rfl⟩ | ⟨g, cap, cur, rfl, hb, hh, hc, hm, hs, ht⟩
  · omega
  · have hB : Blk w g 5 cur := hh
    refine ⟨g, cap, rfl, hb, fun r hr => ?_, fun r => hB.frozen r, fun r u => ⟨by simp [bvs_length, hl], .inr ⟨g, cap, cur.setIfInBounds r (.int .u8 (bv u)), rfl, hb, hB.set r _, hc, hm, by simpa using hs, ?_⟩⟩⟩
    · rw [hB.cell r]
      have := bvs_get us r (us[r]?.getD 0) (by rw [List.getElem?_eq_getElem (by omega)]; rfl)
      rw [← ht, List.getElem?_take, if_pos (by omega)] at this
      simpa using this
    · rw [Array.toList_setIfInBounds, List.take_set, ht]
      simp [bvs, List.map_set]
theorem hex_cases (c : UInt8) : (48 ≤ (c.toNat : Int) ∧ (c.toNat : Int) ≤ 57 ∧ isHex c = true ∧ (c.toNat : Int) - 48 = (dv c : Int)) ∨ (97 ≤ (c.toNat : Int) ∧ (c.toNat : Int) ≤ 102 ∧ isHex c = true ∧ (c.toNat : Int) - 97 + 10 = (dv c : Int)) ∨ (isHex c = false ∧ (c.toNat : Int) < 48) ∨ (isHex c = false ∧ 57 < (c.toNat : Int) ∧ (c.toNat : Int) < 97) ∨ (isHex c = false ∧ 102 < (c.toNat : Int)) := by
  have e1 : (48 : UInt8).toNat = 48 := rfl
  have e2 : (57 : UInt8).toNat = 57 := rfl
  have e3 : (97 : UInt8).toNat = 97 := rfl
  have e4 : (102 : UInt8).toNat = 102 := rfl
  have e5 : (58 : UInt8).toNat = 58 := rfl
  have hx : isHex c = ((decide (48 ≤ c.toNat) && decide (c.toNat ≤ 57)) || (decide (97 ≤ c.toNat) && decide (c.toNat ≤ 102))) := by
    unfold isHex
    simp only [UInt8.le_iff_toNat_le, e1, e2, e3, e4]
  have hd : dv c = if c.toNat < 58 then c.toNat - 48 else c.toNat - 87 := by
    unfold dv
    simp only [UInt8.lt_iff_toNat_lt, e5]
  rw [hx, hd]
  by_cases h1 : c.toNat < 48
  · exact .inr (.inr (.inl ⟨by simp; omega, by omega⟩))
  · by_cases h2 : c.toNat ≤ 57
    · exact .inl ⟨by omega, by omega, by simp; omega, by rw [if_pos (by omega)]; omega⟩
    · by_cases h3 : c.toNat < 97
      · exact .inr (.inr (.inr (.inl ⟨by simp; omega, by omega, by omega⟩)))
      · by_cases h4 : c.toNat ≤ 102
        · exact .inr (.inl ⟨by omega, by omega, by simp; omega, by rw [if_neg (by omega)]; omega⟩)
        · exact .inr (.inr (.inr (.inr ⟨by simp; omega, by omega⟩)))
theorem textB_bad {l : List UInt8} {c : UInt8} (hm : c ∈ l) (h : isHex c = false) : textB l = false := by
  cases ht : textB l
  · rfl
  · have := textB_hex ht c hm
    rw [h] at this
    exact absurd this (by simp)
theorem textB_all {c : UInt8} {t : List UInt8} (h : t = [] ∨ (c == 48) = false) (hx : ∀ x ∈ c :: t, isHex x = true) : textB (c :: t) = true := by
  have h2 : (c :: t).all isHex = true := List.all_eq_true.2 hx
  unfold textB
  rw [h2]
  cases hc : (c == 48)
  · have : (some c == some 48) = false := by simpa using hc
    simp [this]
  · rcases h with rfl | h
    · have : c = 48 := by simpa using hc
      subst this
      simp
    · rw [hc] at h; exact absurd h (by simp)
theorem textB_lead {c : UInt8} {t : List UInt8} (h : t ≠ []) (hc : (c == 48) = true) : textB (c :: t) = false := by
  have : c = 48 := by simpa using hc
  subst this
  unfold textB
  simp [h]
/-- So far the bytes of a text's number. -/
def ParTo (l : List UInt8) (j : Nat) (us : List UInt8) : Prop := leN us = hexV (l.drop j) ∧ us.length = (l.length - j + 1) / 2 ∧ ∀ c ∈ l.drop j, isHex c = true
theorem ParTo.start (l : List UInt8) : ParTo l l.length [] := ⟨by rw [List.drop_length]; rfl, by simp, by simp⟩
theorem drop_get {l : List UInt8} {j : Nat} {c : UInt8} (hj : j < l.length) (hc : l[j]?.getD 0 = c) : l.drop j = c :: l.drop (j + 1) := by
  rw [List.drop_eq_getElem_cons hj]
  congr 1
  rw [List.getElem?_eq_getElem hj] at hc
  exact hc
theorem pow_even (r : Nat) : 16 ^ (2 * r) = 256 ^ r := by rw [Nat.pow_mul]
theorem pow_odd (r : Nat) : 16 ^ (2 * r + 1) = 16 * 256 ^ r := by rw [Nat.pow_succ, pow_even, Nat.mul_comm]
theorem ParTo.even {l us : List UInt8} {j : Nat} {c : UInt8} (h : ParTo l (j + 1) us) (hj : j < l.length) (hc : l[j]?.getD 0 = c) (hx : isHex c = true) {r : Nat} (he : l.length - 1 - j = 2 * r) : ParTo l j (us ++ [UInt8.ofNat (dv c)]) := by
  obtain ⟨h1, h2, h3⟩ := h
  have hd := dv_lt hx
  have hu : us.length = r := by omega
  refine ⟨?_, by simp; omega, ?_⟩
  · unfold leN at *
    rw [nb_snoc, num_snoc, h1, drop_get hj hc, hexV_cons, List.length_drop, show l.length - (j + 1) = 2 * r by omega, pow_even, nb_length, hu, UInt8.toNat_ofNat_of_lt' (show dv c < 256 by omega)]
    omega
  · rw [drop_get hj hc]
    intro x hm
    rcases List.mem_cons.1 hm with rfl | hm
    · exact hx
    · exact h3 x hm
theorem ParTo.odd {l us : List UInt8} {j : Nat} {c : UInt8} (h : ParTo l (j + 1) us) (hj : j < l.length) (hc : l[j]?.getD 0 = c) (hx : isHex c = true) {r : Nat} (he : l.length - 1 - j = 2 * r + 1) :
    (us[r]?.getD 0).toNat < 16 ∧ ParTo l j (us.set r (UInt8.ofNat ((us[r]?.getD 0).toNat + 16 * dv c))) := by
  obtain ⟨h1, h2, h3⟩ := h
  have hd := dv_lt hx
  have hu : us.length = r + 1 := by omega
  have hlt := hexV_lt h3
  rw [List.length_drop, show l.length - (j + 1) = 2 * r + 1 by omega, pow_odd, ← h1] at hlt
  have hs := num_split 256 (ws := nb us) (i := r) (by rw [nb_length]; omega)
  have hx16 : dg (nb us) r < 16 := by
    have : dg (nb us) r * 256 ^ r < 16 * 256 ^ r := by unfold leN at hlt; omega
    exact Nat.lt_of_mul_lt_mul_right this
  rw [nb_dg] at hx16
  refine ⟨hx16, ?_, by simp; omega, ?_⟩
  · have h7 := num_set 256 ((us[r]?.getD 0).toNat + 16 * dv c) (show r < (nb us).length by rw [nb_length]; omega)
    unfold leN at *
    rw [nb_set, UInt8.toNat_ofNat_of_lt' (show (us[r]?.getD 0).toNat + 16 * dv c < 256 by omega), drop_get hj hc, hexV_cons, List.length_drop, show l.length - (j + 1) = 2 * r + 1 by omega, pow_odd, ← h1]
    have h8 : ((us[r]?.getD 0).toNat + 16 * dv c) * 256 ^ r = (us[r]?.getD 0).toNat * 256 ^ r + dv c * (16 * 256 ^ r) := by rw [Nat.add_mul, Nat.mul_comm 16 (dv c), Nat.mul_assoc]
    rw [nb_dg, h8] at h7
    omega
  · rw [drop_get hj hc]
    intro x hm
    rcases List.mem_cons.1 hm with rfl | hm
    · exact hx
    · exact h3 x hm
/-- What 'Parse' gives. -/
def ParseSays (l : List UInt8) (w : World) (e : Ending) (w' : World) : Prop :=
  (textB l = true ∧ ∃ A m c us, e = .returned (.tuple #[.slice A m c, .int .i64 0]) ∧ Rd w' w'.heap.size A m us ∧ m ≤ c ∧ c ≤ 9223372036854775807 ∧ m ≤ 300 ∧ leN us = hexV l ∧ Below w.heap.size w w') ∨
  (textB l = false ∧ e = .returned (.tuple #[.slice none 0 0, .int .i64 14]) ∧ Below w.heap.size w w')
set_option maxHeartbeats 4000000 in
theorem rparse_one (c : UInt8) (t : List UInt8) (h1 : t.length = 0) (w : World) : Calls Tryd.prog 9 #[.string (bs (c :: t))] w (ParseSays (c :: t) w) := by
  have hsz : (bs (c :: t)).size = t.length + 1 := bs_size _
  have htl := bs_toList (c :: t)
  have hix : ∀ h : 0 < (bs (c :: t)).size, (bs (c :: t))[0]'h = c := fun h => rfl
  have hln : Hid ((c :: t).length = t.length + 1) := Lib.hid rfl
  have Hb := Below.refl w.heap.size w
  have hone : ¬ (1 : Int) < (t.length : Int) + 1 := by omega
  have HY := Lib.hid (fun hx => textB_all (c := c) (t := t) (.inl (List.eq_nil_of_length_eq_zero h1)) hx)
  have hl2 : t.length + 1 ≤ 400 := by omega
  clear h1
  generalize hn : t.length + 1 = n at *
  have hni : (t.length : Int) + 1 = (n : Int) := by omega
  go_enter Tryd.func9, Tryd.ntmps9
  go_wp2_with fail
  clear hix htl
  generalize c :: t = l at *
  go_loopw [4, 5] (fun v y wr => ∃ (i m : Nat) (us : List UInt8), i ≤ n ∧ y = .int .i64 ((i : Int) - 1) ∧ Hid (ParTo l i us) ∧ Hid (m = (n - i + 1) / 2) ∧ wr.ownsRow w.heap.size 5 1 v m (bvs us) ∧ Below w.heap.size w wr) (fun _ y _ => (intOf y + 1).toNat)
  case atStart => exact ⟨n, 0, [], by omega, by go_num, by have := ParTo.start l; rw [hln.out] at this; exact Lib.hid this, Lib.hid (by omega), World.ownsRow_nil _ _ _ _, Hb⟩
  case round =>
    clear Hb
    obtain ⟨i, m, us, hi, rfl, HS, hm, hown, hb⟩ := hrel
    have hz := hb.size
    by_cases hi0 : 0 < i
    · obtain ⟨j, rfl⟩ : ∃ j, i = j + 1 := ⟨i - 1, by omega⟩
      have ej : ((j + 1 : Nat) : Int) - 1 = (j : Int) := by omega
      have ej2 : (j : Int) + 1 - 1 = (j : Int) := by omega
      have hix := fun h => bs_get (l := l) (k := j) (by rw [hln.out]; omega) h
      obtain ⟨c0, hc0⟩ : ∃ c0, l[j]?.getD 0 = c0 := ⟨_, rfl⟩
      rw [hc0] at hix
      have hc9 : (c0.toNat : Int) < 256 := by have := c0.toNat_lt; omega
      have HC0 := Lib.hid hc0
      rcases hex_cases c0 with ⟨a1, a2, hx, ed⟩ | ⟨a1, a2, hx, ed⟩ | ⟨hx, a1⟩ | ⟨hx, a1, a2⟩ | ⟨hx, a1⟩
      · skip
        have Hd := Lib.hid (dv_lt hx)
        rcases Nat.mod_two_eq_zero_or_one (n - 1 - j) with hp | hp
        · obtain ⟨r, hr⟩ : ∃ r, n - 1 - j = 2 * r := ⟨(n - 1 - j) / 2, by omega⟩
          have Hn := Lib.hid (HS.out.even (by rw [hln.out]; omega) hc0 hx (r := r) (by rw [hln.out]; exact hr))
          have eu : (dv c0 : Int) = bv (UInt8.ofNat (dv c0)) := by rw [bv_ofNat _ (by have := Hd.out; omega)]
          rw [eu] at ed
          generalize UInt8.ofNat (dv c0) = u at *
          have u0 := bv_nn u
          have u1 := bv_lt u
          have hk0 : ((n : Int) - 1 - (j : Int)) % 2 = 0 := by omega
          have Hm2 : Hid (m + 1 = (n - j + 1) / 2) := Lib.hid (by have := hm.out; omega)
          have hm400 : m ≤ 400 := by have := hm.out; omega
          clear hx hc0 eu hr
          go_wp2_with (at_builtin; refine push_byte rfl (.tmp 62) (.tmp 64) rfl w.heap.size _ m _ u rfl (hown.alloc _) wr.heap.size 1 rfl ?c1 ?c2 ?c3 ?_)
          case c1 => go_simp
          case c2 => omega
          case c3 => simp; omega
          intro v1 w1 hown1 hb1
          go_wp2_with fail
          go_roundw
          case rel => exact ⟨j, m + 1, us ++ [u], by omega, by go_num, Hn, Hm2, hown1, (hb.alloc hz _).trans hb1⟩
          case measure => simp [intOf]
        · exfalso; omega
      · skip
        have Hd := Lib.hid (dv_lt hx)
        rcases Nat.mod_two_eq_zero_or_one (n - 1 - j) with hp | hp
        · obtain ⟨r, hr⟩ : ∃ r, n - 1 - j = 2 * r := ⟨(n - 1 - j) / 2, by omega⟩
          have Hn := Lib.hid (HS.out.even (by rw [hln.out]; omega) hc0 hx (r := r) (by rw [hln.out]; exact hr))
          have eu : (dv c0 : Int) = bv (UInt8.ofNat (dv c0)) := by rw [bv_ofNat _ (by have := Hd.out; omega)]
          rw [eu] at ed
          generalize UInt8.ofNat (dv c0) = u at *
          have u0 := bv_nn u
          have u1 := bv_lt u
          have hk0 : ((n : Int) - 1 - (j : Int)) % 2 = 0 := by omega
          have Hm2 : Hid (m + 1 = (n - j + 1) / 2) := Lib.hid (by have := hm.out; omega)
          have hm400 : m ≤ 400 := by have := hm.out; omega
          clear hx hc0 eu hr
          go_wp2_with (at_builtin; refine push_byte rfl (.tmp 62) (.tmp 64) rfl w.heap.size _ m _ u rfl (hown.alloc _) wr.heap.size 1 rfl ?c1 ?c2 ?c3 ?_)
          case c1 => go_simp
          case c2 => omega
          case c3 => simp; omega
          intro v1 w1 hown1 hb1
          go_wp2_with fail
          go_roundw
          case rel => exact ⟨j, m + 1, us ++ [u], by omega, by go_num, Hn, Hm2, hown1, (hb.alloc hz _).trans hb1⟩
          case measure => simp [intOf]
        · exfalso; omega
      · skip
        have ht : Hid (textB l = false) := Lib.hid (textB_bad (l := l) (c := c0) (by
          have : j < l.length := by rw [hln.out]; omega
          rw [← hc0, List.getElem?_eq_getElem this]
          exact List.getElem_mem _) hx)
        clear hown hx hc0
        go_wp2_with fail
        go_ret2
        exact .inr ⟨ht.out, rfl, hb⟩
      · skip
        have ht : Hid (textB l = false) := Lib.hid (textB_bad (l := l) (c := c0) (by
          have : j < l.length := by rw [hln.out]; omega
          rw [← hc0, List.getElem?_eq_getElem this]
          exact List.getElem_mem _) hx)
        clear hown hx hc0
        go_wp2_with fail
        go_ret2
        exact .inr ⟨ht.out, rfl, hb⟩
      · skip
        have ht : Hid (textB l = false) := Lib.hid (textB_bad (l := l) (c := c0) (by
          have : j < l.length := by rw [hln.out]; omega
          rw [← hc0, List.getElem?_eq_getElem this]
          exact List.getElem_mem _) hx)
        clear hown hx hc0
        go_wp2_with fail
        go_ret2
        exact .inr ⟨ht.out, rfl, hb⟩
    · obtain rfl : i = 0 := by omega
      have hV := HS.out
      have hlen := hV.2.1
      have hY : Hid (textB l = true) := Lib.hid (HY.out (by have := hV.2.2; rwa [List.drop_zero] at this))
      have hN : Hid (leN us = hexV l) := Lib.hid (by have := hV.1; rwa [List.drop_zero] at this)
      obtain ⟨A', c', rfl, hr, hc1, hc2⟩ := Rd.of_own2 hown
      have C := trim_any hr hc1 hc2
      have C2 := Lib.hid C
      have hm3 : m ≤ 201 := by have := hm.out; omega
      clear hown hV hlen HY
      go_wp2_with fail
      refine C.mono ?_
      rintro e w' ⟨⟨m1, rfl, hm1, _, hle⟩, rfl⟩
      clear C hle
      go_wp2_with fail
      refine C2.out.mono ?_
      rintro e w' ⟨⟨m2, rfl, hm2, _, hle⟩, rfl⟩
      go_wp2_with fail
      go_ret2
      exact .inl ⟨hY.out, A', m2, c', us.take m2, rfl, hr.part_take hm2, by omega, hc2, by omega, by rw [hle, hN.out], hb⟩
set_option maxHeartbeats 4000000 in
theorem rparse_more (c : UInt8) (t : List UInt8) (hl2 : t.length + 1 ≤ 400) (h1 : ¬ t.length = 0) (hc : (c == 48) = false) (w : World) : Calls Tryd.prog 9 #[.string (bs (c :: t))] w (ParseSays (c :: t) w) := by
  have hsz : (bs (c :: t)).size = t.length + 1 := bs_size _
  have htl := bs_toList (c :: t)
  have hix : ∀ h : 0 < (bs (c :: t)).size, (bs (c :: t))[0]'h = c := fun h => rfl
  have hln : Hid ((c :: t).length = t.length + 1) := Lib.hid rfl
  have Hb := Below.refl w.heap.size w
  have hone : (1 : Int) < (t.length : Int) + 1 := by omega
  have tc : ((c.toNat : Int) == 48) = false := by
    have := bv_beq c 48
    rw [hc] at this
    exact this
  have HY := Lib.hid (fun hx => textB_all (c := c) (t := t) (.inr hc) hx)
  clear h1 hc
  generalize hn : t.length + 1 = n at *
  have hni : (t.length : Int) + 1 = (n : Int) := by omega
  go_enter Tryd.func9, Tryd.ntmps9
  go_wp2_with fail
  clear hix tc htl
  generalize c :: t = l at *
  go_loopw [4, 5] (fun v y wr => ∃ (i m : Nat) (us : List UInt8), i ≤ n ∧ y = .int .i64 ((i : Int) - 1) ∧ Hid (ParTo l i us) ∧ Hid (m = (n - i + 1) / 2) ∧ wr.ownsRow w.heap.size 5 1 v m (bvs us) ∧ Below w.heap.size w wr) (fun _ y _ => (intOf y + 1).toNat)
  case atStart => exact ⟨n, 0, [], by omega, by go_num, by have := ParTo.start l; rw [hln.out] at this; exact Lib.hid this, Lib.hid (by omega), World.ownsRow_nil _ _ _ _, Hb⟩
  case round =>
    clear Hb
    obtain ⟨i, m, us, hi, rfl, HS, hm, hown, hb⟩ := hrel
    have hz := hb.size
    by_cases hi0 : 0 < i
    · obtain ⟨j, rfl⟩ : ∃ j, i = j + 1 := ⟨i - 1, by omega⟩
      have ej : ((j + 1 : Nat) : Int) - 1 = (j : Int) := by omega
      have ej2 : (j : Int) + 1 - 1 = (j : Int) := by omega
      have hix := fun h => bs_get (l := l) (k := j) (by rw [hln.out]; omega) h
      obtain ⟨c0, hc0⟩ : ∃ c0, l[j]?.getD 0 = c0 := ⟨_, rfl⟩
      rw [hc0] at hix
      have hc9 : (c0.toNat : Int) < 256 := by have := c0.toNat_lt; omega
      have HC0 := Lib.hid hc0
      rcases hex_cases c0 with ⟨a1, a2, hx, ed⟩ | ⟨a1, a2, hx, ed⟩ | ⟨hx, a1⟩ | ⟨hx, a1, a2⟩ | ⟨hx, a1⟩
      · skip
        have Hd := Lib.hid (dv_lt hx)
        rcases Nat.mod_two_eq_zero_or_one (n - 1 - j) with hp | hp
        · obtain ⟨r, hr⟩ : ∃ r, n - 1 - j = 2 * r := ⟨(n - 1 - j) / 2, by omega⟩
          have Hn := Lib.hid (HS.out.even (by rw [hln.out]; omega) hc0 hx (r := r) (by rw [hln.out]; exact hr))
          have eu : (dv c0 : Int) = bv (UInt8.ofNat (dv c0)) := by rw [bv_ofNat _ (by have := Hd.out; omega)]
          rw [eu] at ed
          generalize UInt8.ofNat (dv c0) = u at *
          have u0 := bv_nn u
          have u1 := bv_lt u
          have hk0 : ((n : Int) - 1 - (j : Int)) % 2 = 0 := by omega
          have Hm2 : Hid (m + 1 = (n - j + 1) / 2) := Lib.hid (by have := hm.out; omega)
          have hm400 : m ≤ 400 := by have := hm.out; omega
          clear hx hc0 eu hr
          go_wp2_with (at_builtin; refine push_byte rfl (.tmp 62) (.tmp 64) rfl w.heap.size _ m _ u rfl (hown.alloc _) wr.heap.size 1 rfl ?c1 ?c2 ?c3 ?_)
          case c1 => go_simp
          case c2 => omega
          case c3 => simp; omega
          intro v1 w1 hown1 hb1
          go_wp2_with fail
          go_roundw
          case rel => exact ⟨j, m + 1, us ++ [u], by omega, by go_num, Hn, Hm2, hown1, (hb.alloc hz _).trans hb1⟩
          case measure => simp [intOf]
        · obtain ⟨r, hr⟩ : ∃ r, n - 1 - j = 2 * r + 1 := ⟨(n - 1 - j) / 2, by omega⟩
          obtain ⟨hx16, hn2⟩ := HS.out.odd (by rw [hln.out]; omega) hc0 hx (r := r) (by rw [hln.out]; exact hr)
          have Hn := Lib.hid hn2
          obtain rfl : m = r + 1 := by have := hm.out; omega
          obtain ⟨g, c', rfl, hgB, hcells, hfr, hset⟩ := own_open hown (by omega)
          have hcl := hcells r (by omega)
          have hfz := hfr r
          have Hset := Lib.hid (hset r)
          generalize us[r]?.getD 0 = x at *
          have x0 := bv_nn x
          have x1 : bv x < 16 := by unfold bv; omega
          have eu : bv x + 16 * (dv c0 : Int) = bv (UInt8.ofNat (x.toNat + 16 * dv c0)) := by rw [bv_ofNat _ (by have := Hd.out; omega)]; unfold bv; omega
          have d16 : (dv c0 : Int) < 16 := by have := Hd.out; omega
          have d0 : 0 ≤ (dv c0 : Int) := by omega
          generalize UInt8.ofNat (x.toNat + 16 * dv c0) = u at *
          generalize dv c0 = d at *
          have u0 := bv_nn u
          have u1 := bv_lt u
          have hk0 : ((n : Int) - 1 - (j : Int)) % 2 = 1 := by omega
          have er : ((r + 1 : Nat) : Int) - 1 = (r : Int) := by omega
          have er2 : (r : Int) + 1 - 1 = (r : Int) := by omega
          have Hm2 : Hid (r + 1 = (n - j + 1) / 2) := Lib.hid (by omega)
          have hr4 : (r : Int) ≤ 400 := by omega
          clear hx hc0 hx16 hn2 hcells hfr hset hr hown
          go_wp2_with fail
          go_roundw
          case rel => exact ⟨j, r + 1, us.set r u, by omega, by go_num, Hn, Hm2, Hset.out u, hb.setCell hgB _⟩
          case measure => simp [intOf]
      · skip
        have Hd := Lib.hid (dv_lt hx)
        rcases Nat.mod_two_eq_zero_or_one (n - 1 - j) with hp | hp
        · obtain ⟨r, hr⟩ : ∃ r, n - 1 - j = 2 * r := ⟨(n - 1 - j) / 2, by omega⟩
          have Hn := Lib.hid (HS.out.even (by rw [hln.out]; omega) hc0 hx (r := r) (by rw [hln.out]; exact hr))
          have eu : (dv c0 : Int) = bv (UInt8.ofNat (dv c0)) := by rw [bv_ofNat _ (by have := Hd.out; omega)]
          rw [eu] at ed
          generalize UInt8.ofNat (dv c0) = u at *
          have u0 := bv_nn u
          have u1 := bv_lt u
          have hk0 : ((n : Int) - 1 - (j : Int)) % 2 = 0 := by omega
          have Hm2 : Hid (m + 1 = (n - j + 1) / 2) := Lib.hid (by have := hm.out; omega)
          have hm400 : m ≤ 400 := by have := hm.out; omega
          clear hx hc0 eu hr
          go_wp2_with (at_builtin; refine push_byte rfl (.tmp 62) (.tmp 64) rfl w.heap.size _ m _ u rfl (hown.alloc _) wr.heap.size 1 rfl ?c1 ?c2 ?c3 ?_)
          case c1 => go_simp
          case c2 => omega
          case c3 => simp; omega
          intro v1 w1 hown1 hb1
          go_wp2_with fail
          go_roundw
          case rel => exact ⟨j, m + 1, us ++ [u], by omega, by go_num, Hn, Hm2, hown1, (hb.alloc hz _).trans hb1⟩
          case measure => simp [intOf]
        · obtain ⟨r, hr⟩ : ∃ r, n - 1 - j = 2 * r + 1 := ⟨(n - 1 - j) / 2, by omega⟩
          obtain ⟨hx16, hn2⟩ := HS.out.odd (by rw [hln.out]; omega) hc0 hx (r := r) (by rw [hln.out]; exact hr)
          have Hn := Lib.hid hn2
          obtain rfl : m = r + 1 := by have := hm.out; omega
          obtain ⟨g, c', rfl, hgB, hcells, hfr, hset⟩ := own_open hown (by omega)
          have hcl := hcells r (by omega)
          have hfz := hfr r
          have Hset := Lib.hid (hset r)
          generalize us[r]?.getD 0 = x at *
          have x0 := bv_nn x
          have x1 : bv x < 16 := by unfold bv; omega
          have eu : bv x + 16 * (dv c0 : Int) = bv (UInt8.ofNat (x.toNat + 16 * dv c0)) := by rw [bv_ofNat _ (by have := Hd.out; omega)]; unfold bv; omega
          have d16 : (dv c0 : Int) < 16 := by have := Hd.out; omega
          have d0 : 0 ≤ (dv c0 : Int) := by omega
          generalize UInt8.ofNat (x.toNat + 16 * dv c0) = u at *
          generalize dv c0 = d at *
          have u0 := bv_nn u
          have u1 := bv_lt u
          have hk0 : ((n : Int) - 1 - (j : Int)) % 2 = 1 := by omega
          have er : ((r + 1 : Nat) : Int) - 1 = (r : Int) := by omega
          have er2 : (r : Int) + 1 - 1 = (r : Int) := by omega
          have Hm2 : Hid (r + 1 = (n - j + 1) / 2) := Lib.hid (by omega)
          have hr4 : (r : Int) ≤ 400 := by omega
          clear hx hc0 hx16 hn2 hcells hfr hset hr hown
          go_wp2_with fail
          go_roundw
          case rel => exact ⟨j, r + 1, us.set r u, by omega, by go_num, Hn, Hm2, Hset.out u, hb.setCell hgB _⟩
          case measure => simp [intOf]
      · skip
        have ht : Hid (textB l = false) := Lib.hid (textB_bad (l := l) (c := c0) (by
          have : j < l.length := by rw [hln.out]; omega
          rw [← hc0, List.getElem?_eq_getElem this]
          exact List.getElem_mem _) hx)
        clear hown hx hc0
        go_wp2_with fail
        go_ret2
        exact .inr ⟨ht.out, rfl, hb⟩
      · skip
        have ht : Hid (textB l = false) := Lib.hid (textB_bad (l := l) (c := c0) (by
          have : j < l.length := by rw [hln.out]; omega
          rw [← hc0, List.getElem?_eq_getElem this]
          exact List.getElem_mem _) hx)
        clear hown hx hc0
        go_wp2_with fail
        go_ret2
        exact .inr ⟨ht.out, rfl, hb⟩
      · skip
        have ht : Hid (textB l = false) := Lib.hid (textB_bad (l := l) (c := c0) (by
          have : j < l.length := by rw [hln.out]; omega
          rw [← hc0, List.getElem?_eq_getElem this]
          exact List.getElem_mem _) hx)
        clear hown hx hc0
        go_wp2_with fail
        go_ret2
        exact .inr ⟨ht.out, rfl, hb⟩
    · obtain rfl : i = 0 := by omega
      have hV := HS.out
      have hlen := hV.2.1
      have hY : Hid (textB l = true) := Lib.hid (HY.out (by have := hV.2.2; rwa [List.drop_zero] at this))
      have hN : Hid (leN us = hexV l) := Lib.hid (by have := hV.1; rwa [List.drop_zero] at this)
      obtain ⟨A', c', rfl, hr, hc1, hc2⟩ := Rd.of_own2 hown
      have C := trim_any hr hc1 hc2
      have C2 := Lib.hid C
      have hm3 : m ≤ 201 := by have := hm.out; omega
      clear hown hV hlen HY
      go_wp2_with fail
      refine C.mono ?_
      rintro e w' ⟨⟨m1, rfl, hm1, _, hle⟩, rfl⟩
      clear C hle
      go_wp2_with fail
      refine C2.out.mono ?_
      rintro e w' ⟨⟨m2, rfl, hm2, _, hle⟩, rfl⟩
      go_wp2_with fail
      go_ret2
      exact .inl ⟨hY.out, A', m2, c', us.take m2, rfl, hr.part_take hm2, by omega, hc2, by omega, by rw [hle, hN.out], hb⟩
theorem rparse_lead (c : UInt8) (t : List UInt8) (hl2 : t.length + 1 ≤ 400) (h1 : ¬ t.length = 0) (hc : (c == 48) = true) (w : World) : Calls Tryd.prog 9 #[.string (bs (c :: t))] w (ParseSays (c :: t) w) := by
  have hsz : (bs (c :: t)).size = t.length + 1 := bs_size _
  have htl := bs_toList (c :: t)
  have hix : ∀ h : 0 < (bs (c :: t)).size, (bs (c :: t))[0]'h = c := fun h => rfl
  have Hb := Below.refl w.heap.size w
  have hone : (1 : Int) < (t.length : Int) + 1 := by omega
  have tc : ((c.toNat : Int) == 48) = true := by
    have := bv_beq c 48
    rw [hc] at this
    exact this
  have ht : Hid (textB (c :: t) = false) := Lib.hid (textB_lead (fun e => h1 (by rw [e]; rfl)) hc)
  clear h1 hc
  go_enter Tryd.func9, Tryd.ntmps9
  go_wp2_with fail
  go_ret2
  exact .inr ⟨ht.out, rfl, Hb⟩
theorem rparse_none (w : World) : Calls Tryd.prog 9 #[.string (bs [])] w (ParseSays [] w) := by
  have hsz : (bs []).size = 0 := rfl
  have htl := bs_toList []
  have hb := Below.refl w.heap.size w
  go_enter Tryd.func9, Tryd.ntmps9
  go_wp2_with fail
  go_ret2
  exact .inr ⟨rfl, rfl, hb⟩
theorem rparse_any (l : List UInt8) (hl : l.length ≤ 400) (w : World) : Calls Tryd.prog 9 #[.string (bs l)] w (ParseSays l w) := by
  cases l with
  | nil => exact rparse_none w
  | cons c t =>
    by_cases h1 : t.length = 0
    · exact rparse_one c t h1 w
    · cases hc : (c == 48)
      · exact rparse_more c t (by simpa using hl) h1 hc w
      · exact rparse_lead c t (by simpa using hl) h1 hc w
theorem rparse_yes (l : List UInt8) (hl : l.length ≤ 400) (ht : textB l = true) (w : World) : Calls Tryd.prog 9 #[.string (bs l)] w fun e w' => ∃ A m c us, e = .returned (.tuple #[.slice A m c, .int .i64 0]) ∧ Rd w' w'.heap.size A m us ∧ m ≤ c ∧ c ≤ 9223372036854775807 ∧ m ≤ 300 ∧ leN us = hexV l ∧ Below w.heap.size w w' :=
  (rparse_any l hl w).mono fun e w' h => by
    rcases h with h | h
    · exact h.2
    · rw [ht] at h; exact absurd h.1 (by simp)
theorem rparse_no (l : List UInt8) (hl : l.length ≤ 400) (ht : textB l = false) (w : World) : Calls Tryd.prog 9 #[.string (bs l)] w fun e w' => e = .returned (.tuple #[.slice none 0 0, .int .i64 14]) ∧ Below w.heap.size w w' :=
  (rparse_any l hl w).mono fun e w' h => by
    rcases h with h | h
    · rw [ht] at h; exact absurd h.1 (by simp)
    · exact h.2
end Go.Proofs.YthfbgcjfnpajjaaDoor
