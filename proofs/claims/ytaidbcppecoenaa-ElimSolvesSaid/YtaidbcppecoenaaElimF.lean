import Derived.Test.YtaidbcppecoenaaElimC
/- Package elim: where a row belongs. -/
namespace Go.Proofs.Ytaidbcppecoenaa
open Go.RowKit
set_option linter.unusedVariables false
set_option maxRecDepth 100000

theorem eclos_any {w : World} {p k t x1 x2 j : Nat} {L : List RowL} {v : Value} {z : Int} (h : Sys w p k t L v) (h1 : w.cell? ⟨x1, 0, none⟩ = some (.pointer (some ⟨p, 0, none⟩))) (h2 : w.cell? ⟨x2, 0, none⟩ = some (.int .i64 z)) (hj : j < L.length) :
    Calls Try.prog 90 (#[.int .i64 (j : Int)] ++ #[.pointer (some ⟨x1, 0, none⟩), .pointer (some ⟨x2, 0, none⟩)]) w fun e w' => e = .returned (.bool (decide (z ≤ leadI (L[j]?.getD ([], [])).1))) ∧ Below w.heap.size w w' := by
  obtain ⟨R, cap, A5, n5, c5, A6, n6, c6, rfl, hR, k0, k1, k2, r5⟩ := h.at_ hj
  obtain ⟨s0, s1, s2, _, _, _⟩ := cells3 h.1
  generalize leadI (L[j]?.getD ([], [])).1 = y at *
  have hz : (j : Int) < (L.length : Int) := by omega
  go_enter Try.func90, Try.ntmps90
  go_wp2_with fail
  go_quiet (fail)
  go_wp2_with fail
  go_ret
  exact ⟨rfl, below_drewN (Below.refl _ _) nq⟩
theorem search_place {w : World} {n x1 x2 : Nat} (p : Nat → Bool) (hn : n ≤ 65536)
    (hf : ∀ W, Below w.heap.size w W → ∀ i : Nat, i < n → Calls Try.prog 90 (#[.int .i64 (i : Int)] ++ #[.pointer (some ⟨x1, 0, none⟩), .pointer (some ⟨x2, 0, none⟩)]) W fun e w' => e = .returned (.bool (p i)) ∧ Below W.heap.size W w')
    (hmono : ∀ a b, a ≤ b → b < n → p a = true → p b = true) :
    Calls Try.prog 89 #[.int .i64 (n : Int), .func (.func 90) #[] #[.pointer (some ⟨x1, 0, none⟩), .pointer (some ⟨x2, 0, none⟩)]] w fun e w' => ∃ c : Nat, e = .returned (.int .i64 (c : Int)) ∧ c ≤ n ∧ (∀ t, t < c → p t = false) ∧ (∀ t, c ≤ t → t < n → p t = true) ∧ Below w.heap.size w w' := by
  have HF := Lib.hid hf
  have M := Lib.hid hmono
  clear hf hmono
  go_enter Try.func89, Try.ntmps89
  go_wp2_with fail
  go_loopw [5, 6] (fun s5 s6 wr => ∃ (lo hi : Nat), s5 = .int .i64 (lo : Int) ∧ s6 = .int .i64 (hi : Int) ∧ lo ≤ hi ∧ hi ≤ n ∧ Below w.heap.size w wr ∧ Hid ((∀ t, t < lo → p t = false) ∧ (∀ t, hi ≤ t → t < n → p t = true))) (fun s5 s6 _ => (intOf s6).toNat - (intOf s5).toNat)
  case atStart => exact ⟨0, n, rfl, rfl, Nat.zero_le _, Nat.le_refl _, Below.refl _ _, Lib.hid ⟨fun t ht => absurd ht (Nat.not_lt_zero _), fun t h1 h2 => by omega⟩⟩
  case round =>
    obtain ⟨lo, hi, rfl, rfl, hlh, hin, hb, I⟩ := hrel
    by_cases hlt : lo < hi
    · have hc := HF.out wr hb ((lo + hi) / 2) (by omega)
      rw [show (((lo + hi) / 2 : Nat) : Int) = ((lo : Int) + (hi : Int)) / 2 by omega] at hc
      cases hp : p ((lo + hi) / 2) <;> rw [hp] at hc
      · have HP := Lib.hid hp
        clear hp
        go_wp2_with fail
        refine hc.mono ?_
        rintro e w' ⟨rfl, kb⟩
        have hb2 := bstep hb kb
        go_wp2_with fail
        go_roundw
        case rel =>
          have I2 : Hid ((∀ t, t < (lo + hi) / 2 + 1 → p t = false) ∧ (∀ t, hi ≤ t → t < n → p t = true)) := Lib.hid ⟨fun t ht => (by
            cases h : p t with
            | false => rfl
            | true => have := M.out t ((lo + hi) / 2) (by omega) (by omega) h; rw [HP.out] at this; cases this), I.out.2⟩
          exact ⟨(lo + hi) / 2 + 1, hi, by rw [show ((lo : Int) + (hi : Int)) / 2 + 1 = (((lo + hi) / 2 + 1 : Nat) : Int) by omega], rfl, by omega, hin, hb2, I2⟩
        case measure => simp [intOf]; omega
      · have HP := Lib.hid hp
        clear hp
        go_wp2_with fail
        refine hc.mono ?_
        rintro e w' ⟨rfl, kb⟩
        have hb2 := bstep hb kb
        go_wp2_with fail
        go_roundw
        case rel =>
          have I2 : Hid ((∀ t, t < lo → p t = false) ∧ (∀ t, (lo + hi) / 2 ≤ t → t < n → p t = true)) := Lib.hid ⟨I.out.1, fun t ht htn => M.out ((lo + hi) / 2) t ht htn HP.out⟩
          exact ⟨lo, (lo + hi) / 2, rfl, by rw [show ((lo : Int) + (hi : Int)) / 2 = (((lo + hi) / 2 : Nat) : Int) by omega], by omega, by omega, hb2, I2⟩
        case measure => simp [intOf]; omega
    · obtain rfl : lo = hi := by omega
      go_wp2_with fail
      go_ret
      exact ⟨lo, rfl, hin, I.out.1, I.out.2, hb⟩
theorem place_is {L : List RowL} {z : Int} {c : Nat} (hc : c ≤ L.length) (h1 : ∀ t, t < c → decide (z ≤ leadI (L[t]?.getD ([], [])).1) = false) (h2 : ∀ t, c ≤ t → t < L.length → decide (z ≤ leadI (L[t]?.getD ([], [])).1) = true) : c = placeL L z := by
  have hp := place_le L z
  rcases Nat.lt_trichotomy c (placeL L z) with h | h | h
  · have h3 := place_lt h
    have h4 := h2 c (Nat.le_refl _) (by omega)
    simp at h4
    omega
  · exact h
  · have h3 := place_stop (L := L) (j := z) (by omega)
    have h4 := h1 _ h
    simp at h4
    omega
theorem good_mono {k t a b : Nat} {L : List RowL} {z : Int} (h : Good k t L) (hab : a ≤ b) (hb : b < L.length) (ha : decide (z ≤ leadI (L[a]?.getD ([], [])).1) = true) : decide (z ≤ leadI (L[b]?.getD ([], [])).1) = true := by
  rcases Nat.eq_or_lt_of_le hab with rfl | hlt
  · exact ha
  · have hr := List.pairwise_iff_getElem.1 h.2.2 a b (by simp [leads, ledE]; omega) (by simp [leads, ledE]; omega) hlt
    simp only [leads, ledE, List.map_map, List.getElem_map, Function.comp_def] at hr
    have z1 := (h.1 L[a] (List.getElem_mem _)).2.2
    have z2 := (h.1 L[b] (List.getElem_mem _)).2.2
    rw [List.getElem?_eq_getElem (by omega)] at ha ⊢
    simp at ha ⊢
    omega
theorem eplace_any {w : World} {p k t : Nat} {L : List RowL} {v : Value} {z : Int} (h : Sys w p k t L v) (z1 : -9223372036854775808 ≤ z) (z2 : z ≤ 9223372036854775807) :
    Calls Try.prog 69 #[.pointer (some ⟨p, 0, none⟩), .int .i64 z] w fun e w' => e = .returned (.int .i64 (placeL L z : Int)) ∧ Below w.heap.size w w' := by
  have hlen := h.len
  have hk := h.2.2.2.2.2.1
  have HG := Lib.hid h.2.2.1
  obtain ⟨A, c, rfl⟩ : ∃ A c, v = .slice A L.length c := by
    obtain ⟨_, ⟨xs, h2, _⟩, _⟩ := h
    obtain ⟨A, c, e, _⟩ := h2.val
    exact ⟨A, c, e⟩
  obtain ⟨hb0, b1, b2⟩ := two_alloc (w := w) (T := 46) (T2 := 3) (cs := #[.pointer (some ⟨p, 0, none⟩)]) (cs2 := #[.int .i64 z])
  have hS := h.step hb0
  have c1 : ((w.alloc (.cells #[.pointer (some ⟨p, 0, none⟩)] 46)).alloc (.cells #[.int .i64 z] 3)).cell? ⟨w.heap.size, 0, none⟩ = some (.pointer (some ⟨p, 0, none⟩)) := by rw [b1.cell]; rfl
  have c2 : ((w.alloc (.cells #[.pointer (some ⟨p, 0, none⟩)] 46)).alloc (.cells #[.int .i64 z] 3)).cell? ⟨w.heap.size + 1, 0, none⟩ = some (.int .i64 z) := by rw [b2.cell]; rfl
  obtain ⟨s0, s1, s2, _, _, _⟩ := cells3 hS.1
  have C := search_place (w := (w.alloc (.cells #[.pointer (some ⟨p, 0, none⟩)] 46)).alloc (.cells #[.int .i64 z] 3)) (n := L.length) (x1 := w.heap.size) (x2 := w.heap.size + 1) (fun j => decide (z ≤ leadI (L[j]?.getD ([], [])).1)) (by omega)
    (fun W hW i hi => eclos_any (hS.step hW) ((hW.cell (p := ⟨w.heap.size, 0, none⟩) b1.lt).trans c1) ((hW.cell (p := ⟨w.heap.size + 1, 0, none⟩) b2.lt).trans c2) hi) (fun a b hab hb ha => good_mono HG.out hab hb ha)
  have HC := Lib.hid C
  clear C h
  go_enter Try.func69, Try.ntmps69
  go_wp2_with fail
  refine HC.out.mono ?_
  rintro e w3 ⟨c3, rfl, g1, g2, g3, kb⟩
  have hP := place_is g1 g2 g3
  have hb3 := bstep hb0 kb
  clear g1 g2 g3 c1 c2 s0 s1 s2 kb HC b1 b2 hS hb0
  go_wp2_with fail
  go_ret
  exact ⟨rfl, hb3⟩
end Go.Proofs.Ytaidbcppecoenaa

