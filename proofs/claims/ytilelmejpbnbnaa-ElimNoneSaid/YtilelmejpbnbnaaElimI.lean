import Derived.Test.YtilelmejpbnbnaaElimD
import Derived.Test.YtilelmejpbnbnaaElimF
/- Package elim: Known. -/
namespace Go.Proofs.Ytilelmejpbnbnaa
open Go.RowKit
set_option linter.unusedVariables false
set_option maxRecDepth 100000

/-- A symbol, if a row tells it alone. -/
def knownL (L : List RowL) (i : Int) : Option (List UInt8) :=
  if placeL L i = L.length then none
  else if leadI (L[placeL L i]?.getD ([], [])).1 ≠ i then none
  else if zeroB ((L[placeL L i]?.getD ([], [])).1.drop (i.toNat + 1)) then some (L[placeL L i]?.getD ([], [])).2 else none
def KnownEnds (x : Option (List UInt8)) (w : World) (e : Ending) (w' : World) : Prop :=
  (match x with
    | none => e = .returned (.tuple #[.slice none 0 0, .bool false])
    | some us => ∃ A n c, e = .returned (.tuple #[.slice A n c, .bool true]) ∧ Rd w' w'.heap.size A n us) ∧ Below w.heap.size w w'
theorem Rd.tail_ {w : World} {B n c k : Nat} {A : Option Addr} {us : List UInt8} (h : Rd w B A n us) (hk : k ≤ n) (hc : n ≤ c) : Rd w B (if c = k then A else A.map (·.add (k * 1))) (n - k) (us.drop k) := by
  have hl := h.1
  refine ⟨by simp; omega, fun hp => ?_⟩
  obtain ⟨b, off, e, hb, hcell⟩ := h.2 (by omega)
  refine ⟨b, off + k, ?_, hb, fun i u hu => ?_⟩
  · rw [if_neg (by omega), e, Option.map_some, Nat.mul_one]
    simp [Addr.add]
  · rw [List.getElem?_drop] at hu
    have := hcell (k + i) u hu
    rwa [← Nat.add_assoc] at this
set_option maxHeartbeats 1000000 in
theorem eknown_any {w : World} {p k t : Nat} {L : List RowL} {v : Value} {i : Int} (h : Sys w p k t L v) (z1 : -9223372036854775808 ≤ i) (z2 : i ≤ 9223372036854775807) :
    Calls Try.prog 39 #[.pointer (some ⟨p, 0, none⟩), .int .i64 i] w (KnownEnds (knownL L i) w) := by
  obtain ⟨A, c, rfl⟩ : ∃ A c, v = .slice A L.length c := by
    obtain ⟨_, ⟨xs, h2, _⟩, _⟩ := h
    obtain ⟨A, c, e, _⟩ := h2.val
    exact ⟨A, c, e⟩
  have HG := Lib.hid h.2.2.1
  have hqle := place_le L i
  go_enter Try.func39, Try.ntmps39
  go_wp2_with fail
  refine (eplace_any h z1 z2).mono ?_
  rintro e w1 ⟨rfl, kb⟩
  have HS := h.step kb
  obtain ⟨s0, s1, s2, _, _, _⟩ := cells3 HS.1
  by_cases hq : placeL L i = L.length
  · have HK := Lib.hid (show knownL L i = none by unfold knownL; rw [if_pos hq])
    rw [hq]
    clear hq hqle h
    go_wp2_with fail
    go_ret2
    rw [HK.out]
    exact ⟨rfl, kb⟩
  · have hlt : placeL L i < L.length := by omega
    obtain ⟨R, cap, A1, n1, c1, A2, n2, c2, e, hR, k0, k1, k2, ro, hroom⟩ := HS.at_room hlt
    injection e with e1 _ e3
    subst e1 e3
    have hmem : L[placeL L i]?.getD ([], []) ∈ L := by rw [List.getElem?_eq_getElem hlt]; exact List.getElem_mem _
    obtain ⟨g1, g2, g3⟩ := HG.out.1 _ hmem
    have lb := lead_bounds (L[placeL L i]?.getD ([], [])).1
    have HK : Hid (knownL L i = if leadI (L[placeL L i]?.getD ([], [])).1 ≠ i then none
      else if zeroB ((L[placeL L i]?.getD ([], [])).1.drop (i.toNat + 1)) then some (L[placeL L i]?.getD ([], [])).2 else none) := Lib.hid (by unfold knownL; rw [if_neg hq])
    have hne : ((placeL L i : Nat) : Int) ≠ (L.length : Int) := by omega
    generalize L[placeL L i]?.getD ([], []) = o at *
    generalize placeL L i = q at *
    obtain ⟨p1, p2, l1, l2⟩ := ro.parts
    have hol := p1.1
    have hlen := h.len
    have hk := h.2.2.2.2.2.1
    by_cases hi : leadI o.1 = i
    · obtain ⟨m, rfl⟩ : ∃ m : Nat, i = (m : Int) := ⟨i.toNat, by omega⟩
      rw [if_neg (by simpa using hi)] at HK
      rw [hi] at k2 lb g3
      have hT := p1.tail_ (k := m + 1) (c := c1) (by omega) hroom
      have hm1 : m + 1 ≤ n1 := by omega
      clear HG hmem g1 g2 hq p1 h
      have HZ : Hid (knownL L (m : Int) = if zeroB (o.1.drop (m + 1)) = true then some o.2 else none) := Lib.hid (by rw [HK.out]; simp)
      clear HK hol
      go_wp2_with fail
      all_goals
        have h2 : Rd w1 w1.heap.size _ (n1 - (m + 1)) (o.1.drop (m + 1)) := hT
        first
        | (rw [if_pos (by assumption : c1 = m + 1)] at hT)
        | (simp only [if_neg (by assumption : ¬ c1 = m + 1), Nat.mul_one, Addr.add] at hT)
        clear h2
        refine (vzero_any hT (by omega)).mono ?_
        rintro e w' ⟨rfl, rfl⟩
        clear hT
        cases hzz : zeroB (o.1.drop (m + 1))
        · have HY : Hid (knownL L (m : Int) = none) := Lib.hid (by rw [HZ.out, hzz]; rfl)
          clear hzz HZ
          go_wp2_with fail
          go_ret2
          rw [HY.out]
          exact ⟨rfl, kb⟩
        · have HY : Hid (knownL L (m : Int) = some o.2) := Lib.hid (by rw [HZ.out, hzz]; rfl)
          clear hzz HZ
          go_wp2_with fail
          refine (clone_any p2 (Nat.le_refl _) (by omega)).mono ?_
          rintro e w2 ⟨A3, c3, rfl, r3, b3⟩
          have kb3 := bstep kb b3
          clear s0 s1 s2 k0 k1 k2 b3
          go_wp2_with fail
          go_ret2
          rw [HY.out]
          exact ⟨⟨_, _, _, rfl, r3⟩, kb3⟩
    · replace HK := Lib.hid (HK.out.trans (if_pos hi))
      clear HG hmem g1 g2 hq p1 p2 h
      go_wp2_with fail
      go_ret2
      rw [HK.out]
      exact ⟨rfl, kb⟩
end Go.Proofs.Ytilelmejpbnbnaa
