import Derived.Test.YtaidbcppecoenaaElimC
import Derived.Test.YtaidbcppecoenaaElimF
import Derived.Test.YtaidbcppecoenaaGridF
import Derived.Test.YtaidbcppecoenaaR07A
/- Package elim: Known. -/
namespace Go.Proofs.Ytaidbcppecoenaa
open Go.RowKit
set_option linter.unusedVariables false
set_option maxRecDepth 100000

/-- A symbol, if a row tells it alone. -/
def knownL (L : List RowL) (i : Int) : Option (List UInt8) :=
  if placeL L i = L.length then none
  else if leadI (L[placeL L i]?.getD ([], [])).1 ≠ i then none
  else if zeroB ((L[placeL L i]?.getD ([], [])).1.drop (i.toNat + 1)) then some (L[placeL L i]?.getD ([], [])).2 else none
def KnownEnds (x : Option (List UInt8)) (w : World) (e : Ending) (w' : World) : Prop :=
  (match x with
    | none => e = .returned (.tuple #[.slice none 0 0, .bool false])
    | some us => ∃ A n c, e = .returned (.tuple #[.slice A n c, .bool true]) ∧ Rd w' w'.heap.size A n us) ∧ Below w.heap.size w w'
theorem Rd.tail_ {w : World} {B n c k : Nat} {A : Option Addr} {us : List UInt8} (h : Rd w B A n us) (hk : k ≤ n) (hc : n ≤ c) : Rd w B (if c = k then A else A.map (·.add (k * 1))) (n - k) (us.drop k) := by
  have hl := h.1
  refine ⟨by simp; omega, fun hp => ?_⟩
  obtain ⟨b, off, e, hb, hcell⟩ := h.2 (by omega)
  refine ⟨b, off + k, ?_, hb, fun i u hu => ?_⟩
  · rw [if_neg (by omega), e, Option.map_some, Nat.mul_one]
    simp [Addr.add]
  · rw [List.getElem?_drop] at hu
    have := hcell (k + i) u hu
    rwa [← Nat.add_assoc] at this
set_option maxHeartbeats 1000000 in
theorem eknown_any {w : World} {p k t : Nat} {L : List RowL} {v : Value} {i : Int} (h : Sys w p k t L v) (z1 : -9223372036854775808 ≤ i) (z2 : i ≤ 9223372036854775807) :
    Calls Try.prog 39 #[.pointer (some ⟨p, 0, none⟩), .int .i64 i] w (KnownEnds (knownL L i) w) := by
  obtain ⟨A, c, rfl⟩ : ∃ A c, v = .slice A L.length c := by
    obtain ⟨_, ⟨xs, h2, _⟩, _⟩ := h
    obtain ⟨A, c, e, _⟩ := h2.val
    exact ⟨A, c, e⟩
  have HG := Lib.hid h.2.2.1
  have hqle := place_le L i
  go_enter Try.func39, Try.ntmps39
  go_wp2_with fail
  refine (eplace_any h z1 z2).mono ?_
  rintro e w1 ⟨rfl, kb⟩
  have HS := h.step kb
  obtain ⟨s0, s1, s2, _, _, _⟩ := cells3 HS.1
  by_cases hq : placeL L i = L.length
  · have HK := Lib.hid (show knownL L i = none by unfold knownL; rw [if_pos hq])
    rw [hq]
    clear hq hqle h
    go_wp2_with fail
    go_ret2
    rw [HK.out]
    exact ⟨rfl, kb⟩
  · have hlt : placeL L i < L.length := by omega
    obtain ⟨R, cap, A1, n1, c1, A2, n2, c2, e, hR, k0, k1, k2, ro, hroom⟩ := HS.at_room hlt
    injection e with e1 _ e3
    subst e1 e3
    have hmem : L[placeL L i]?.getD ([], []) ∈ L := by rw [List.getElem?_eq_getElem hlt]; exact List.getElem_mem _
    obtain ⟨g1, g2, g3⟩ := HG.out.1 _ hmem
    have lb := lead_bounds (L[placeL L i]?.getD ([], [])).1
    have HK : Hid (knownL L i = if leadI (L[placeL L i]?.getD ([], [])).1 ≠ i then none
      else if zeroB ((L[placeL L i]?.getD ([], [])).1.drop (i.toNat + 1)) then some (L[placeL L i]?.getD ([], [])).2 else none) := Lib.hid (by unfold knownL; rw [if_neg hq])
    have hne : ((placeL L i : Nat) : Int) ≠ (L.length : Int) := by omega
    generalize L[placeL L i]?.getD ([], []) = o at *
    generalize placeL L i = q at *
    obtain ⟨p1, p2, l1, l2⟩ := ro.parts
    have hol := p1.1
    have hlen := h.len
    have hk := h.2.2.2.2.2.1
    by_cases hi : leadI o.1 = i
    · obtain ⟨m, rfl⟩ : ∃ m : Nat, i = (m : Int) := ⟨i.toNat, by omega⟩
      rw [if_neg (by simpa using hi)] at HK
      rw [hi] at k2 lb g3
      have hT := p1.tail_ (k := m + 1) (c := c1) (by omega) hroom
      have hm1 : m + 1 ≤ n1 := by omega
      clear HG hmem g1 g2 hq p1 h
      have HZ : Hid (knownL L (m : Int) = if zeroB (o.1.drop (m + 1)) = true then some o.2 else none) := Lib.hid (by rw [HK.out]; simp)
      clear HK hol
      go_wp2_with fail
      all_goals
        have h2 : Rd w1 w1.heap.size _ (n1 - (m + 1)) (o.1.drop (m + 1)) := hT
        first
        | (rw [if_pos (by assumption : c1 = m + 1)] at hT)
        | (simp only [if_neg (by assumption : ¬ c1 = m + 1), Nat.mul_one, Addr.add] at hT)
        clear h2
        refine (vzero_any hT (by omega)).mono ?_
        rintro e w' ⟨rfl, rfl⟩
        clear hT
        cases hzz : zeroB (o.1.drop (m + 1))
        · have HY : Hid (knownL L (m : Int) = none) := Lib.hid (by rw [HZ.out, hzz]; rfl)
          clear hzz HZ
          go_wp2_with fail
          go_ret2
          rw [HY.out]
          exact ⟨rfl, kb⟩
        · have HY : Hid (knownL L (m : Int) = some o.2) := Lib.hid (by rw [HZ.out, hzz]; rfl)
          clear hzz HZ
          go_wp2_with fail
          refine (clone_any p2 (Nat.le_refl _) (by omega)).mono ?_
          rintro e w2 ⟨A3, c3, rfl, r3, b3⟩
          have kb3 := bstep kb b3
          clear s0 s1 s2 k0 k1 k2 b3
          go_wp2_with fail
          go_ret2
          rw [HY.out]
          exact ⟨⟨_, _, _, rfl, r3⟩, kb3⟩
    · replace HK := Lib.hid (HK.out.trans (if_pos hi))
      clear HG hmem g1 g2 hq p1 p2 h
      go_wp2_with fail
      go_ret2
      rw [HK.out]
      exact ⟨rfl, kb⟩
end Go.Proofs.Ytaidbcppecoenaa

/- Package elim: Solve. -/
namespace Go.Proofs.Ytaidbcppecoenaa
open Go.RowKit
set_option linter.unusedVariables false
set_option maxRecDepth 100000

theorem esolve_wait {w : World} {p k t : Nat} {L : List RowL} {v : Value} (h : Sys w p k t L v) (hlt : L.length < k) :
    Calls Try.prog 46 #[.pointer (some ⟨p, 0, none⟩)] w fun e w' => e = .returned (.tuple #[.slice none 0 0, .int .i64 12]) ∧ Below w.heap.size w w' := by
  obtain ⟨A, c, rfl⟩ : ∃ A c, v = .slice A L.length c := by
    obtain ⟨_, ⟨xs, h2, _⟩, _⟩ := h
    obtain ⟨A, c, e, _⟩ := h2.val
    exact ⟨A, c, e⟩
  obtain ⟨s0, s1, s2, _, _, _⟩ := cells3 h.1
  have hz : (L.length : Int) < (k : Int) := by omega
  clear h
  go_enter Try.func46, Try.ntmps46
  go_wp2_with fail
  go_quiet (fail)
  go_wp2_with fail
  go_ret2
  exact ⟨rfl, below_drewN (Below.refl _ _) nq⟩
set_option maxHeartbeats 1000000 in
theorem esolve_full {w : World} {p k t : Nat} {L : List RowL} {v : Value} (h : Sys w p k t L v) (hl : L.length = k) :
    Calls Try.prog 46 #[.pointer (some ⟨p, 0, none⟩)] w fun e w' => ∃ g, e = .returned (.tuple #[.slice (some ⟨g, 0, none⟩) k k, .int .i64 0]) ∧ Filled w' g k (L.map (·.2)) ∧ w.heap.size ≤ g ∧ Below w.heap.size w w' := by
  obtain ⟨A, c, rfl⟩ : ∃ A c, v = .slice A L.length c := by
    obtain ⟨_, ⟨xs, h2, _⟩, _⟩ := h
    obtain ⟨A, c, e, _⟩ := h2.val
    exact ⟨A, c, e⟩
  obtain ⟨s0, s1, s2, _, _, _⟩ := cells3 h.1
  have hz : ¬ ((L.length : Int) < (k : Int)) := by omega
  have hk := h.2.2.2.2.2.1
  have HL := Lib.hid hl
  have HS := Lib.hid fun W (hW : Below w.heap.size w W) => h.step hW
  clear h
  go_enter Try.func46, Try.ntmps46
  go_wp2_with fail
  go_quiet (fail)
  have kq : Below w.heap.size w (w.drewN nq) := below_drewN (Below.refl _ _) nq
  have hS0 := HS.out _ kq
  have hz0 := kq.size
  generalize w.drewN nq = V at *
  have hmk := make_rows k (by omega) V
  have hF := Filled.new V k
  have hb1 := bstep kq (balloc V (.cells (nils k).toArray 52))
  clear s0 s1 s2
  obtain ⟨s0, s1, s2, _, _, _⟩ := cells3 hS0.1
  have hS1 := HS.out _ hb1
  obtain ⟨f0, f1, f2, _, _, _⟩ := cells3 hS1.1
  have hgd : ∀ q, Its p (.slice A L.length c) q → q < w.heap.size := (HS.out _ (Below.refl _ _)).lt
  have HD := Lib.hid hgd
  rw [hl] at hz s2 f2
  clear hgd hS0 hS1
  go_wp2_with fail
  clear hmk s0 s1 s2 f0 f1 f2
  go_loopw [31] (fun i wr => ∃ j : Nat, j ≤ k ∧ i = .int .i64 j ∧ Filled wr V.heap.size k ((L.map (·.2)).take j) ∧ Below w.heap.size w wr) (fun i _ => k - (intOf i).toNat)
  case atStart => exact ⟨0, by omega, rfl, hF, hb1⟩
  case round =>
    clear hF hb1 kq
    obtain ⟨j, hj, rfl, hF, hb⟩ := hrel
    by_cases hlt : j < k
    · have hS := HS.out _ hb
      obtain ⟨R, cap, A5, n5, c5, A6, n6, c6, e, hR, k0, k1, k2, r5⟩ := hS.at_ (j := j) (by rw [HL.out]; exact hlt)
      injection e with e1 _ e3
      subst e1 e3
      have Ht : Hid ((L.map (·.2)).take j ++ [(L[j]?.getD ([], [])).2] = (L.map (·.2)).take (j + 1)) := Lib.hid (by
        have := take_get (l := L.map (·.2)) (k := j) [] (by rw [List.length_map, HL.out]; exact hlt)
        rw [← this]
        congr 2
        rw [List.getElem?_map, List.getElem?_eq_getElem (by rw [HL.out]; exact hlt)]
        rfl)
      have Hk : Hid (((L.map (·.2)).take j).length = j) := Lib.hid (by rw [List.length_take, List.length_map, HL.out]; omega)
      generalize L[j]?.getD ([], []) = o at *
      have hzl : (j : Int) < (k : Int) := by omega
      have b6 := Blk.new wr 102 #[.slice A5 n5 c5, .slice A6 n6 c6, .int .i64 (leadI o.1)]
      have k6 := balloc wr (.cells #[.slice A5 n5 c5, .slice A6 n6 c6, .int .i64 (leadI o.1)] 102)
      obtain ⟨_, q2, _, l6⟩ := (r5.step k6).parts
      replace hF := hF.step k6
      replace hb := bstep hb k6
      obtain ⟨d0, d1, d2, _, _, _⟩ := cells3 b6
      clear hS r5 k6
      go_wp2_with fail
      generalize wr.alloc (.cells #[.slice A5 n5 c5, .slice A6 n6 c6, .int .i64 (leadI o.1)] 102) = W at *
      refine (clone_any q2 (Nat.le_refl _) (by omega)).mono ?_
      rintro e w1 ⟨A7, c7, rfl, r7, b7⟩
      have Hu : Hid (o.2.length = n6) := Lib.hid q2.1
      replace hF := hF.step b7
      replace hb := bstep hb b7
      clear b7 q2 k0 k1 k2 d0 d1 d2 b6
      obtain ⟨⟨A9, m9, c9, hcell⟩, hfz⟩ := hF.cell hlt
      have HP := Lib.hid (hF.put (c := c7) Hk.out hlt Hu.out r7)
      rw [Ht.out] at HP
      have HB := Lib.hid (hb.setCell (p := (⟨V.heap.size, j, none⟩ : Addr)) hz0 (.slice A7 n6 c7))
      clear r7 hF hb
      go_wp2_with fail
      go_roundw
      case rel => exact ⟨j + 1, by omega, by go_num, HP.out, HB.out⟩
      case measure => simp [intOf]; omega
    · obtain rfl : j = k := by omega
      have hlm : (L.map (·.2)).take j = L.map (·.2) := List.take_of_length_le (by rw [List.length_map, HL.out]; exact Nat.le_refl _)
      rw [hlm] at hF
      clear hlm hlt
      go_wp2_with fail
      go_ret2
      exact ⟨_, rfl, hF, hz0, hb⟩
end Go.Proofs.Ytaidbcppecoenaa

/- Package elim: Rows. -/
namespace Go.Proofs.Ytaidbcppecoenaa
open Go.RowKit
set_option linter.unusedVariables false
set_option maxRecDepth 100000

/-- Block g has room for n rows, and is filled from the front with these. -/
def FilledR (w : World) (g n : Nat) (L : List RowL) : Prop :=
  ∃ cs : List Value, cs.length = n * 2 ∧ Blk w g 58 cs.toArray ∧ (∀ v ∈ cs, IsSl v) ∧ ∀ i r, L[i]? = some r → ∃ A1 n1 c1 A2 n2 c2,
    cs[i * 2]? = some (.slice A1 n1 c1) ∧ cs[i * 2 + 1]? = some (.slice A2 n2 c2) ∧ RowIs w r (.agg #[.slice A1 n1 c1, .slice A2 n2 c2])
theorem FilledR.new (w : World) (n : Nat) : FilledR (w.alloc (.cells (nilRows n).toArray 58)) w.heap.size n [] := by
  refine ⟨nilRows n, by simp [nilRows], Blk.new _ _ _, ?_, fun i r hi => by simp at hi⟩
  intro v hv
  simp only [nilRows, List.mem_replicate] at hv
  exact ⟨_, _, _, hv.2⟩
theorem FilledR.step {w w' : World} {g n : Nat} {L : List RowL} (h : FilledR w g n L) (hb : Below w.heap.size w w') : FilledR w' g n L := by
  obtain ⟨cs, h1, h2, h3, h4⟩ := h
  refine ⟨cs, h1, h2.below hb h2.lt, h3, fun i r hi => ?_⟩
  obtain ⟨A1, n1, c1, A2, n2, c2, e1, e2, e3⟩ := h4 i r hi
  exact ⟨A1, n1, c1, A2, n2, c2, e1, e2, e3.step hb⟩
theorem FilledR.cell {w : World} {g n k : Nat} {L : List RowL} (h : FilledR w g n L) (hk : k < n) : (∃ A m c, w.cell? ⟨g, k * 2, none⟩ = some (.slice A m c)) ∧ (∃ A m c, w.cell? ⟨g, k * 2 + 1, none⟩ = some (.slice A m c)) ∧ w.frozen? ⟨g, k * 2, none⟩ = false ∧ w.frozen? ⟨g, k * 2 + 1, none⟩ = false := by
  obtain ⟨cs, h1, h2, h3, _⟩ := h
  have hc : ∀ j, j < cs.length → ∃ A m c, w.cell? ⟨g, j, none⟩ = some (.slice A m c) := fun j hj => by
    obtain ⟨A, m, c, e⟩ := h3 cs[j] (List.getElem_mem _)
    exact ⟨A, m, c, by rw [h2.cell, List.getElem?_toArray, List.getElem?_eq_getElem hj, e]⟩
  exact ⟨hc _ (by omega), hc _ (by omega), h2.frozen _, h2.frozen _⟩
theorem FilledR.put {w : World} {g n k n1 c1 n2 c2 : Nat} {A1 A2 : Option Addr} {L : List RowL} {r : RowL} (h : FilledR w g n L) (hl : L.length = k) (hk : k < n) (hr : RowIs w r (.agg #[.slice A1 n1 c1, .slice A2 n2 c2])) :
    FilledR ((w.setCell ⟨g, k * 2, none⟩ (.slice A1 n1 c1)).setCell ⟨g, k * 2 + 1, none⟩ (.slice A2 n2 c2)) g n (L ++ [r]) := by
  obtain ⟨cs, h1, h2, h3, h4⟩ := h
  refine ⟨(cs.set (k * 2) (.slice A1 n1 c1)).set (k * 2 + 1) (.slice A2 n2 c2), by simpa using h1, ?_, ?_, fun i x hi => ?_⟩
  · have := (h2.set (k * 2) (.slice A1 n1 c1)).set (k * 2 + 1) (.slice A2 n2 c2)
    simpa using this
  · intro v hv
    rcases List.mem_or_eq_of_mem_set hv with hv | rfl
    · rcases List.mem_or_eq_of_mem_set hv with hv | rfl
      · exact h3 v hv
      · exact ⟨_, _, _, rfl⟩
    · exact ⟨_, _, _, rfl⟩
  · by_cases hik : i = k
    · subst hik
      rw [List.getElem?_append_right (by omega), hl, Nat.sub_self] at hi
      injection hi with hi
      subst hi
      refine ⟨A1, n1, c1, A2, n2, c2, ?_, ?_, hr.setTwo h2 (NoBytes.sl h3)⟩
      · rw [List.getElem?_set_ne (by omega), List.getElem?_set_self (by omega)]
      · rw [List.getElem?_set_self (by simp; omega)]
    · have hlt : i < L.length := by
        have := (List.getElem?_eq_some_iff.1 hi).1
        rw [List.length_append, List.length_singleton] at this
        omega
      rw [List.getElem?_append_left hlt] at hi
      obtain ⟨B1, m1, d1, B2, m2, d2, e1, e2, e3⟩ := h4 i x hi
      refine ⟨B1, m1, d1, B2, m2, d2, ?_, ?_, e3.setTwo h2 (NoBytes.sl h3)⟩
      · rw [List.getElem?_set_ne (by omega), List.getElem?_set_ne (by omega)]; exact e1
      · rw [List.getElem?_set_ne (by omega), List.getElem?_set_ne (by omega)]; exact e2
theorem FilledR.rl {w : World} {g n : Nat} {L : List RowL} (h : FilledR w g n L) (hn : L.length = n) : RL w w.heap.size (some ⟨g, 0, none⟩) n L := by
  obtain ⟨cs, h1, h2, h3, h4⟩ := h
  refine ⟨hn.symm, fun _ => ⟨g, 0, rfl, h2.lt, h2.lt, fun i r hi => ?_⟩⟩
  obtain ⟨A1, n1, c1, A2, n2, c2, e1, e2, e3⟩ := h4 i r hi
  exact ⟨A1, n1, c1, A2, n2, c2, by rw [Nat.zero_add, h2.cell]; simpa using e1, by rw [Nat.zero_add, h2.cell]; simpa using e2, e3⟩
theorem make_vrows (n : Nat) (hn : n ≤ 65536) (w : World) : (Instr.makeSlice 76 (.int .i64 (n : Int)) (.int .i64 (n : Int))).run Try.prog w =
    .ok (.slice (some ⟨w.heap.size, 0, none⟩) n n) (w.alloc (.cells (nilRows n).toArray 58)) := by
  obtain ⟨i0, hi0, hz0, hz1, hz2⟩ := info_parts vrow_info
  have h := run_make (P := Try.prog) w 76 58 i0 _ Try.underlying76 hi0 hz0 .i64 .i64 (n : Int) (n : Int) (by omega) (Int.le_refl _) (by rw [hz2]; omega) (by omega)
  rw [h]
  simp only [Int.toNat_natCast, hz1]
  have e : madeCells (Value.agg #[.slice none 0 0, .slice none 0 0]).cells (n * 2) = (nilRows n).toArray := by
    apply Array.ext'
    simp only [Value.cells]
    exact madeCells_two _ _
  rw [e]
set_option maxHeartbeats 1000000 in
theorem erows_any {w : World} {p k t : Nat} {L : List RowL} {v : Value} (h : Sys w p k t L v) :
    Calls Try.prog 43 #[.pointer (some ⟨p, 0, none⟩)] w fun e w' => ∃ g, e = .returned (.slice (some ⟨g, 0, none⟩) L.length L.length) ∧ RL w' w'.heap.size (some ⟨g, 0, none⟩) L.length L ∧ w.heap.size ≤ g ∧ Below w.heap.size w w' := by
  obtain ⟨A, c, rfl⟩ : ∃ A c, v = .slice A L.length c := by
    obtain ⟨_, ⟨xs, h2, _⟩, _⟩ := h
    obtain ⟨A, c, e, _⟩ := h2.val
    exact ⟨A, c, e⟩
  obtain ⟨s0, s1, s2, _, _, _⟩ := cells3 h.1
  have hk := h.2.2.2.2.2.1
  have hlk := h.len
  have hmk := make_vrows L.length (by omega) w
  have HS := Lib.hid fun W (hW : Below w.heap.size w W) => h.step hW
  have hF := FilledR.new w L.length
  have hb1 := balloc w (.cells (nilRows L.length).toArray 58)
  obtain ⟨f0, f1, f2, _, _, _⟩ := cells3 (HS.out _ hb1).1
  clear h
  go_enter Try.func43, Try.ntmps43
  go_wp2_with fail
  clear hmk s0 s1 s2 f0 f1 f2
  go_loopw [19] (fun i wr => ∃ j : Nat, j ≤ L.length ∧ i = .int .i64 j ∧ FilledR wr w.heap.size L.length (L.take j) ∧ Below w.heap.size w wr) (fun i _ => L.length - (intOf i).toNat)
  case atStart => exact ⟨0, by omega, rfl, hF, hb1⟩
  case round =>
    clear hF hb1
    obtain ⟨j, hj, rfl, hF, hb⟩ := hrel
    by_cases hlt : j < L.length
    · have hS := HS.out _ hb
      obtain ⟨R, cap, A5, n5, c5, A6, n6, c6, e, hR, k0, k1, k2, r5⟩ := hS.at_ hlt
      injection e with e1 _ e3
      subst e1 e3
      have Ht : Hid (L.take j ++ [L[j]?.getD ([], [])] = L.take (j + 1)) := Lib.hid (take_get _ hlt)
      have Hk : Hid ((L.take j).length = j) := Lib.hid (by rw [List.length_take]; omega)
      generalize L[j]?.getD ([], []) = o at *
      have hzl : (j : Int) < (L.length : Int) := by omega
      have b6 := Blk.new wr 102 #[.slice A5 n5 c5, .slice A6 n6 c6, .int .i64 (leadI o.1)]
      have k6 := balloc wr (.cells #[.slice A5 n5 c5, .slice A6 n6 c6, .int .i64 (leadI o.1)] 102)
      have r6 := r5.step k6
      replace hF := hF.step k6
      replace hb := bstep hb k6
      obtain ⟨d0, d1, d2, _, _, _⟩ := cells3 b6
      clear hS r5 k6
      go_wp2_with fail
      generalize wr.alloc (.cells #[.slice A5 n5 c5, .slice A6 n6 c6, .int .i64 (leadI o.1)] 102) = W at *
      refine (c_clone r6).mono ?_
      rintro e w1 ⟨x7, rfl, ⟨A7, n7, c7, A8, n8, c8, rfl, q7, q8, l7, l8⟩, b7⟩
      have r7 : RowIs w1 o (.agg #[.slice A7 n7 c7, .slice A8 n8 c8]) := RowIs.mk q7 q8 l7 l8
      replace hF := hF.step b7
      replace hb := bstep hb b7
      clear b7 r6 k0 k1 k2 d0 d1 d2 b6 q7 q8
      obtain ⟨⟨A9, m9, c9, hcell⟩, ⟨A10, m10, c10, hcell2⟩, hfz, hfz2⟩ := hF.cell hlt
      have HP := Lib.hid (hF.put Hk.out hlt r7)
      rw [Ht.out] at HP
      have HB := Lib.hid ((hb.setCell (p := (⟨w.heap.size, j * 2, none⟩ : Addr)) (Nat.le_refl _) (.slice A7 n7 c7)).setCell (p := (⟨w.heap.size, j * 2 + 1, none⟩ : Addr)) (Nat.le_refl _) (.slice A8 n8 c8))
      clear r7 hF hb
      go_wp2_with fail
      go_roundw
      case rel => exact ⟨j + 1, by omega, by go_num, HP.out, HB.out⟩
      case measure => simp [intOf]; omega
    · obtain rfl : j = L.length := by omega
      rw [List.take_length] at hF
      clear hlt
      go_wp2_with fail
      go_ret
      exact ⟨_, rfl, hF.rl rfl, Nat.le_refl _, hb⟩
end Go.Proofs.Ytaidbcppecoenaa

/- Package elim: slices.Clone of steps. -/
namespace Go.Proofs.Ytaidbcppecoenaa
open Go.RowKit
set_option linter.unusedVariables false
set_option maxRecDepth 100000

end Go.Proofs.Ytaidbcppecoenaa

