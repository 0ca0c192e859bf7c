import Derived.Test.YtilelmejpbnbnaaR07E
import Derived.Test.YtilelmejpbnbnaaSysM
import Derived.Test.YtilelmejpbnbnaaL07D
import Derived.Test.YtilelmejpbnbnaaDetM
import Derived.Test.YtilelmejpbnbnaaCaps
/- The document's determinant. -/
namespace Go.Proofs.Ytilelmejpbnbnaa
open Go.RowKit
set_option linter.unusedVariables false
set_option maxRecDepth 100000

/-- Rows without the first one, and without a place. -/
def outL (rows : List (List UInt8)) (i : Nat) : List (List UInt8) := rows.tail.map fun r => r.take i ++ r.drop (i + 1)
theorem outL_len (rows : List (List UInt8)) (i : Nat) : (outL rows i).length = rows.length - 1 := by simp [outL]
def detL : Nat → List (List UInt8) → UInt8
  | 0, _ => 1
  | n + 1, rows => xs (fun i => gm ((rows[0]?.getD [])[i]?.getD 0) (detL n (outL rows i))) (n + 1)
theorem outL_lenB {n i : Nat} {rows : List (List UInt8)} (h : lenB (n + 1) rows = true) (hi : i < n + 1) : lenB n (outL rows i) = true := by
  unfold lenB outL
  rw [List.all_eq_true]
  intro r hr
  obtain ⟨s, hs, rfl⟩ := List.mem_map.1 hr
  have := List.all_eq_true.1 h s (List.mem_of_mem_tail hs)
  simp at this ⊢
  omega
theorem mt_out_minor {n i r c : Nat} {rows : List (List UInt8)} (h : lenB (n + 1) rows = true) (hi : i < n + 1) : mt (outL rows i) r c = minor (mt rows) i r c := by
  unfold minor mt outL fn
  rw [List.getElem?_map, List.getElem?_tail]
  cases e : rows[r + 1]? with
  | none => simp
  | some s =>
    have hs : s.length = n + 1 := by
      have := List.all_eq_true.1 h s (List.mem_of_getElem? e)
      simpa using this
    show (s.take i ++ s.drop (i + 1))[c]?.getD 0 = s[skip i c]?.getD 0
    unfold skip
    by_cases hc : c < i
    · rw [if_pos hc, List.getElem?_append_left (by simp; omega), List.getElem?_take, if_pos hc]
    · rw [if_neg hc, List.getElem?_append_right (by simp; omega), List.getElem?_drop]
      congr 2
      simp
      omega
theorem detL_dt {n : Nat} : ∀ {rows : List (List UInt8)}, lenB n rows = true → rows.length = n → detL n rows = dt n (mt rows) := by
  induction n with
  | zero => intros; rfl
  | succ n ih =>
    intro rows h hl
    rw [dt_succ]
    show xs (fun i => gm ((rows[0]?.getD [])[i]?.getD 0) (detL n (outL rows i))) (n + 1) = _
    refine xs_congr fun i hi => ?_
    rw [ih (outL_lenB h hi) (by rw [outL_len]; omega), dt_congr fun r _ c _ => mt_out_minor (r := r) (c := c) h hi]
    rfl
/-- Rows with their room. -/
def RowsC (rows : List (List UInt8)) (w : World) (e : Ending) (w' : World) : Prop :=
  ∃ A n c, e = .returned (.slice A n c) ∧ Rds w' w'.heap.size A n rows ∧ Caps w' w'.heap.size A n ∧ n ≤ c ∧ c ≤ 9223372036854775807 ∧ Below w.heap.size w w'
theorem out_snoc {rows : List (List UInt8)} {i k : Nat} (hk : k + 1 < rows.length) : (outL rows i).take k ++ [(rows[k + 1]?.getD []).take i ++ (rows[k + 1]?.getD []).drop (i + 1)] = (outL rows i).take (k + 1) := by
  rw [← take_get [] (by rw [outL_len]; omega)]
  congr 2
  unfold outL
  rw [List.getElem?_map, List.getElem?_tail, List.getElem?_eq_getElem hk]
  rfl
theorem without_one {w : World} {b o c i : Nat} {rows : List (List UInt8)} (hn : rows.length = 1) (hc : 1 ≤ c) (hc2 : c ≤ 9223372036854775807) (hi : i ≤ 65536) :
    Calls Try.prog 59 #[.slice (some ⟨b, o, none⟩) 1 c, .int .i64 i] w (RowsC (outL rows i) w) := by
  have e : outL rows i = [] := List.eq_nil_of_length_eq_zero (by rw [outL_len, hn])
  rw [e]
  by_cases hc1 : c = 1
  · subst hc1
    go_enter Try.func59, Try.ntmps59
    go_wp2_with fail
    go_loop [5, 12] (fun v x => v = .slice none 0 0 ∧ x = .int .i64 0) (fun _ _ => 0)
    case atStart => exact ⟨rfl, rfl⟩
    case round =>
      obtain ⟨rfl, rfl⟩ := hrel
      go_wp2_with fail
      go_ret
      exact ⟨_, _, _, rfl, Rds.nil, Caps.nil, by omega, by omega, Below.refl _ _⟩
  · go_enter Try.func59, Try.ntmps59
    go_wp2_with fail
    go_loop [5, 12] (fun v x => v = .slice none 0 0 ∧ x = .int .i64 0) (fun _ _ => 0)
    case atStart => exact ⟨rfl, rfl⟩
    case round =>
      obtain ⟨rfl, rfl⟩ := hrel
      go_wp2_with fail
      go_ret
      exact ⟨_, _, _, rfl, Rds.nil, Caps.nil, by omega, by omega, Below.refl _ _⟩
set_option maxHeartbeats 600000 in
theorem without_more {B : Nat} {w : World} {b o n c i K : Nat} {rows : List (List UInt8)} (h : Rds w B (some ⟨b, o, none⟩) n rows) (hC : Caps w B (some ⟨b, o, none⟩) n) (hB : B ≤ w.heap.size) (h2 : 2 ≤ n) (hn : n ≤ 65536) (hc : n ≤ c) (hc2 : c ≤ 9223372036854775807) (hl : lenB K rows = true) (hK : K ≤ 65536) (hi : i < K) :
    Calls Try.prog 59 #[.slice (some ⟨b, o, none⟩) n c, .int .i64 i] w (RowsC (outL rows i) w) := by
  have HL := Lib.hid h.1
  have Hl := Lib.hid hl
  replace h := h.more hB
  replace hC := hC.more hB
  have hc1 : c ≠ 1 := by omega
  clear hl
  go_enter Try.func59, Try.ntmps59
  go_wp2_with fail
  go_loopw [5, 12] (fun v x wr => ∃ k : Nat, k + 1 ≤ n ∧ x = .int .i64 (k : Int) ∧ Was wr w.heap.size v ((outL rows i).take k) ∧ Below w.heap.size w wr) (fun _ x _ => n - (intOf x).toNat)
  case atStart => exact ⟨0, by omega, rfl, Was.nil _ _, Below.refl _ _⟩
  case round =>
    obtain ⟨wo, rfl⟩ : ∃ wo : World, wo = wr := ⟨_, rfl⟩
    obtain ⟨k, hk, rfl, hwas, hb⟩ := hrel
    have hz := hb.size
    by_cases hlt : k + 1 < n
    · obtain ⟨b1, o1, Ar, cr, e, hb1, hcell, hr1, hcr, hcr2⟩ := Caps.at_ (h.below hb) (hC.below hb) hlt
      injection e with e
      injection e with e1 e2 e3
      subst e1 e2
      clear e3
      have hlen := lenB_get Hl.out (k := k + 1) (by rw [HL.out]; exact hlt)
      rw [hlen] at hcell hr1 hcr
      have Hrow := Lib.hid hlen
      have HT := Lib.hid (out_snoc (rows := rows) (i := i) (k := k) (by rw [HL.out]; exact hlt))
      rw [show o + (k + 1) = o + 1 + k by omega] at hcell
      have t0 : k < n - 1 := by omega
      clear hlen
      generalize rows[k + 1]?.getD [] = row at *
      have HR1 : Hid (Rd wo wo.heap.size Ar i (row.take i)) := Lib.hid ((hr1.part_first (by omega)).more hz)
      obtain ⟨b2, o2, rfl, _, _⟩ := hr1.at_ (show 0 < K by omega)
      go_wp2_with (at_builtin; refine push_bytes rfl (.tmp 16) (.tmp 19) rfl wo.heap.size (.slice none 0 0) 0 [] rfl (World.ownsRow_nil _ _ _ _) (some ⟨b2, o2, none⟩) i _ (row.take i) rfl HR1.out (by omega) (Nat.le_refl _) ?_)
      intro v1 w1 hown1 hg1
      have hb1 := own_grown_below (World.ownsRow_nil wo wo.heap.size 5 1) hg1 (Nat.le_refl _)
      have hz1 := hb1.size
      clear hg1 hcell
      by_cases hci : cr = i + 1
      · have HR2 : Hid (Rd w1 w1.heap.size (some ⟨b2, o2, none⟩) (K - (i + 1)) (row.drop (i + 1))) := Lib.hid (by
          rw [show K - (i + 1) = 0 by omega]; exact Rd.part_none (by rw [Hrow.out]; omega))
        go_wp2_with (at_builtin; refine push_bytes rfl (.tmp 22) (.tmp 26) rfl wo.heap.size v1 i (row.take i) rfl hown1 (some ⟨b2, o2, none⟩) (K - (i + 1)) _ (row.drop (i + 1)) rfl HR2.out (by omega) hz1 ?_)
        intro v2 w2 hown2 hg2
        have hb2 := hb1.trans (own_grown_below hown1 hg2 hz1)
        have hz2 := hb2.size
        have Hk2 : Hid ((row.take i ++ row.drop (i + 1)).length = i + (K - (i + 1))) := Lib.hid (by rw [List.length_append, List.length_take, List.length_drop, Hrow.out]; omega)
        obtain ⟨A7, c7, rfl, hrd⟩ := Rd.of_own hown2
        have hwas2 := (hwas.below hb2).below (balloc w2 (.cells #[.slice A7 (i + (K - (i + 1))) c7] 52))
        have hown3 : (w2.alloc (.cells #[.slice A7 (i + (K - (i + 1))) c7] 52)).ownsRow w.heap.size 5 1 (.slice A7 (i + (K - (i + 1))) c7) (i + (K - (i + 1))) (bvs (row.take i ++ row.drop (i + 1))) := own_mono (hown2.alloc _) hz
        have hb3 := (hb.trans (hb2.mono hz)).alloc (Nat.le_trans hz hz2) (.cells #[.slice A7 (i + (K - (i + 1))) c7] 52)
        have hbs : w.heap.size ≤ (w2.alloc (.cells #[.slice A7 (i + (K - (i + 1))) c7] 52)).heap.size := by simp; omega
        have Hk1 : Hid (((outL rows i).take k).length = k) := Lib.hid (by rw [List.length_take, outL_len, HL.out]; omega)
        clear hrd hown2 hwas hown1 hg2 hb1
        go_wp2_with (at_builtin; refine push_row rfl (.tmp 21) (.tmp 28) rfl w.heap.size _ _ k (i + (K - (i + 1))) _ (row.take i ++ row.drop (i + 1)) rfl hwas2 Hk1.out Hk2.out hown3 w2.heap.size 1 rfl ?d1 ?d2 hbs ?_)
        case d1 => go_simp
        case d2 => omega
        intro v3 w3 hw3 hg3 hb4
        rw [HT.out] at hw3
        have hb5 := hb3.trans hb4
        clear hb3 hb4 hg3 hown3 hwas2
        go_wp2_with fail
        go_roundw
        case rel => exact ⟨k + 1, by omega, by go_num, hw3, hb5⟩
        case measure => simp [intOf]; omega
      · have HR2 : Hid (Rd w1 w1.heap.size (some ⟨b2, o2 + (i + 1), none⟩) (K - (i + 1)) (row.drop (i + 1))) := Lib.hid ((((hr1.more hz).below hb1).more hz1).part_last (by omega))
        go_wp2_with (at_builtin; refine push_bytes rfl (.tmp 22) (.tmp 26) rfl wo.heap.size v1 i (row.take i) rfl hown1 (some ⟨b2, o2 + (i + 1), none⟩) (K - (i + 1)) _ (row.drop (i + 1)) rfl HR2.out (by omega) hz1 ?_)
        intro v2 w2 hown2 hg2
        have hb2 := hb1.trans (own_grown_below hown1 hg2 hz1)
        have hz2 := hb2.size
        have Hk2 : Hid ((row.take i ++ row.drop (i + 1)).length = i + (K - (i + 1))) := Lib.hid (by rw [List.length_append, List.length_take, List.length_drop, Hrow.out]; omega)
        obtain ⟨A7, c7, rfl, hrd⟩ := Rd.of_own hown2
        have hwas2 := (hwas.below hb2).below (balloc w2 (.cells #[.slice A7 (i + (K - (i + 1))) c7] 52))
        have hown3 : (w2.alloc (.cells #[.slice A7 (i + (K - (i + 1))) c7] 52)).ownsRow w.heap.size 5 1 (.slice A7 (i + (K - (i + 1))) c7) (i + (K - (i + 1))) (bvs (row.take i ++ row.drop (i + 1))) := own_mono (hown2.alloc _) hz
        have hb3 := (hb.trans (hb2.mono hz)).alloc (Nat.le_trans hz hz2) (.cells #[.slice A7 (i + (K - (i + 1))) c7] 52)
        have hbs : w.heap.size ≤ (w2.alloc (.cells #[.slice A7 (i + (K - (i + 1))) c7] 52)).heap.size := by simp; omega
        have Hk1 : Hid (((outL rows i).take k).length = k) := Lib.hid (by rw [List.length_take, outL_len, HL.out]; omega)
        clear hrd hown2 hwas hown1 hg2 hb1
        go_wp2_with (at_builtin; refine push_row rfl (.tmp 21) (.tmp 28) rfl w.heap.size _ _ k (i + (K - (i + 1))) _ (row.take i ++ row.drop (i + 1)) rfl hwas2 Hk1.out Hk2.out hown3 w2.heap.size 1 rfl ?d1 ?d2 hbs ?_)
        case d1 => go_simp
        case d2 => omega
        intro v3 w3 hw3 hg3 hb4
        rw [HT.out] at hw3
        have hb5 := hb3.trans hb4
        clear hb3 hb4 hg3 hown3 hwas2
        go_wp2_with fail
        go_roundw
        case rel => exact ⟨k + 1, by omega, by go_num, hw3, hb5⟩
        case measure => simp [intOf]; omega
    · have e : (outL rows i).take k = outL rows i := List.take_of_length_le (by rw [outL_len, HL.out]; omega)
      have hkn : k = n - 1 := by omega
      have hz9 := hwas
      rw [e] at hz9
      obtain ⟨A7, c7, rfl, hrd⟩ := hz9.rds
      obtain ⟨hq1, hq2⟩ := hz9.caps
      have hcp := hz9.capsOf rfl
      clear e hwas
      go_wp2_with fail
      go_ret
      exact ⟨_, _, _, rfl, hrd, hcp, hq1, hq2, hb⟩
end Go.Proofs.Ytilelmejpbnbnaa
