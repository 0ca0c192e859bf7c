import Derived.Test.YthfbgcjfnpajjaaDoorNatI
import Derived.Laws.Tables
import Derived.Laws.Rows
import Derived.Laws.ResultCell
/- Texts: strings.TrimLeft at the digits, nat.isText. -/
namespace Go.Proofs.YthfbgcjfnpajjaaDoor
open Go.RowKit
set_option linter.unusedVariables false
set_option maxRecDepth 100000

/-- The cells of a set of bytes. -/
def setC (l : List UInt8) : Array Value := ((List.range 256).map fun c => Value.bool (l.contains (UInt8.ofNat c))).toArray
theorem setC_size (l : List UInt8) : (setC l).size = 256 := by simp [setC]
theorem setC_get (l : List UInt8) (c : UInt8) : (setC l)[c.toNat]? = some (.bool (l.contains c)) := by
  have := c.toNat_lt
  unfold setC
  rw [List.getElem?_toArray, List.getElem?_map, List.getElem?_range (by omega)]
  simp
theorem setC_one (l : List UInt8) : (setC l).all (·.oneCell') = true := by
  simp [setC, Value.oneCell']
theorem setC_add (l : List UInt8) (c : UInt8) : (setC l).setIfInBounds c.toNat (.bool true) = setC (l ++ [c]) := by
  have hc := c.toNat_lt
  apply Array.ext
  · simp [setC]
  · intro i h1 h2
    have hi : i < 256 := by simpa [setC] using h2
    simp only [setC, List.setIfInBounds_toArray, List.getElem_toArray, List.getElem_set, List.getElem_map, List.getElem_range]
    by_cases h : c.toNat = i
    · rw [if_pos h]
      have : UInt8.ofNat i = c := by rw [← h]; simp
      simp [this]
    · rw [if_neg h]
      have : ¬ UInt8.ofNat i = c := fun e => h (by rw [← e, UInt8.toNat_ofNat_of_lt' (by simpa using hi)])
      simp [this]
theorem zero_set (w : World) : (zeroValue 66).run Tryd.prog w = .ok (.agg (setC [])) w := by kernel_rfl
theorem set_info : (Tryd.prog.info? 66).map (·.size) = some 256 := by kernel_rfl
theorem bs_get {l : List UInt8} {k : Nat} (hk : k < l.length) (h : k < (bs l).size) : (bs l)[k]'h = l[k]?.getD 0 := by
  have h1 : (bs l)[k]'h = l[k] := by
    show (l.toArray)[k]'(by simpa using hk) = l[k]
    rfl
  have h2 : l[k]? = some l[k] := List.getElem?_eq_getElem hk
  rw [h1, h2]
  rfl
set_option maxHeartbeats 1000000 in
theorem set_any (l : List UInt8) (hl : ∀ c ∈ l, c.toNat < 128) (hn : l.length ≤ 9223372036854775807) (w : World) : Calls Tryd.prog 42 #[.string (bs l)] w fun e w' => e = .returned (.tuple #[.agg (setC l), .bool true]) ∧ Below w.heap.size w w' := by
  have hz := zero_set w
  have hsz := bs_size l
  have Hl := Lib.hid hl
  clear hl
  have hg0 := Lib.hid (Blk.new w 66 (setC []))
  have hb0 := balloc w (.cells (setC []) 66)
  go_enter Tryd.func42, Tryd.ntmps42
  go_wp2_with fail
  clear hz
  go_loopw [4] (fun i wr => ∃ k : Nat, k ≤ l.length ∧ i = .int .i64 k ∧ Hid (Blk wr w.heap.size 66 (setC (l.take k))) ∧ Below w.heap.size w wr) (fun i _ => l.length - (intOf i).toNat)
  case atStart => exact ⟨0, by omega, rfl, hg0, hb0⟩
  case round =>
    clear hg0 hb0
    obtain ⟨k, hk, rfl, HG, hb⟩ := hrel
    have hgl := HG.out.lt
    by_cases hlt : k < l.length
    · have hix := fun h => bs_get hlt h
      have hc128 : (l[k]?.getD 0).toNat < 128 := by
        have : l[k]?.getD 0 = l[k] := by simp [hlt]
        rw [this]; exact Hl.out _ (List.getElem_mem _)
      have Hs : Hid (setC (l.take k ++ [l[k]?.getD 0]) = setC (l.take (k + 1))) := Lib.hid (by
        rw [List.take_add_one]; simp [hlt])
      generalize l[k]?.getD 0 = c at *
      have hcell := HG.out.cell c.toNat
      rw [setC_get] at hcell
      have hfz := HG.out.frozen c.toNat
      have hci : ((c.toNat : Int)) < 128 := by omega
      have hc256 : c.toNat < 256 := by omega
      clear hc128
      go_wp2_with fail
      have G1 := HG.out.set c.toNat (.bool true)
      rw [setC_add, Hs.out] at G1
      have HG1 := Lib.hid G1
      clear G1
      go_roundw
      case rel => exact ⟨k + 1, by omega, by go_num, HG1, hb.setCell (Nat.le_refl _) _⟩
      case measure => simp [intOf]; omega
    · obtain rfl : k = l.length := by omega
      have hG := HG.out
      rw [List.take_length] at hG
      have hi : (Tryd.prog.info? 66).map (·.size) = some (setC l).size := by rw [setC_size]; exact set_info
      have Hi := Lib.hid hi
      have HG1 := Lib.hid hG
      have HG2 := Lib.hid (hG.row (setC l))
      have H3 := below_setRow hb (Nat.le_refl _) (setC l)
      clear hi hG
      go_wp2_with (first | (refine wpList_load_row rfl 66 (.tmp 2) rfl w.heap.size rfl 66 (setC l) (0, 0) _ HG1.out Tryd.underlying66 rfl Hi.out ?_) | (refine wpList_store_row rfl 66 (.tmp 2) (.tmp 20) rfl w.heap.size (setC l) rfl rfl 66 (setC l) HG1.out Hi.out rfl (setC_one l) ?_))
      have h2 := run_loadVar_row (P := Tryd.prog) (wr.setRow w.heap.size (setC l)) w.heap.size 66 66 (setC l) (0, 0) _ HG2.out Tryd.underlying66 rfl Hi.out
      refine bodyPost_ret (v := .tuple #[.agg (setC l), .bool true]) ?_ rfl ⟨rfl, H3⟩
      rw [results_cell_tmp rfl]
      change ((loadVar 66 ⟨w.heap.size, 0, none⟩).run Tryd.prog (wr.setRow w.heap.size (setC l))).andThen _ = _
      rw [h2]
      rfl
theorem contains_any {g : Nat} {l : List UInt8} (c : UInt8) {w : World} (hg : Blk w g 66 (setC l)) : Calls Tryd.prog 50 #[.pointer (some ⟨g, 0, none⟩), .int .u8 (c.toNat : Int)] w fun e w' => e = .returned (.bool (l.contains c)) ∧ w = w' := by
  have hcell := hg.cell c.toNat
  rw [setC_get] at hcell
  have hc := c.toNat_lt
  have hc2 : c.toNat < 256 := by omega
  generalize l.contains c = b at *
  clear hc hg
  go_enter Tryd.func50, Tryd.ntmps50
  go_wp2_with fail
  go_ret
  exact ⟨rfl, rfl⟩
theorem trimascii_any {g : Nat} {d : List UInt8} (l : List UInt8) {w : World} (hg : Blk w g 66 (setC d)) (hl : l.length ≤ 9223372036854775807) :
    Calls Tryd.prog 43 #[.string (bs l), .pointer (some ⟨g, 0, none⟩)] w fun e w' => e = .returned (.string (bs (l.dropWhile d.contains))) ∧ w = w' := by
  have HG := Lib.hid hg
  clear hg
  go_enter Tryd.func43, Tryd.ntmps43
  go_wp2
  go_loop [0] (fun s => ∃ t : List UInt8, s = .string (bs t) ∧ Hid (t.dropWhile d.contains = l.dropWhile d.contains) ∧ t.length ≤ 9223372036854775807) (fun s => strLen s)
  case atStart => exact ⟨l, rfl, Lib.hid rfl, hl⟩
  case round =>
    obtain ⟨t, rfl, ht, hlt⟩ := hrel
    cases t with
    | nil =>
      have hsz : (bs []).size = 0 := rfl
      have he : Hid ([] = l.dropWhile d.contains) := Lib.hid ht.out
      go_wp2_with fail
      go_ret
      exact ⟨by rw [← he.out]; rfl, rfl⟩
    | cons c t =>
      have hsz : (bs (c :: t)).size = t.length + 1 := bs_size _
      have hsl := bs_tail c t
      rw [hsz] at hsl
      have hpos : (0 : Int) < (t.length : Int) + 1 := by omega
      have hix : ∀ h : 0 < (bs (c :: t)).size, (bs (c :: t))[0]'h = c := fun h => rfl
      have hlt2 : t.length ≤ 9223372036854775807 := by simp at hlt; omega
      have C := contains_any c HG.out
      clear hlt
      cases hc : d.contains c
      · have he : Hid (c :: t = l.dropWhile d.contains) := Lib.hid (by rw [← ht.out, List.dropWhile_cons, if_neg (by rw [hc]; decide)])
        rw [hc] at C
        clear hc
        go_wp2_with fail
        refine C.mono ?_
        rintro e w' ⟨rfl, rfl⟩
        go_wp2_with fail
        go_ret
        exact ⟨by rw [← he.out]; rfl, rfl⟩
      · have he : Hid (t.dropWhile d.contains = l.dropWhile d.contains) := Lib.hid (by rw [← ht.out, List.dropWhile_cons, if_pos hc])
        rw [hc] at C
        clear hc
        go_wp2_with fail
        refine C.mono ?_
        rintro e w' ⟨rfl, rfl⟩
        go_wp2_with fail
        go_round
        case rel => exact ⟨t, rfl, he, hlt2⟩
        case measure => simp [strLen, bs_size]
def digL : List UInt8 := [48, 49, 50, 51, 52, 53, 54, 55, 56, 57, 97, 98, 99, 100, 101, 102]
theorem digL_hex (c : UInt8) : digL.contains c = isHex c :=
  of_decide_eq_true (all_u8 (P := fun c => decide (digL.contains c = isHex c)) (by decide +kernel) c)
theorem trimhex_any (l : List UInt8) (h0 : l ≠ []) {w : World} (hl : l.length ≤ 9223372036854775807) :
    Calls Tryd.prog 31 #[.string (bs l), .string ⟨#[48, 49, 50, 51, 52, 53, 54, 55, 56, 57, 97, 98, 99, 100, 101, 102]⟩] w fun e w' => e = .returned (.string (bs (l.dropWhile isHex))) ∧ Below w.heap.size w w' := by
  have hd : l.dropWhile isHex = l.dropWhile digL.contains := by
    congr 1
    funext c
    exact (digL_hex c).symm
  rw [hd]
  clear hd
  have htl := bs_toList l
  have S := set_any digL (by decide) (by decide) w
  have hz := fun X => zero_set X
  have C := fun X g (hg : Blk X g 66 (setC digL)) => trimascii_any l hg hl
  have HC := Lib.hid C
  have e1 : (bs digL) = ⟨#[48, 49, 50, 51, 52, 53, 54, 55, 56, 57, 97, 98, 99, 100, 101, 102]⟩ := rfl
  rw [e1] at S
  have hi : (Tryd.prog.info? 66).map (·.size) = some (setC digL).size := by rw [setC_size]; exact set_info
  have Hi := Lib.hid hi
  have h1 := setC_one digL
  have hsz0 : (setC []).size = (setC digL).size := by rw [setC_size, setC_size]
  have Hsz0 := Lib.hid hsz0
  have H1 := Lib.hid h1
  clear e1 hi C h1 hsz0
  generalize setC digL = D at *
  generalize setC [] = D0 at *
  cases l with
  | nil => exact absurd rfl h0
  | cons c t =>
    clear h0
    generalize (c :: t).dropWhile digL.contains = r at *
    go_enter Tryd.func31, Tryd.ntmps31
    go_wp2_with fail
    refine S.mono ?_
    rintro e w1 ⟨rfl, b1⟩
    have hg0 := Blk.new w1 66 D0
    go_wp2_with (refine wpList_store_row rfl 66 (.tmp 5) (.tmp 29) rfl w1.heap.size D rfl rfl 66 D0 hg0 Hi.out Hsz0.out H1.out ?_)
    have hg1 := hg0.row D
    have hb0 := bstep b1 (balloc w1 (.cells D0 66))
    have hb1 := below_setRow hb0 b1.size D
    clear hg0 b1 S hb0
    refine (HC.out _ _ hg1).mono ?_
    rintro e w' ⟨rfl, rfl⟩
    go_wp2_with fail
    go_ret
    exact ⟨rfl, hb1⟩
/-! ### isText -/
theorem all_drop (l : List UInt8) : (l.dropWhile isHex = []) ↔ l.all isHex = true := by
  induction l with
  | nil => simp
  | cons c t ih =>
    rw [List.dropWhile_cons, List.all_cons]
    cases hc : isHex c
    · simp
    · simpa using ih
theorem istext_any (l : List UInt8) {w : World} (hl : l.length ≤ 9223372036854775807) :
    Calls Tryd.prog 27 #[.string (bs l)] w fun e w' => e = .returned (.bool (textB l)) ∧ Below w.heap.size w w' := by
  have htl := bs_toList l
  cases l with
  | nil =>
    have ht : Hid (textB [] = false) := Lib.hid rfl
    go_enter Tryd.func27, Tryd.ntmps27
    go_wp2_with fail
    go_ret
    exact ⟨by rw [ht.out]; rfl, Below.refl _ _⟩
  | cons c t =>
    have hsz : (bs (c :: t)).size = t.length + 1 := bs_size _
    have hix : ∀ h : 0 < (bs (c :: t)).size, (bs (c :: t))[0]'h = c := fun h => rfl
    have T := trimhex_any (c :: t) (by simp) (w := w) hl
    cases hc : (c == 48)
    · have tc : ((c.toNat : Int) == 48) = false := by
        have := bv_beq c 48
        rw [hc] at this
        exact this
      have hne : ((c :: t) == [48]) = false := by simp; intro e; subst e; simp at hc
      have hh : ((c :: t).head? == some 48) = false := by simpa using hc
      have ht : Hid (textB (c :: t) = (c :: t).all isHex) := Lib.hid (by unfold textB; rw [hne, hh]; simp)
      have hdr := bs_toList ((c :: t).dropWhile isHex)
      cases ha : (c :: t).all isHex
      · have hd : ¬ (c :: t).dropWhile isHex = [] := fun e => by rw [(all_drop _).1 e] at ha; cases ha
        have hd2 : ((c :: t).dropWhile isHex == []) = false := by simpa using hd
        rw [ha] at ht
        clear hne hh ha hc hd
        generalize (c :: t).dropWhile isHex = r at *
        go_enter Tryd.func27, Tryd.ntmps27
        go_wp2_with fail
        refine T.mono ?_
        rintro e w1 ⟨rfl, b1⟩
        go_wp2_with fail
        go_ret
        exact ⟨by rw [ht.out]; rfl, b1⟩
      · have hd := (all_drop _).2 ha
        rw [hd] at T hdr
        rw [ha] at ht
        clear hne hh ha hc hd
        go_enter Tryd.func27, Tryd.ntmps27
        go_wp2_with fail
        refine T.mono ?_
        rintro e w1 ⟨rfl, b1⟩
        go_wp2_with fail
        go_ret
        exact ⟨by rw [ht.out]; rfl, b1⟩
    · have tc : ((c.toNat : Int) == 48) = true := by
        have := bv_beq c 48
        rw [hc] at this
        exact this
      have hh : ((c :: t).head? == some 48) = true := by simpa using hc
      have ht : Hid (((c :: t) == [48]) = textB (c :: t)) := Lib.hid (by unfold textB; rw [hh]; simp)
      clear T hh hc
      cases hb : ((c :: t) == [48])
      · rw [hb] at ht
        go_enter Tryd.func27, Tryd.ntmps27
        go_wp2_with fail
        go_ret
        exact ⟨by rw [← ht.out]; rfl, Below.refl _ _⟩
      · rw [hb] at ht
        go_enter Tryd.func27, Tryd.ntmps27
        go_wp2_with fail
        go_ret
        exact ⟨by rw [← ht.out]; rfl, Below.refl _ _⟩
end Go.Proofs.YthfbgcjfnpajjaaDoor
