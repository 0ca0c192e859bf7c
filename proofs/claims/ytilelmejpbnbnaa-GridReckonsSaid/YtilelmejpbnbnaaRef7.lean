import Derived.Test.YtilelmejpbnbnaaGridH
import Derived.Test.YtilelmejpbnbnaaWas
import Derived.StillTailTactics
/- The document's own grids: turned, and multiplied. -/
namespace Go.Proofs.Ytilelmejpbnbnaa
open Go.RowKit
set_option linter.unusedVariables false
set_option maxRecDepth 100000

def RowsGiven (rows : List (List UInt8)) (w : World) (e : Ending) (w' : World) : Prop := ∃ A n c, e = .returned (.slice A n c) ∧ Rds w' w'.heap.size A n rows ∧ Below w.heap.size w w'
/-- 'out = append(out, x)' for a byte x; all but the row itself stays. -/
theorem push_byte2 {ops : Array Oper} {rest : List Oper} {o : Oper} {a : Act} {Q : Exit → Act → World → Prop} {w : World} (hgd : o.guard = none) (s x : Operand)
    (ho : o.op = .call { callee := .builtin .append, args := #[s, x], argTypes := #[52, 52] })
    (base : Nat) (v : Value) (n : Nat) (us : List UInt8) (u : UInt8) (hs : a.eval s = v) (hown : w.ownsRow base 5 1 v n (bvs us))
    (g c : Nat) (hx : a.eval x = .slice (some ⟨g, 0, none⟩) 1 c) (hc : w.cell? ⟨g, 0, none⟩ = some (.int .u8 (bv u))) (hn : n + 1 ≤ 140737488355328) (hbase : base ≤ w.heap.size)
    (h : ∀ v' w', w'.ownsRow base 5 1 v' (n + 1) (bvs (us ++ [u])) → Below base w w' → wpList Try.prog ops Q rest (a.put o.dst v') w') : wpList Try.prog ops Q (o :: rest) a w :=
  push_byte hgd s x ho base v n us u hs hown g c hx hc hn hbase h
theorem refturn_any {B : Nat} {A : Option Addr} {H c n : Nat} {rows : List (List UInt8)} {w : World} (h : Rds w B A H rows) (hB : B ≤ w.heap.size) (hl : lenB n rows = true) (hH : H ≤ 65536) (hn : n ≤ 65536) :
    Calls Try.prog 16 #[.slice A H c, .int .i64 n] w (RowsGiven (turnL n rows) w) := by
  have HL := Lib.hid h.1
  have Hl := Lib.hid hl
  replace h := h.more hB
  clear hl
  go_enter Try.func16, Try.ntmps16
  go_wp2_with fail
  go_loopw [5, 6] (fun v x wr => ∃ i : Nat, i ≤ n ∧ x = .int .i64 i ∧ Was wr w.heap.size v ((turnL n rows).take i) ∧ Below w.heap.size w wr) (fun _ x _ => n - (intOf x).toNat)
  case atStart => exact ⟨0, by omega, rfl, Was.nil _ _, Below.refl _ _⟩
  case round =>
    obtain ⟨wo, rfl⟩ : ∃ wo : World, wo = wr := ⟨_, rfl⟩
    obtain ⟨i, hi, rfl, hwas, hb⟩ := hrel
    by_cases hin : i < n
    · have hz := hb.size
      go_wp2_with fail
      go_loopw [7, 17] (fun v x wr => ∃ k : Nat, k ≤ H ∧ x = .int .i64 k ∧ wr.ownsRow wo.heap.size 5 1 v k (bvs ((colL rows i).take k)) ∧ Below wo.heap.size wo wr) (fun _ x _ => H - (intOf x).toNat)
      case atStart => exact ⟨0, by omega, rfl, World.ownsRow_nil _ _ _ _, Below.refl _ _⟩
      case round =>
        obtain ⟨k, hk, rfl, hown, hb2⟩ := hrel
        have hz2 := hb2.size
        by_cases hkH : k < H
        · obtain ⟨b, off, Ak, ck, rfl, hbB, hc, hr⟩ := (h.below (hb.trans (hb2.mono hz))).at_ hkH
          have hlen := lenB_get Hl.out (k := k) (by rw [HL.out]; exact hkH)
          rw [hlen] at hc hr
          obtain ⟨b4, off4, rfl, hb4, hc4⟩ := hr.at_ hin
          have HT : Hid ((colL rows i).take k ++ [(rows[k]?.getD [])[i]?.getD 0] = (colL rows i).take (k + 1)) := Lib.hid (by
            have := take_get (l := colL rows i) (k := k) 0 (by rw [colL_len, HL.out]; exact hkH)
            rw [← this]
            congr 2
            have hkl : k < rows.length := by rw [HL.out]; exact hkH
            simp [colL, hkl])
          clear hlen
          generalize (rows[k]?.getD [])[i]?.getD 0 = u at *
          go_wp2_with (at_builtin; refine push_byte2 rfl (.tmp 21) (.tmp 26) rfl wo.heap.size _ k _ u rfl (hown.alloc _) wr.heap.size 1 rfl ?c1 ?c2 ?c3 ?_)
          case c1 => go_simp
          case c2 => omega
          case c3 => simp; omega
          intro v1 w1 hown1 hb1
          rw [HT.out] at hown1
          have hb3 := (hb2.alloc hz2 (.cells #[.int .u8 (bv u)] 5)).trans hb1
          clear hown hb2 hb1 hc hr hc4
          go_wp2_with fail
          go_roundw
          case rel => exact ⟨k + 1, by omega, by go_num, hown1, hb3⟩
          case measure => simp [intOf]; omega
        · obtain rfl : k = H := by omega
          have e : (colL rows i).take k = colL rows i := List.take_of_length_le (by rw [colL_len, HL.out]; exact Nat.le_refl _)
          rw [e] at hown
          obtain ⟨A7, c7, rfl, hrd⟩ := Rd.of_own hown
          have hwas2 := (hwas.below hb2).below (balloc wr (.cells #[.slice A7 k c7] 52))
          have hown2 := hown.alloc (.cells #[.slice A7 k c7] 52)
          have HT : Hid ((turnL n rows).take i ++ [colL rows i] = (turnL n rows).take (i + 1)) := Lib.hid (by
            rw [← take_get [] (by rw [turnL_len]; exact hin), turnL_at hin])
          have hb3 := (hb.trans (hb2.mono hz)).alloc (Nat.le_trans hz hz2) (.cells #[.slice A7 k c7] 52)
          have Hk1 : Hid (((turnL n rows).take i).length = i) := Lib.hid (by rw [List.length_take, turnL_len]; omega)
          have Hk2 : Hid ((colL rows i).length = k) := Lib.hid (by rw [colL_len, HL.out])
          have hown3 : (wr.alloc (.cells #[.slice A7 k c7] 52)).ownsRow w.heap.size 5 1 (.slice A7 k c7) k (bvs (colL rows i)) := own_mono hown2 hz
          have hbs : w.heap.size ≤ (wr.alloc (.cells #[.slice A7 k c7] 52)).heap.size := by simp; omega
          clear e hrd hown hown2 hwas
          go_wp2_with (at_builtin; refine push_row rfl (.tmp 29) (.tmp 31) rfl w.heap.size _ _ i k _ (colL rows i) rfl hwas2 Hk1.out Hk2.out hown3 wr.heap.size 1 rfl ?d1 ?d2 hbs ?_)
          case d1 => go_simp
          case d2 => omega
          intro v1 w1 hw1 hg1 hb1
          rw [HT.out] at hw1
          have hb4 := hb3.trans hb1
          clear hb3 hb1 hg1 hown3 hwas2
          go_wp2_with fail
          go_roundw
          case rel => exact ⟨i + 1, by omega, by go_num, hw1, hb4⟩
          case measure => simp [intOf]; omega
    · obtain rfl : i = n := by omega
      have e : (turnL i rows).take i = turnL i rows := List.take_of_length_le (by rw [turnL_len]; exact Nat.le_refl _)
      rw [e] at hwas
      obtain ⟨A7, c7, rfl, hrd⟩ := hwas.rds
      clear hwas e
      go_wp2_with fail
      go_ret
      exact ⟨_, _, _, rfl, hrd, hb⟩

/-! ### Products -/
def mulL (a b : List (List UInt8)) (p : Nat) : List (List UInt8) := a.map fun row => combTo row b (nulls p) b.length
/-- A row of a product, so far. -/
def mulTo (row : List UInt8) (b : List (List UInt8)) (p i k : Nat) : List UInt8 := (List.range p).map fun x => if x < i then colTo row b x b.length else if x = i then colTo row b i k else 0
theorem mulTo_len (row : List UInt8) (b : List (List UInt8)) (p i k : Nat) : (mulTo row b p i k).length = p := by simp [mulTo]
theorem mulTo_at {row : List UInt8} {b : List (List UInt8)} {p i k : Nat} (h : i < p) : (mulTo row b p i k)[i]? = some (colTo row b i k) := by simp [mulTo, h]
theorem mulTo_set {row : List UInt8} {b : List (List UInt8)} {p i k : Nat} (h : i < p) : (mulTo row b p i k).set i (colTo row b i (k + 1)) = mulTo row b p i (k + 1) := by
  apply List.ext_getElem?
  intro x
  by_cases hx : x = i
  · subst hx
    rw [List.getElem?_set_self (by rw [mulTo_len]; exact h), mulTo_at h]
  · rw [List.getElem?_set_ne (Ne.symm hx)]
    by_cases hp : x < p
    · simp [mulTo, hp, hx]
    · rw [List.getElem?_eq_none (by rw [mulTo_len]; omega), List.getElem?_eq_none (by rw [mulTo_len]; omega)]
theorem mulTo_next {row : List UInt8} {b : List (List UInt8)} {p i : Nat} : mulTo row b p i b.length = mulTo row b p (i + 1) 0 := by
  unfold mulTo
  apply List.map_congr_left
  intro x _
  by_cases h1 : x < i
  · rw [if_pos h1, if_pos (by omega)]
  · rw [if_neg h1]
    by_cases h2 : x = i
    · subst h2; rw [if_pos rfl, if_pos (by omega)]
    · rw [if_neg h2, if_neg (by omega)]
      by_cases h3 : x = i + 1
      · subst h3; rw [if_pos rfl]; rfl
      · rw [if_neg h3]
theorem mulTo_start (row : List UInt8) (b : List (List UInt8)) (p : Nat) : mulTo row b p 0 0 = nulls p := by
  unfold mulTo nulls
  apply List.ext_getElem?
  intro x
  by_cases hp : x < p
  · simp [hp, colTo]
  · rw [List.getElem?_eq_none (by simp; omega), List.getElem?_eq_none (by simp; omega)]
theorem mulTo_done (row : List UInt8) (b : List (List UInt8)) (p : Nat) : mulTo row b p p 0 = combTo row b (nulls p) b.length := by
  apply List.ext_getElem?
  intro x
  rw [combTo_get]
  by_cases hp : x < p
  · rw [if_pos hp]; simp [mulTo, hp]
  · rw [if_neg hp, List.getElem?_eq_none (by rw [mulTo_len]; omega)]
theorem mulL_len (a b : List (List UInt8)) (p : Nat) : (mulL a b p).length = a.length := by simp [mulL]
theorem refmul7_any {B B2 : Nat} {A A2 : Option Addr} {m c n c2 p : Nat} {a b : List (List UInt8)} {w : World} (h : Rds w B A m a) (h2 : Rds w B2 A2 n b) (hB : B ≤ w.heap.size) (hB2 : B2 ≤ w.heap.size) (ha : lenB n a = true) (hb : lenB p b = true) (hm : m ≤ 65536) (hn : n ≤ 65536) (hp : p ≤ 65536) :
    Calls Try.prog 20 #[.slice A m c, .slice A2 n c2, .int .i64 p] w (RowsGiven (mulL a b p) w) := by
  have HL := Lib.hid h.1
  have HL2 := Lib.hid h2.1
  have Ha := Lib.hid ha
  have Hb := Lib.hid hb
  replace h := h.more hB
  replace h2 := h2.more hB2
  clear ha hb
  go_enter Try.func20, Try.ntmps20
  go_wp2_with fail
  go_loopw [7, 15] (fun v x wr => ∃ r : Nat, r ≤ m ∧ x = .int .i64 r ∧ Was wr w.heap.size v ((mulL a b p).take r) ∧ Below w.heap.size w wr) (fun _ x _ => m - (intOf x).toNat)
  case atStart => exact ⟨0, by omega, rfl, Was.nil _ _, Below.refl _ _⟩
  case round =>
    obtain ⟨wo, rfl⟩ : ∃ wo : World, wo = wr := ⟨_, rfl⟩
    obtain ⟨r, hr, rfl, hwas, hb⟩ := hrel
    have hz := hb.size
    by_cases hrm : r < m
    · obtain ⟨b1, o1, Ar, cr, rfl, hb1, hc1, hr1⟩ := (h.below hb).at_ hrm
      have hlen := lenB_get Ha.out (k := r) (by rw [HL.out]; exact hrm)
      rw [hlen] at hc1 hr1
      clear hlen
      have HR : Hid ((mulL a b p).take r ++ [combTo (a[r]?.getD []) b (nulls p) b.length] = (mulL a b p).take (r + 1)) := Lib.hid (by
        have hal : r < a.length := by rw [HL.out]; exact hrm
        rw [← take_get [] (by rw [mulL_len]; exact hal)]
        congr 2
        simp [mulL, hal])
      have Hk1 : Hid (((mulL a b p).take r).length = r) := Lib.hid (by rw [List.length_take, mulL_len, HL.out]; omega)
      generalize a[r]?.getD [] = row at *
      have hmk := make_bytes p (by omega) wo
      have hg0 := Blk.new wo 5 (bvs (nulls p)).toArray
      have hB0 := balloc wo (.cells (bvs (nulls p)).toArray 5)
      have hg1 : Blk (wo.alloc (.cells (bvs (nulls p)).toArray 5)) wo.heap.size 5 (bvs (mulTo row b p 0 0)).toArray := by rw [mulTo_start]; exact hg0
      go_wp2_with fail
      clear hmk hc1
      go_loopw [11] (fun x wr => ∃ i : Nat, i ≤ p ∧ x = .int .i64 i ∧ Blk wr wo.heap.size 5 (bvs (mulTo row b p i 0)).toArray ∧ Below wo.heap.size wo wr) (fun x _ => p - (intOf x).toNat)
      case atStart => exact ⟨0, by omega, rfl, hg1, hB0⟩
      case round =>
        clear hg0 hg1 hB0
        obtain ⟨i, hi, rfl, hg, hb2⟩ := hrel
        by_cases hip : i < p
        · go_wp2_with fail
          go_loopw [12] (fun x wr => ∃ k : Nat, k ≤ n ∧ x = .int .i64 k ∧ Blk wr wo.heap.size 5 (bvs (mulTo row b p i k)).toArray ∧ Below wo.heap.size wo wr) (fun x _ => n - (intOf x).toNat)
          case atStart => exact ⟨0, by omega, rfl, hg, hb2⟩
          case round =>
            clear hg hb2
            obtain ⟨k, hk, rfl, hg, hb2⟩ := hrel
            have hz2 := hb2.size
            by_cases hkn : k < n
            · obtain ⟨b3, o3, rfl, hb3, hc3⟩ := (hr1.below (hb2.mono hz)).at_ hkn
              obtain ⟨b4, o4, A4, c4, rfl, hb4, hc4, hr4⟩ := (h2.below (hb.trans (hb2.mono hz))).at_ hkn
              have hlen := lenB_get Hb.out (k := k) (by rw [HL2.out]; exact hkn)
              rw [hlen] at hc4 hr4
              obtain ⟨b5, o5, rfl, hb5, hc5⟩ := hr4.at_ hip
              clear hlen hr4
              have hcl : wr.cell? ⟨wo.heap.size, i, none⟩ = some (.int .u8 (bv (colTo row b i k))) := by
                rw [hg.cell i]
                simpa using bvs_get _ _ _ (mulTo_at (row := row) (b := b) (k := k) hip)
              have HS : Hid (mulTo row b p i (k + 1) = (mulTo row b p i k).set i (colTo row b i k ^^^ gm (row[k]?.getD 0) ((b[k]?.getD [])[i]?.getD 0))) := Lib.hid (by rw [← mulTo_set hip]; rfl)
              generalize colTo row b i k = s at *
              generalize row[k]?.getD 0 = x at *
              generalize (b[k]?.getD [])[i]?.getD 0 = y at *
              have hgl := hg.lt
              have hfz := hg.frozen i
              go_wp2_with fail
              go_still_tail 20, (by kernel_rfl)
              still_call ((refmul_any x y _).mono fun _ _ ⟨he, hw⟩ => ⟨he, hw.symm⟩)
              repeat still_step
              refine wpStill_nil ?_
              change wpList _ _ _ _ _ wr.drew
              have hg2 := hg.drew.set i (.int .u8 (bv (s ^^^ gm x y)))
              rw [bvs_set, ← HS.out] at hg2
              have HG2 := Lib.hid hg2
              have HB := Lib.hid ((hb2.trans (Below.refl _ wr).drew).setCell (p := (⟨wo.heap.size, i, none⟩ : Addr)) (Nat.le_refl _) (.int .u8 (bv (s ^^^ gm x y))))
              have hcl2 : wr.drew.cell? ⟨wo.heap.size, i, none⟩ = some (.int .u8 (bv s)) := hcl
              have hfz2 : wr.drew.frozen? ⟨wo.heap.size, i, none⟩ = false := hfz
              clear hg2 hg hb2 hc3 hc4 hc5 hcl hfz
              generalize wr.drew = wd at *
              have hx := bits_xor_b s (gm x y)
              go_wp2_with fail
              clear hx
              go_roundw
              case rel => exact ⟨k + 1, by omega, by go_num, HG2.out, HB.out⟩
              case measure => simp [intOf]; omega
            · obtain rfl : k = n := by omega
              rw [← HL2.out, mulTo_next] at hg
              go_wp2_with fail
              go_roundw
              case rel => exact ⟨i + 1, by omega, by go_num, hg, hb2⟩
              case measure => simp [intOf]; omega
        · obtain rfl : i = p := by omega
          rw [mulTo_done] at hg
          have hz2 := hb2.size
          have Hk2 : Hid ((combTo row b (nulls i) b.length).length = i) := Lib.hid (comb_len _ _ _ _)
          have hown := own_blk (base := w.heap.size) hg hz Hk2.out (by omega)
          have hwas2 := (hwas.below hb2).below (balloc wr (.cells #[.slice (some ⟨wo.heap.size, 0, none⟩) i i] 52))
          have hown2 := hown.alloc (.cells #[.slice (some ⟨wo.heap.size, 0, none⟩) i i] 52)
          have hb3 := (hb.trans (hb2.mono hz)).alloc (Nat.le_trans hz hz2) (.cells #[.slice (some ⟨wo.heap.size, 0, none⟩) i i] 52)
          have hbs : w.heap.size ≤ (wr.alloc (.cells #[.slice (some ⟨wo.heap.size, 0, none⟩) i i] 52)).heap.size := by simp; omega
          clear hown hwas hg
          go_wp2_with (at_builtin; refine push_row rfl (.tmp 52) (.tmp 54) rfl w.heap.size _ _ r i _ (combTo row b (nulls i) b.length) rfl hwas2 Hk1.out Hk2.out hown2 wr.heap.size 1 rfl ?d1 ?d2 hbs ?_)
          case d1 => go_simp
          case d2 => omega
          intro v1 w1 hw1 hg1 hb1
          rw [HR.out] at hw1
          have hb4 := hb3.trans hb1
          clear hb3 hb1 hg1 hown2 hwas2
          go_wp2_with fail
          go_roundw
          case rel => exact ⟨r + 1, by omega, by go_num, hw1, hb4⟩
          case measure => simp [intOf]; omega
    · obtain rfl : r = m := by omega
      have e : (mulL a b p).take r = mulL a b p := List.take_of_length_le (by rw [mulL_len, HL.out]; exact Nat.le_refl _)
      rw [e] at hwas
      obtain ⟨A7, c7, rfl, hrd⟩ := hwas.rds
      clear e
      go_wp2_with fail
      go_ret
      exact ⟨_, _, _, rfl, hrd, hb⟩
end Go.Proofs.Ytilelmejpbnbnaa
