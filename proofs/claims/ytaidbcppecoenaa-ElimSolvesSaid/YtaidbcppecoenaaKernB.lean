import Derived.Test.YtaidbcppecoenaaKern
/- What the functions of package kern come to: Axpy, Sum, Comb; the document's Comb. -/
namespace Go.Proofs.Ytaidbcppecoenaa
open Go.RowKit
set_option linter.unusedVariables false
set_option maxRecDepth 100000
attribute [local go_sem] bits_xor_b
theorem axpy_size {A A2 : Option Addr} {n n2 c c2 : Nat} (x : UInt8) {w : World} (hl : n ≠ n2) :
    Calls Try.prog 99 #[.int .u8 (bv x), .slice A n c, .slice A2 n2 c2] w fun e w' => e = .returned (.tuple #[.slice none 0 0, .int .i64 4]) ∧ w = w' := by
  have t : ((n : Int) != (n2 : Int)) = true := by simp; omega
  go_enter Try.func99, Try.ntmps99
  go_wp2_with fail
  go_ret2
  exact ⟨rfl, rfl⟩
theorem axpy_any {B B2 : Nat} {A A2 : Option Addr} {n c c2 : Nat} (x : UInt8) {us vs : List UInt8} {w : World} (h : Rd w B A n us) (h2 : Rd w B2 A2 n vs) (hB : B ≤ w.heap.size) (hB2 : B2 ≤ w.heap.size) (hn : n ≤ 140737488355328) :
    Calls Try.prog 99 #[.int .u8 (bv x), .slice A n c, .slice A2 n c2] w fun e w' => ∃ g, e = .returned (.tuple #[.slice (some ⟨g, 0, none⟩) n n, .int .i64 0]) ∧ w.heap.size ≤ g ∧ Blk w' g 5 (bvs (addL x us vs)).toArray ∧ Below w.heap.size w w' := by
  have hmk := make_bytes n hn
  have hb0 : Below w.heap.size w (w.alloc (.cells (bvs (nulls n)).toArray 5)) := by go_grown
  have hg := Blk.new w 5 (bvs (nulls n)).toArray
  have h2' := h2.below (hb0.mono hB2)
  go_enter Try.func99, Try.ntmps99
  go_wp2_with (refine copy_bytes (o := ⟨some 19, _, _, _, _, _⟩) rfl (.tmp 17) (.tmp 18) rfl w.heap.size n c2 A2 (nulls n) vs rfl rfl hg (nulls_length n) h2' w.heap.size w hb0 (Nat.le_refl _) ?_)
  intro w1 hg1 hb1
  have hz1 := hb1.size
  go_wp2_with fail
  refine (kadd_any x (h.below (hb1.mono hB)) (by omega) hg1 hB h2.1 (by omega)).mono ?_
  rintro e w2 ⟨rfl, hg2, hw2⟩
  go_wp2_with fail
  go_ret2
  exact ⟨w.heap.size, rfl, Nat.le_refl _, hg2, hb1.trans (grown_below hw2 hz1 (Nat.le_refl _))⟩

/-! ### Rows of one length -/
def lenB (m : Nat) (rows : List (List UInt8)) : Bool := rows.all (fun r => r.length == m)
def prefixLen (m : Nat) (rows : List (List UInt8)) (k : Nat) : Prop := lenB m (rows.take k) = true
theorem prefixLen_succ {m : Nat} {rows : List (List UInt8)} {k : Nat} (h : prefixLen m rows k) (hu : k < rows.length) (e : (rows[k]?.getD []).length = m) : prefixLen m rows (k + 1) := by
  unfold prefixLen lenB at *
  rw [List.take_succ_eq_append_getElem hu, List.all_append, h]
  simp [hu] at e
  simp [e]
theorem len_false {m : Nat} {rows : List (List UInt8)} {k : Nat} (hu : k < rows.length) (e : (rows[k]?.getD []).length ≠ m) : lenB m rows = false := by
  unfold lenB
  rw [List.all_eq_false]
  simp [hu] at e
  exact ⟨rows[k], List.getElem_mem _, by simpa using e⟩
theorem prefixLen_all {m : Nat} {rows : List (List UInt8)} {n : Nat} (h : prefixLen m rows n) (hn : rows.length = n) : lenB m rows = true := by
  unfold prefixLen at h
  rwa [List.take_of_length_le (by omega)] at h
theorem nought_fn {A : Option Addr} {n c m L : Nat} {w : World} (hL : w.cell? ⟨L, 0, none⟩ = some (.int .i64 (m : Int))) :
    Calls Try.prog 91 #[.slice A n c, .pointer (some ⟨L, 0, none⟩)] w fun e w' => e = .returned (.bool ((n : Int) != (m : Int))) ∧ w = w' := by
  go_enter Try.func91, Try.ntmps91
  go_wp2
  go_ret
  exact ⟨rfl, rfl⟩
theorem nought_index {B : Nat} {A : Option Addr} {n c m L : Nat} {rows : List (List UInt8)} {w : World} (h : Rds w B A n rows) (hL : w.cell? ⟨L, 0, none⟩ = some (.int .i64 (m : Int))) (hn : n ≤ 9223372036854775807) :
    Calls Try.prog 93 #[.slice A n c, .func (.func 91) #[] #[.pointer (some ⟨L, 0, none⟩)]] w fun e w' => ∃ i : Int, e = .returned (.int .i64 i) ∧ decide (0 ≤ i) = !lenB m rows ∧ w = w' := by
  have Hl := Lib.hid h.1
  go_enter Try.func93, Try.ntmps93
  go_wp2
  go_loop [8] (fun i => ∃ k : Nat, k ≤ n ∧ i = .int .i64 k ∧ Hid (prefixLen m rows k)) (fun i => n - (intOf i).toNat)
  case atStart => exact ⟨0, by omega, rfl, Lib.hid rfl⟩
  case round =>
    obtain ⟨k, hk, rfl, hp⟩ := hrel
    by_cases hlt : k < n
    · obtain ⟨b, off, Ak, ck, rfl, _, hc, _⟩ := h.at_ hlt
      by_cases he : (rows[k]?.getD []).length = m
      · have t : (((rows[k]?.getD []).length : Int) != (m : Int)) = false := by rw [he]; simp
        have Hp := Lib.hid (prefixLen_succ hp.out (by rw [Hl.out]; exact hlt) he)
        clear he
        go_wp2_with fail
        refine (nought_fn hL).mono ?_
        rintro e w' ⟨rfl, rfl⟩
        go_wp2_with fail
        go_round
        case rel => exact ⟨k + 1, by omega, by go_num, Hp⟩
        case measure => simp [intOf]; omega
      · have t : (((rows[k]?.getD []).length : Int) != (m : Int)) = true := by rw [bne_iff_ne]; omega
        have Hf := Lib.hid (len_false (by rw [Hl.out]; exact hlt) he)
        clear he
        go_wp2_with fail
        refine (nought_fn hL).mono ?_
        rintro e w' ⟨rfl, rfl⟩
        go_wp2_with fail
        go_ret
        exact ⟨(k : Int), rfl, by rw [Hf.out]; simp, rfl⟩
    · obtain rfl : k = n := by omega
      have Hf := Lib.hid (prefixLen_all hp.out Hl.out)
      go_wp2_with fail
      go_ret
      exact ⟨-1, rfl, by rw [Hf.out]; simp, rfl⟩
theorem nought_contains {B : Nat} {A : Option Addr} {n c m L : Nat} {rows : List (List UInt8)} {w : World} (h : Rds w B A n rows) (hL : w.cell? ⟨L, 0, none⟩ = some (.int .i64 (m : Int))) (hn : n ≤ 9223372036854775807) :
    Calls Try.prog 73 #[.slice A n c, .func (.func 91) #[] #[.pointer (some ⟨L, 0, none⟩)]] w fun e w' => e = .returned (.bool (!lenB m rows)) ∧ w = w' := by
  go_enter Try.func73, Try.ntmps73
  go_wp2_with fail
  refine (nought_index h hL hn).mono ?_
  rintro e w' ⟨i, rfl, hi, rfl⟩
  have Hi := Lib.hid hi
  clear hi
  go_wp2_with fail
  go_ret
  exact ⟨by rw [← Hi.out]; rfl, rfl⟩
theorem noughts_some {B : Nat} {A : Option Addr} {n c m : Nat} {rows : List (List UInt8)} {w : World} (h : Rds w B A n rows) (hB : B ≤ w.heap.size) (hn0 : 0 < n) (hm : (rows[0]?.getD []).length = m) (hf : lenB m rows = true) (hn : n ≤ 9223372036854775807) (hm2 : m ≤ 140737488355328) :
    Calls Try.prog 71 #[.slice A n c] w fun e w' => ∃ g, e = .returned (.tuple #[.slice (some ⟨g, 0, none⟩) m m, .int .i64 0]) ∧ w.heap.size ≤ g ∧ Blk w' g 5 (bvs (nulls m)).toArray ∧ Below w.heap.size w w' := by
  obtain ⟨b, off, Ak, ck, rfl, hb, hc, _⟩ := h.at_ hn0
  rw [hm] at hc
  rw [Nat.add_zero] at hc
  have h1 := h.keep (w' := w.alloc (.cells #[.int .i64 (m : Int)] 3)) (fun p hp => World.cell?_alloc_lt w _ p (by omega))
  have hL : (w.alloc (.cells #[.int .i64 (m : Int)] 3)).cell? ⟨w.heap.size, 0, none⟩ = some (.int .i64 (m : Int)) := by simp
  have t : ((n : Int) == 0) = false := by simp; omega
  have hn1 : (0 : Int) < (n : Int) := by omega
  have C := nought_contains (c := c) h1 hL hn
  rw [hf] at C
  have HC := Lib.hid C
  have hmk := make_bytes m hm2
  clear hm hf h1 C
  go_enter Try.func71, Try.ntmps71
  go_wp2_with fail
  refine HC.out.mono ?_
  rintro e w' ⟨rfl, rfl⟩
  go_wp2_with fail
  go_ret2
  refine ⟨w.heap.size + 1, rfl, by omega, ?_, by go_grown⟩
  have := Blk.new (w.alloc (.cells #[.int .i64 (m : Int)] 3)) 5 (bvs (nulls m)).toArray
  rwa [World.size_alloc] at this

/-! ### Combinations -/
/-- The sum of each row times its byte. -/
def combTo (cs : List UInt8) (rows : List (List UInt8)) (ss : List UInt8) : Nat → List UInt8
  | 0 => ss
  | k + 1 => addL (cs[k]?.getD 0) (rows[k]?.getD []) (combTo cs rows ss k)
theorem addL_length (c : UInt8) (us ss : List UInt8) : (addL c us ss).length = ss.length := addTo_length _ _ _ _
theorem combTo_length (cs : List UInt8) (rows : List (List UInt8)) (ss : List UInt8) (k : Nat) : (combTo cs rows ss k).length = ss.length := by
  induction k with
  | zero => rfl
  | succ k ih => rw [combTo, addL_length, ih]
theorem lenB_get {m : Nat} {rows : List (List UInt8)} (h : lenB m rows = true) {k : Nat} (hk : k < rows.length) : (rows[k]?.getD []).length = m := by
  unfold lenB at h
  have := List.all_eq_true.1 h rows[k] (List.getElem_mem _)
  simpa [hk] using this
theorem comb_any {B B2 : Nat} {A A2 : Option Addr} {n c c2 m : Nat} {cs : List UInt8} {rows : List (List UInt8)} {w : World} (hcs : Rd w B2 A n cs) (h : Rds w B A2 n rows) (hB : B ≤ w.heap.size) (hB2 : B2 ≤ w.heap.size) (hn0 : 0 < n) (hm : (rows[0]?.getD []).length = m) (hf : lenB m rows = true) (hn : n ≤ 9223372036854775807) (hm2 : m ≤ 140737488355328) :
    Calls Try.prog 47 #[.slice A n c, .slice A2 n c2] w fun e w' => ∃ g, e = .returned (.tuple #[.slice (some ⟨g, 0, none⟩) m m, .int .i64 0]) ∧ w.heap.size ≤ g ∧ Blk w' g 5 (bvs (combTo cs rows (nulls m) n)).toArray ∧ Below w.heap.size w w' := by
  have HC := Lib.hid (noughts_some (c := c2) h hB hn0 hm hf hn hm2)
  have Hm := Lib.hid hm
  have Hf := Lib.hid hf
  have Hl := Lib.hid h.1
  clear hm hf
  go_enter Try.func47, Try.ntmps47
  go_wp2_with fail
  refine HC.out.mono ?_
  rintro e w1 ⟨g, rfl, hwg, hg, hb⟩
  have hb0 := hb
  have hg0 := hg
  go_wp2_with fail
  go_loopw [25] (fun i wr => ∃ k : Nat, k ≤ n ∧ i = .int .i64 k ∧ Blk wr g 5 (bvs (combTo cs rows (nulls m) k)).toArray ∧ Below w.heap.size w wr) (fun i _ => n - (intOf i).toNat)
  case atStart => exact ⟨0, by omega, rfl, hg, hb⟩
  case round =>
    clear hg hb hb0 hg0
    obtain ⟨k, hk, rfl, hg, hb⟩ := hrel
    have hz := hb.size
    by_cases hlt : k < n
    · obtain ⟨b, off, Ak, ck, rfl, hbB, hc, hr⟩ := (h.below (hb.mono hB)).at_ hlt
      obtain ⟨b2, off2, rfl, hbB2, hc2⟩ := (hcs.below (hb.mono hB2)).at_ hlt
      have hlen := lenB_get Hf.out (k := k) (by rw [Hl.out]; exact hlt)
      rw [hlen] at hc hr
      clear hlen
      have hnk := combTo_length cs rows (nulls m) k
      rw [nulls_length] at hnk
      have Hk := Lib.hid hnk
      clear hnk
      go_wp2_with fail
      refine (kadd_any (cs[k]?.getD 0) hr (by omega) hg (by omega) Hk.out (by omega)).mono ?_
      rintro e w2 ⟨rfl, hg2, hw2⟩
      have hb2 := hb.trans (grown_below hw2 hz hwg)
      clear hg hb
      go_wp2_with fail
      go_roundw
      case rel => exact ⟨k + 1, by omega, by go_num, hg2, hb2⟩
      case measure => simp [intOf]; omega
    · obtain rfl : k = n := by omega
      go_wp2_with fail
      go_ret2
      exact ⟨g, rfl, hwg, hg, hb⟩
end Go.Proofs.Ytaidbcppecoenaa

/- What kern.Sum and the document's Comb come to. -/
namespace Go.Proofs.Ytaidbcppecoenaa
open Go.RowKit
set_option linter.unusedVariables false
set_option maxRecDepth 100000
attribute [local go_sem] bits_xor_b
/-! ### kern.Sum -/
def ones (n : Nat) : List UInt8 := List.replicate n 1
/-! ### The document's Comb -/
def CombSays (cs : List UInt8) (rows : List (List UInt8)) (n m : Nat) (w : World) (e : Ending) (w' : World) : Prop :=
  (if lenB m rows = true then ∃ A' c', e = .returned (.tuple #[.slice A' m c', .int .i64 0]) ∧ Rd w' w'.heap.size A' m (combTo cs rows (nulls m) n) else e = .returned (.tuple #[.slice none 0 0, .int .i64 4])) ∧ Below w.heap.size w w'
theorem CombSays.no {cs : List UInt8} {rows : List (List UInt8)} {n m : Nat} {w w' : World} (h : lenB m rows = false) (hb : Below w.heap.size w w') : CombSays cs rows n m w (.returned (.tuple #[.slice none 0 0, .int .i64 4])) w' :=
  ⟨by rw [h]; rfl, hb⟩
theorem CombSays.yes {cs : List UInt8} {rows : List (List UInt8)} {n m c' : Nat} {A' : Option Addr} {w w' : World} (h : lenB m rows = true) (hr : Rd w' w'.heap.size A' m (combTo cs rows (nulls m) n)) (hb : Below w.heap.size w w') : CombSays cs rows n m w (.returned (.tuple #[.slice A' m c', .int .i64 0])) w' :=
  ⟨by rw [if_pos h]; exact ⟨A', c', rfl, hr⟩, hb⟩
end Go.Proofs.Ytaidbcppecoenaa

/- The calls of package kern and the document's own, each by one contract for all inputs. -/
namespace Go.Proofs.Ytaidbcppecoenaa
open Go.RowKit
set_option linter.unusedVariables false
set_option maxRecDepth 100000

/-- A row and a code are answered. -/
def RowSays (r : List UInt8 × Int) (w : World) (e : Ending) (w' : World) : Prop :=
  ∃ A n c, e = .returned (.tuple #[.slice A n c, .int .i64 r.2]) ∧ Rd w' w'.heap.size A n r.1 ∧ n ≤ 140737488355328 ∧ Below w.heap.size w w'
theorem RowSays.none_ {w w' : World} {k : Int} (hb : Below w.heap.size w w') : RowSays ([], k) w (.returned (.tuple #[.slice none 0 0, .int .i64 k])) w' := ⟨none, 0, 0, rfl, Rd.nil, by omega, hb⟩
theorem RowSays.blk {w w' : World} {g n : Nat} {us : List UInt8} {k : Int} (hl : us.length = n) (hg : Blk w' g 5 (bvs us).toArray) (hn : n ≤ 140737488355328) (hb : Below w.heap.size w w') : RowSays (us, k) w (.returned (.tuple #[.slice (some ⟨g, 0, none⟩) n n, .int .i64 k])) w' := by
  subst hl
  exact ⟨some ⟨g, 0, none⟩, _, _, rfl, (Rd.of_blk hg).more hg.lt, hn, hb⟩
def first (rows : List (List UInt8)) : Nat := (rows[0]?.getD []).length
def Short (rows : List (List UInt8)) : Prop := ∀ r ∈ rows, r.length ≤ 140737488355327
theorem Short.first {rows : List (List UInt8)} (h : Short rows) : first rows ≤ 140737488355327 := by
  unfold Go.Proofs.Ytaidbcppecoenaa.first
  cases rows with
  | nil => simp
  | cons r rs => simpa using h r (List.mem_cons_self ..)
theorem comb_len (cs : List UInt8) (rows : List (List UInt8)) (m n : Nat) : (combTo cs rows (nulls m) n).length = m := by rw [combTo_length, nulls_length]
def axpyR (x : UInt8) (us vs : List UInt8) : List UInt8 × Int := if us.length ≠ vs.length then ([], 4) else (addL x us vs, 0)
theorem axpy_all {B B2 : Nat} {A A2 : Option Addr} {n n2 c c2 : Nat} (x : UInt8) {us vs : List UInt8} {w : World} (h : Rd w B A n us) (h2 : Rd w B2 A2 n2 vs) (hB : B ≤ w.heap.size) (hB2 : B2 ≤ w.heap.size) (hn : n ≤ 140737488355328) :
    Calls Try.prog 99 #[.int .u8 (bv x), .slice A n c, .slice A2 n2 c2] w (RowSays (axpyR x us vs) w) := by
  have e1 := h.1
  have e2 := h2.1
  by_cases hl : n = n2
  · subst hl
    have : axpyR x us vs = (addL x us vs, 0) := by simp [axpyR, e1, e2]
    rw [this]
    exact (axpy_any x h h2 hB hB2 hn).mono fun e w' ⟨g, he, _, hg, hw⟩ => by subst he; exact RowSays.blk (by rw [addL_length, e2]) hg hn hw
  · have : axpyR x us vs = ([], 4) := by simp [axpyR, e1, e2, hl]
    rw [this]
    exact (axpy_size x hl).mono fun e w' ⟨he, hw⟩ => by subst he; subst hw; exact RowSays.none_ (Below.refl _ _)
theorem kscale_says {B : Nat} {A : Option Addr} {n c : Nat} (x : UInt8) {us : List UInt8} {w : World} (h : Rd w B A n us) (hB : B ≤ w.heap.size) (hn : n ≤ 140737488355328) :
    Calls Try.prog 87 #[.int .u8 (bv x), .slice A n c] w fun e w' => ∃ A' c', e = .returned (.slice A' n c') ∧ Rd w' w'.heap.size A' n (scaleL x us) ∧ Below w.heap.size w w' :=
  (kscale_any x h hB hn).mono fun e w' ⟨g, he, _, hg, hw⟩ => by
    have hl : (scaleL x us).length = n := by rw [scaleL, List.length_map]; exact h.1
    have hr := (Rd.of_blk hg).more (B' := w'.heap.size) hg.lt
    rw [hl] at hr
    exact ⟨_, _, he, hr, hw⟩
end Go.Proofs.Ytaidbcppecoenaa

