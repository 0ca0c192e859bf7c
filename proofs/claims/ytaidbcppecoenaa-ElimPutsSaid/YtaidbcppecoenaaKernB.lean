import Derived.Test.YtaidbcppecoenaaKern
/- What the functions of package kern come to: Axpy, Sum, Comb; the document's Comb. -/
namespace Go.Proofs.Ytaidbcppecoenaa
open Go.RowKit
set_option linter.unusedVariables false
set_option maxRecDepth 100000
attribute [local go_sem] bits_xor_b
theorem axpy_size {A A2 : Option Addr} {n n2 c c2 : Nat} (x : UInt8) {w : World} (hl : n ≠ n2) :
    Calls Try.prog 99 #[.int .u8 (bv x), .slice A n c, .slice A2 n2 c2] w fun e w' => e = .returned (.tuple #[.slice none 0 0, .int .i64 4]) ∧ w = w' := by
  have t : ((n : Int) != (n2 : Int)) = true := by simp; omega
  go_enter Try.func99, Try.ntmps99
  go_wp2_with fail
  go_ret2
  exact ⟨rfl, rfl⟩
theorem axpy_any {B B2 : Nat} {A A2 : Option Addr} {n c c2 : Nat} (x : UInt8) {us vs : List UInt8} {w : World} (h : Rd w B A n us) (h2 : Rd w B2 A2 n vs) (hB : B ≤ w.heap.size) (hB2 : B2 ≤ w.heap.size) (hn : n ≤ 140737488355328) :
    Calls Try.prog 99 #[.int .u8 (bv x), .slice A n c, .slice A2 n c2] w fun e w' => ∃ g, e = .returned (.tuple #[.slice (some ⟨g, 0, none⟩) n n, .int .i64 0]) ∧ w.heap.size ≤ g ∧ Blk w' g 5 (bvs (addL x us vs)).toArray ∧ Below w.heap.size w w' := by
  have hmk := make_bytes n hn
  have hb0 : Below w.heap.size w (w.alloc (.cells (bvs (nulls n)).toArray 5)) := by go_grown
  have hg := Blk.new w 5 (bvs (nulls n)).toArray
  have h2' := h2.below (hb0.mono hB2)
  go_enter Try.func99, Try.ntmps99
  go_wp2_with (refine copy_bytes (o := ⟨some 19, _, _, _, _, _⟩) rfl (.tmp 17) (.tmp 18) rfl w.heap.size n c2 A2 (nulls n) vs rfl rfl hg (nulls_length n) h2' w.heap.size w hb0 (Nat.le_refl _) ?_)
  intro w1 hg1 hb1
  have hz1 := hb1.size
  go_wp2_with fail
  refine (kadd_any x (h.below (hb1.mono hB)) (by omega) hg1 hB h2.1 (by omega)).mono ?_
  rintro e w2 ⟨rfl, hg2, hw2⟩
  go_wp2_with fail
  go_ret2
  exact ⟨w.heap.size, rfl, Nat.le_refl _, hg2, hb1.trans (grown_below hw2 hz1 (Nat.le_refl _))⟩

/-! ### Rows of one length -/
def lenB (m : Nat) (rows : List (List UInt8)) : Bool := rows.all (fun r => r.length == m)
def prefixLen (m : Nat) (rows : List (List UInt8)) (k : Nat) : Prop := lenB m (rows.take k) = true
theorem prefixLen_succ {m : Nat} {rows : List (List UInt8)} {k : Nat} (h : prefixLen m rows k) (hu : k < rows.length) (e : (rows[k]?.getD []).length = m) : prefixLen m rows (k + 1) := by
  unfold prefixLen lenB at *
  rw [List.take_succ_eq_append_getElem hu, List.all_append, h]
  simp [hu] at e
  simp [e]
theorem len_false {m : Nat} {rows : List (List UInt8)} {k : Nat} (hu : k < rows.length) (e : (rows[k]?.getD []).length ≠ m) : lenB m rows = false := by
  unfold lenB
  rw [List.all_eq_false]
  simp [hu] at e
  exact ⟨rows[k], List.getElem_mem _, by simpa using e⟩
theorem prefixLen_all {m : Nat} {rows : List (List UInt8)} {n : Nat} (h : prefixLen m rows n) (hn : rows.length = n) : lenB m rows = true := by
  unfold prefixLen at h
  rwa [List.take_of_length_le (by omega)] at h
/-! ### Combinations -/
/-- The sum of each row times its byte. -/
def combTo (cs : List UInt8) (rows : List (List UInt8)) (ss : List UInt8) : Nat → List UInt8
  | 0 => ss
  | k + 1 => addL (cs[k]?.getD 0) (rows[k]?.getD []) (combTo cs rows ss k)
theorem addL_length (c : UInt8) (us ss : List UInt8) : (addL c us ss).length = ss.length := addTo_length _ _ _ _
theorem combTo_length (cs : List UInt8) (rows : List (List UInt8)) (ss : List UInt8) (k : Nat) : (combTo cs rows ss k).length = ss.length := by
  induction k with
  | zero => rfl
  | succ k ih => rw [combTo, addL_length, ih]
theorem lenB_get {m : Nat} {rows : List (List UInt8)} (h : lenB m rows = true) {k : Nat} (hk : k < rows.length) : (rows[k]?.getD []).length = m := by
  unfold lenB at h
  have := List.all_eq_true.1 h rows[k] (List.getElem_mem _)
  simpa [hk] using this
end Go.Proofs.Ytaidbcppecoenaa

/- What kern.Sum and the document's Comb come to. -/
namespace Go.Proofs.Ytaidbcppecoenaa
open Go.RowKit
set_option linter.unusedVariables false
set_option maxRecDepth 100000
attribute [local go_sem] bits_xor_b
/-! ### kern.Sum -/
def ones (n : Nat) : List UInt8 := List.replicate n 1
/-! ### The document's Comb -/
def colTo (cs : List UInt8) (rows : List (List UInt8)) (i : Nat) : Nat → UInt8
  | 0 => 0
  | k + 1 => colTo cs rows i k ^^^ gm (cs[k]?.getD 0) ((rows[k]?.getD [])[i]?.getD 0)
def cols (cs : List UInt8) (rows : List (List UInt8)) (n i : Nat) : List UInt8 := (List.range i).map fun j => colTo cs rows j n
theorem cols_succ (cs : List UInt8) (rows : List (List UInt8)) (n i : Nat) : cols cs rows n i ++ [colTo cs rows i n] = cols cs rows n (i + 1) := by
  simp [cols, List.range_succ]
theorem combTo_get (cs : List UInt8) (rows : List (List UInt8)) (m k i : Nat) : (combTo cs rows (nulls m) k)[i]? = if i < m then some (colTo cs rows i k) else none := by
  induction k with
  | zero => simp [combTo, nulls, colTo, List.getElem?_replicate]
  | succ k ih =>
    have hl := combTo_length cs rows (nulls m) k
    rw [nulls_length] at hl
    rw [combTo, addL, hl, addTo, List.getElem?_mapIdx, ih]
    by_cases h : i < m
    · simp [h, colTo]
    · simp [h]
theorem cols_comb (cs : List UInt8) (rows : List (List UInt8)) (n m : Nat) : cols cs rows n m = combTo cs rows (nulls m) n := by
  apply List.ext_getElem?
  intro i
  rw [combTo_get]
  by_cases h : i < m
  · simp [cols, h]
  · simp [cols, h]
theorem refcomb_many {A A2 : Option Addr} {n n2 c c2 : Nat} {w : World} (hl : n ≠ n2) :
    Calls Try.prog 88 #[.slice A n c, .slice A2 n2 c2] w fun e w' => e = .returned (.tuple #[.slice none 0 0, .int .i64 4]) ∧ w = w' := by
  have t : ((n : Int) != (n2 : Int)) = true := by simp; omega
  go_enter Try.func88, Try.ntmps88
  go_wp2_with fail
  go_ret2
  exact ⟨rfl, rfl⟩
theorem refcomb_none {A A2 : Option Addr} {c c2 : Nat} {w : World} :
    Calls Try.prog 88 #[.slice A 0 c, .slice A2 0 c2] w fun e w' => e = .returned (.tuple #[.slice none 0 0, .int .i64 0]) ∧ w = w' := by
  go_enter Try.func88, Try.ntmps88
  go_wp2_with fail
  go_ret2
  exact ⟨rfl, rfl⟩
def CombSays (cs : List UInt8) (rows : List (List UInt8)) (n m : Nat) (w : World) (e : Ending) (w' : World) : Prop :=
  (if lenB m rows = true then ∃ A' c', e = .returned (.tuple #[.slice A' m c', .int .i64 0]) ∧ Rd w' w'.heap.size A' m (combTo cs rows (nulls m) n) else e = .returned (.tuple #[.slice none 0 0, .int .i64 4])) ∧ Below w.heap.size w w'
theorem CombSays.no {cs : List UInt8} {rows : List (List UInt8)} {n m : Nat} {w w' : World} (h : lenB m rows = false) (hb : Below w.heap.size w w') : CombSays cs rows n m w (.returned (.tuple #[.slice none 0 0, .int .i64 4])) w' :=
  ⟨by rw [h]; rfl, hb⟩
theorem CombSays.yes {cs : List UInt8} {rows : List (List UInt8)} {n m c' : Nat} {A' : Option Addr} {w w' : World} (h : lenB m rows = true) (hr : Rd w' w'.heap.size A' m (combTo cs rows (nulls m) n)) (hb : Below w.heap.size w w') : CombSays cs rows n m w (.returned (.tuple #[.slice A' m c', .int .i64 0])) w' :=
  ⟨by rw [if_pos h]; exact ⟨A', c', rfl, hr⟩, hb⟩
/-- The document's Comb, any rows: at rows of unlike lengths it says so, at others it goes on. -/
theorem refcomb_any {B B2 : Nat} {A A2 : Option Addr} {n c c2 m : Nat} {cs : List UInt8} {rows : List (List UInt8)} {w : World} (hcs : Rd w B2 A n cs) (h : Rds w B A2 n rows) (hB : B ≤ w.heap.size) (hB2 : B2 ≤ w.heap.size) (hn0 : 0 < n) (hm : (rows[0]?.getD []).length = m) (hn : n ≤ 9223372036854775807) (hm2 : m ≤ 140737488355327) :
    Calls Try.prog 88 #[.slice A n c, .slice A2 n c2] w (CombSays cs rows n m w) := by
  have Hl := Lib.hid h.1
  obtain ⟨b, off, A0, c0, rfl, hbB, hc0, hr0⟩ := h.at_ hn0
  rw [hm] at hc0
  rw [Nat.add_zero] at hc0
  have Hc0 := Lib.hid hc0
  have Hm := Lib.hid hm
  clear hm hr0
  have t0 : ((n : Int) == 0) = false := by simp; omega
  have hn1 : (0 : Int) < (n : Int) := by omega
  go_enter Try.func88, Try.ntmps88
  go_wp2_with fail
  go_loopw [6] (fun i wr => ∃ k : Nat, k ≤ n ∧ i = .int .i64 k ∧ Hid (prefixLen m rows k) ∧ Below w.heap.size w wr) (fun i _ => n - (intOf i).toNat)
  case atStart => exact ⟨0, by omega, rfl, Lib.hid rfl, Below.refl _ _⟩
  case round =>
    obtain ⟨wo, rfl⟩ : ∃ wo : World, wo = wr := ⟨_, rfl⟩
    obtain ⟨k, hk, rfl, hp, hb⟩ := hrel
    have hz := hb.size
    have hc0' := (hb.cell (p := ⟨b, off, none⟩) (by simp; omega)).trans hc0
    by_cases hlt : k < n
    · obtain ⟨b', off', Ak, ck, hA, hbB', hck, hrk⟩ := h.at_ hlt
      obtain ⟨rfl, rfl⟩ : b = b' ∧ off = off' := by simpa using hA
      clear hA
      have hck' := (hb.cell (p := ⟨b, off + k, none⟩) (by simp; omega)).trans hck
      by_cases he : (rows[k]?.getD []).length = m
      · have Hp := Lib.hid (prefixLen_succ hp.out (by rw [Hl.out]; exact hlt) he)
        have t : (((rows[k]?.getD []).length : Int) != (m : Int)) = false := by rw [he]; simp
        clear he hck hc0
        go_wp2_with fail
        go_quiet (fail)
        go_wp2_with fail
        go_roundw
        case rel => exact ⟨k + 1, by omega, by go_num, Hp, below_drewN hb _⟩
        case measure => simp [intOf]; omega
      · have Hf := Lib.hid (len_false (by rw [Hl.out]; exact hlt) he)
        have t : (((rows[k]?.getD []).length : Int) != (m : Int)) = true := by rw [bne_iff_ne]; omega
        clear he hck hc0
        go_wp2_with fail
        go_quiet (fail)
        go_wp2_with fail
        go_ret2
        exact CombSays.no Hf.out (below_drewN hb _)
    · obtain rfl : k = n := by omega
      have Hf := Lib.hid (prefixLen_all hp.out Hl.out)
      clear hp hlt hk
      have hb0 := hb
      clear hc0
      go_wp2_with fail
      go_loopw [7, 8] (fun v i wr => ∃ p : Nat, p ≤ m ∧ i = .int .i64 p ∧ wr.ownsRow w.heap.size 5 1 v p (bvs (cols cs rows k p)) ∧ Below w.heap.size w wr) (fun _ i _ => m - (intOf i).toNat)
      case atStart => exact ⟨0, by omega, rfl, World.ownsRow_nil _ _ _ _, hb⟩
      case round =>
        clear hb hb0 hz hc0'
        obtain ⟨wp, rfl⟩ : ∃ wp : World, wp = wr := ⟨_, rfl⟩
        obtain ⟨p, hp, rfl, hown, hb⟩ := hrel
        have hz := hb.size
        have hc0' := (hb.cell (p := ⟨b, off, none⟩) (by simp; omega)).trans Hc0.out
        by_cases hpm : p < m
        · have hown0 := hown
          have hb0 := hb
          go_wp2_with fail
          go_loopw [9, 10] (fun s i wr => ∃ q : Nat, q ≤ k ∧ i = .int .i64 q ∧ s = .int .u8 (bv (colTo cs rows p q)) ∧ wr.ownsRow w.heap.size 5 1 u7 p (bvs (cols cs rows k p)) ∧ Below w.heap.size w wr) (fun _ i _ => k - (intOf i).toNat)
          case atStart => exact ⟨0, by omega, rfl, rfl, hown, hb⟩
          case round =>
            clear hb hb0 hown hown0 hz hc0'
            obtain ⟨q, hq, rfl, rfl, hown, hb⟩ := hrel
            have hz := hb.size
            by_cases hqk : q < k
            · obtain ⟨b', off', Aq, cq, hA, hbB', hcq, hrq⟩ := h.at_ hqk
              obtain ⟨rfl, rfl⟩ : b = b' ∧ off = off' := by simpa using hA
              clear hA
              have hlen := lenB_get Hf.out (k := q) (by rw [Hl.out]; exact hqk)
              have hcq' := (hb.cell (p := ⟨b, off + q, none⟩) (by simp; omega)).trans hcq
              rw [hlen] at hcq' hrq
              obtain ⟨b4, off4, rfl, hb4, hc4⟩ := (hrq.below (hb.mono hB)).at_ hpm
              obtain ⟨b5, off5, rfl, hb5, hc5⟩ := (hcs.below (hb.mono hB2)).at_ hqk
              clear hlen hcq
              go_wp2_with fail
              go_quiet ((go_at_call 56; exact Calls.quiet_of_same ((refmul_any _ _ _).mono fun _ _ ⟨he, hw⟩ => ⟨he, hw.symm⟩)))
              go_wp2_with fail
              go_roundw
              case rel => exact ⟨q + 1, by omega, by go_num, rfl, hown, below_drewN hb _⟩
              case measure => simp [intOf]; omega
            · obtain rfl : q = k := by omega
              have Hs := Lib.hid (cols_succ cs rows q p)
              go_wp2_with (at_builtin; refine push_byte rfl (.tmp 63) (.tmp 65) rfl w.heap.size _ p _ (colTo cs rows p q) rfl (hown.alloc _) wr.heap.size 1 rfl ?c1 ?c2 ?c3 ?_)
              case c1 => go_simp
              case c2 => omega
              case c3 => simp; omega
              intro v1 w1 hown1 hb1
              rw [Hs.out] at hown1
              have hb2 := (hb.alloc hz (.cells #[.int .u8 (bv (colTo cs rows p q))] 5)).trans hb1
              clear hown hb
              go_wp2_with fail
              go_roundw
              case rel => exact ⟨p + 1, by omega, by go_num, hown1, hb2⟩
              case measure => simp [intOf]; omega
        · obtain rfl : p = m := by omega
          rw [cols_comb] at hown
          obtain ⟨A', c', rfl, hr⟩ := Rd.of_own hown
          clear hown
          go_wp2_with fail
          go_ret2
          exact CombSays.yes Hf.out hr hb
end Go.Proofs.Ytaidbcppecoenaa

/- The calls of package kern and the document's own, each by one contract for all inputs. -/
namespace Go.Proofs.Ytaidbcppecoenaa
open Go.RowKit
set_option linter.unusedVariables false
set_option maxRecDepth 100000

/-- A row and a code are answered. -/
def RowSays (r : List UInt8 × Int) (w : World) (e : Ending) (w' : World) : Prop :=
  ∃ A n c, e = .returned (.tuple #[.slice A n c, .int .i64 r.2]) ∧ Rd w' w'.heap.size A n r.1 ∧ n ≤ 140737488355328 ∧ Below w.heap.size w w'
theorem RowSays.none_ {w w' : World} {k : Int} (hb : Below w.heap.size w w') : RowSays ([], k) w (.returned (.tuple #[.slice none 0 0, .int .i64 k])) w' := ⟨none, 0, 0, rfl, Rd.nil, by omega, hb⟩
theorem RowSays.blk {w w' : World} {g n : Nat} {us : List UInt8} {k : Int} (hl : us.length = n) (hg : Blk w' g 5 (bvs us).toArray) (hn : n ≤ 140737488355328) (hb : Below w.heap.size w w') : RowSays (us, k) w (.returned (.tuple #[.slice (some ⟨g, 0, none⟩) n n, .int .i64 k])) w' := by
  subst hl
  exact ⟨some ⟨g, 0, none⟩, _, _, rfl, (Rd.of_blk hg).more hg.lt, hn, hb⟩
def first (rows : List (List UInt8)) : Nat := (rows[0]?.getD []).length
def combR (cs : List UInt8) (rows : List (List UInt8)) : List UInt8 × Int :=
  if cs.length ≠ rows.length then ([], 4) else if rows.length = 0 then ([], 0) else if lenB (first rows) rows then (combTo cs rows (nulls (first rows)) rows.length, 0) else ([], 4)
def Short (rows : List (List UInt8)) : Prop := ∀ r ∈ rows, r.length ≤ 140737488355327
theorem Short.first {rows : List (List UInt8)} (h : Short rows) : first rows ≤ 140737488355327 := by
  unfold Go.Proofs.Ytaidbcppecoenaa.first
  cases rows with
  | nil => simp
  | cons r rs => simpa using h r (List.mem_cons_self ..)
theorem refcomb_all {B B2 : Nat} {A A2 : Option Addr} {n n2 c c2 : Nat} {cs : List UInt8} {rows : List (List UInt8)} {w : World} (hcs : Rd w B2 A n cs) (h : Rds w B A2 n2 rows) (hB : B ≤ w.heap.size) (hB2 : B2 ≤ w.heap.size) (hs : Short rows) (hn : n2 ≤ 9223372036854775807) :
    Calls Try.prog 88 #[.slice A n c, .slice A2 n2 c2] w (RowSays (combR cs rows) w) := by
  have h1 := hcs.1
  have h2 := h.1
  have hf := hs.first
  by_cases hl : n = n2
  · subst hl
    by_cases h0 : n = 0
    · subst h0
      have : combR cs rows = ([], 0) := by simp [combR, h1, h2]
      rw [this]
      exact refcomb_none.mono fun e w' ⟨he, hw⟩ => by subst he; subst hw; exact RowSays.none_ (Below.refl _ _)
    · refine (refcomb_any (m := first rows) hcs h hB hB2 (by omega) rfl (by omega) hf).mono fun e w' ⟨hc, hw⟩ => ?_
      by_cases hb : lenB (first rows) rows = true
      · have : combR cs rows = (combTo cs rows (nulls (first rows)) n, 0) := by simp [combR, h1, h2, hb, h0]
        rw [this]
        rw [if_pos hb] at hc
        obtain ⟨A', c', he, hr⟩ := hc
        exact ⟨A', _, c', he, hr, by omega, hw⟩
      · have hb' : lenB (first rows) rows = false := by simpa using hb
        have : combR cs rows = ([], 4) := by simp [combR, h1, h2, hb', h0]
        rw [this]
        rw [if_neg hb] at hc
        subst hc
        exact RowSays.none_ hw
  · have : combR cs rows = ([], 4) := by simp [combR, h1, h2, hl]
    rw [this]
    exact (refcomb_many hl).mono fun e w' ⟨he, hw⟩ => by subst he; subst hw; exact RowSays.none_ (Below.refl _ _)
def axpyR (x : UInt8) (us vs : List UInt8) : List UInt8 × Int := if us.length ≠ vs.length then ([], 4) else (addL x us vs, 0)
theorem axpy_all {B B2 : Nat} {A A2 : Option Addr} {n n2 c c2 : Nat} (x : UInt8) {us vs : List UInt8} {w : World} (h : Rd w B A n us) (h2 : Rd w B2 A2 n2 vs) (hB : B ≤ w.heap.size) (hB2 : B2 ≤ w.heap.size) (hn : n ≤ 140737488355328) :
    Calls Try.prog 99 #[.int .u8 (bv x), .slice A n c, .slice A2 n2 c2] w (RowSays (axpyR x us vs) w) := by
  have e1 := h.1
  have e2 := h2.1
  by_cases hl : n = n2
  · subst hl
    have : axpyR x us vs = (addL x us vs, 0) := by simp [axpyR, e1, e2]
    rw [this]
    exact (axpy_any x h h2 hB hB2 hn).mono fun e w' ⟨g, he, _, hg, hw⟩ => by subst he; exact RowSays.blk (by rw [addL_length, e2]) hg hn hw
  · have : axpyR x us vs = ([], 4) := by simp [axpyR, e1, e2, hl]
    rw [this]
    exact (axpy_size x hl).mono fun e w' ⟨he, hw⟩ => by subst he; subst hw; exact RowSays.none_ (Below.refl _ _)
end Go.Proofs.Ytaidbcppecoenaa

