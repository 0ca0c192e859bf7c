import Derived.Test.YtejnkohgecclbaaDoorCrc
import Derived.Test.YtejnkohgecclbaaDoorWords2
/- What the functions of package sum, and the document's own answer for them, come to. -/
namespace Go.Proofs.YtejnkohgecclbaaDoor
open Go.RowKit
set_option linter.unusedVariables false
set_option maxRecDepth 100000

/-- A register's number. (Behind a name, so that the walk leaves it as it stands.) -/
def rv (n : Nat) : Int := (n : Int)
theorem rv_nn (n : Nat) : 0 ≤ rv n := by unfold rv; omega
theorem rv_lt {n : Nat} (h : n < 4294967296) : rv n < 4294967296 := by unfold rv; omega
theorem rv_beq (m n : Nat) : (rv m == rv n) = (m == n) := by
  rw [Bool.eq_iff_iff]; simp [rv]; omega
theorem bits_xor_r {a b : Nat} (ha : a < 4294967296) (hb : b < 4294967296) : bits .xor .u32 (rv a) (rv b) = rv (a ^^^ b) := u32_xor_nat a b ha hb
theorem and15_r (m : Nat) (h : m < 4294967296) : bits .and .u32 (rv m) 15 = ((m % 16 : Nat) : Int) := by
  have := u32_and_nat m 15 h (by omega)
  rw [show (((15 : Nat)) : Int) = 15 from rfl] at this
  unfold rv
  rw [this, show (15 : Nat) = 2 ^ 4 - 1 from rfl, Nat.and_two_pow_sub_one_eq_mod]
/-- The table that the program's own initialiser lays. -/
def HalvesAt (w : World) : Prop := ∀ i, i < 16 → w.cell? ⟨0, i, none⟩ = some (.int .u32 (rv (Sn 4 i)))
theorem HalvesAt.below {w w' : World} (h : HalvesAt w) (hb : Below w.heap.size w w') : HalvesAt w' := fun i hi => by
  have h0 := h i hi
  rw [hb.cell (p := ⟨0, i, none⟩) (cell_lt h0)]
  exact h0
theorem shifted_any (n : Nat) (hn : n < 4294967296) (w : World) (HT : HalvesAt w) : Calls Tryd.prog 16 #[.int .u32 (rv n)] w fun e w' => e = .returned (.int .u32 (rv (Sn 8 n))) ∧ w = w' := by
  have HT' := Lib.hid HT
  clear HT
  go_enter Tryd.func16, Tryd.ntmps16
  go_wp2
  go_loop [0, 3] (fun x c => ∃ k : Nat, k ≤ 2 ∧ c = .int .i64 k ∧ x = .int .u32 (rv (Sn (4 * k) n))) (fun _ c => 2 - (intOf c).toNat)
  case atStart => exact ⟨0, by omega, rfl, rfl⟩
  case round =>
    obtain ⟨k, hk, rfl, rfl⟩ := hrel
    have hm : Sn (4 * k) n < 4294967296 := Sn_lt _ hn
    by_cases hlt : k < 2
    · have hs := Lib.hid (Sn_add (4 * k) 4 n)
      generalize Sn (4 * k) n = m at *
      have hcell := HT'.out (m % 16) (Nat.mod_lt _ (by omega))
      have hand := and15_r m hm
      have hb := Nat.mod_lt m (show 0 < 16 by omega)
      have r1 := rv_nn m
      have r2 := rv_lt hm
      have hx : Hid (bits .xor .u32 (rv m / 16) (rv (Sn 4 (m % 16))) = rv (Sn 4 m)) := Lib.hid (by
        have h1 : rv m / 16 = rv (m / 16) := by unfold rv; omega
        rw [h1, bits_xor_r (by omega) (Sn_lt 4 (by omega)), ← nibble])
      have Hm := Lib.hid hm
      clear hm r2
      go_wp2_with fail
      go_round
      case rel => exact ⟨k + 1, by omega, by go_num, by rw [hx.out, ← hs.out, Nat.mul_add]⟩
      case measure => simp [intOf]; omega
    · obtain rfl : k = 2 := by omega
      go_wp2_with fail
      go_ret
      exact ⟨rfl, rfl⟩
theorem cell1 {w : World} {g : Nat} {T : TypeId} {x : Value} (h : Blk w g T #[x]) : w.cell? ⟨g, 0, none⟩ = some x ∧ w.frozen? ⟨g, 0, none⟩ = false :=
  ⟨by rw [h.cell]; rfl, h.frozen 0⟩
theorem start_any (w : World) : Calls Tryd.prog 7 #[] w fun e w' => e = .returned (.agg #[.int .u32 (rv 4294967295)]) ∧ Below w.heap.size w w' := by
  go_enter Tryd.func7, Tryd.ntmps7
  go_wp2_with fail
  go_returns
  exact ⟨rfl, by go_grown⟩
theorem not_r {n : Nat} (hn : n < 4294967296) : bits .xor .u32 IntKind.u32.max (rv n) = rv (4294967295 - n) := by
  have h := u32_xor_nat 4294967295 n (by omega) hn
  have h2 : IntKind.u32.max = ((4294967295 : Nat) : Int) := by decide
  rw [h2]
  unfold rv
  rw [h]
  have h3 : (4294967295 : Nat) ^^^ n = 4294967295 - n := by
    have e1 : (BitVec.allOnes 32 ^^^ BitVec.ofNat 32 n).toNat = 4294967295 - n := by
      rw [BitVec.xor_comm, BitVec.xor_allOnes, BitVec.toNat_not, BitVec.toNat_ofNat, Nat.mod_eq_of_lt (by omega)]
    rw [BitVec.toNat_xor, BitVec.toNat_allOnes, BitVec.toNat_ofNat, Nat.mod_eq_of_lt (show n < 2 ^ 32 by omega)] at e1
    exact e1
  rw [h3]
theorem rsum_any (n : Nat) (hn : n < 4294967296) (w : World) : Calls Tryd.prog 9 #[.agg #[.int .u32 (rv n)]] w fun e w' => e = .returned (.int .u32 (rv (4294967295 - n))) ∧ Below w.heap.size w w' := by
  have hsg : IntKind.u32.signed = false := rfl
  go_enter Tryd.func9, Tryd.ntmps9
  go_wp2_with fail
  go_ret
  exact ⟨ret_int (not_r hn), by go_grown⟩
def Fit (rows : List (List UInt8)) : Prop := ∀ r ∈ rows, r.length ≤ 140737488355327
theorem flat_take (rows : List (List UInt8)) (k : Nat) (h : k < rows.length) : (rows.take (k + 1)).flatten = (rows.take k).flatten ++ (rows[k]?.getD []) := by
  rw [List.take_succ_eq_append_getElem h, List.flatten_append]
  simp [h]
theorem Blk.one {w : World} {g : Nat} {T : TypeId} {x y : Value} (hg : Blk w g T #[x]) : Blk (w.setCell ⟨g, 0, none⟩ y) g T #[y] := by
  have := hg.set 0 y
  simpa using this
/-- The row that is read in a later world was there at the start. -/
theorem Rds.at_row {w wr : World} {b off n k ck : Nat} {Ak : Option Addr} {rows : List (List UInt8)} (h : Rds w w.heap.size (some ⟨b, off, none⟩) n rows) (hk : k < n) (hb : Below w.heap.size w wr) (hc : wr.cell? ⟨b, off + k, none⟩ = some (.slice Ak (rows[k]?.getD []).length ck)) :
    Rd w w.heap.size Ak (rows[k]?.getD []).length (rows[k]?.getD []) := by
  obtain ⟨b', off', Ak', ck', e, hbl, hc', hr'⟩ := h.at_ hk
  injection e with e
  injection e with e1 e2
  subst e1 e2
  rw [hb.cell (p := ⟨b, off + k, none⟩) hbl, hc'] at hc
  injection hc with hc
  injection hc with h1 h2 h3
  subst h1
  exact hr'
set_option maxHeartbeats 1000000 in
theorem with_any {A : Option Addr} {N c : Nat} {rows : List (List UInt8)} (n : Nat) (hn : n < 4294967296) {w : World} (HT : HalvesAt w) (r : Rds w w.heap.size A N rows) (hN : N ≤ 9223372036854775807) (hF : Fit rows) :
    Calls Tryd.prog 8 #[.agg #[.int .u32 (rv n)], .slice A N c] w fun e w' => e = .returned (.agg #[.int .u32 (rv (feed n rows.flatten))]) ∧ Below w.heap.size w w' := by
  have Hl := Lib.hid r.1
  have HF := Lib.hid hF
  have HT' := Lib.hid HT
  have Hn := Lib.hid hn
  clear hF HT hn
  have hbb : Below w.heap.size w ((w.alloc (.cells #[.int .u32 (rv n)] 28)).alloc (.cells #[.int .u32 0] 28)) := by go_grown
  have hgg : Blk ((w.alloc (.cells #[.int .u32 (rv n)] 28)).alloc (.cells #[.int .u32 0] 28)) w.heap.size 28 #[.int .u32 (rv n)] := (Blk.new _ _ _).alloc _
  have hgr : Blk ((w.alloc (.cells #[.int .u32 (rv n)] 28)).alloc (.cells #[.int .u32 0] 28)) (w.heap.size + 1) 28 #[.int .u32 0] := by
    have := Blk.new (w.alloc (.cells #[.int .u32 (rv n)] 28)) 28 #[.int .u32 0]
    simpa using this
  go_enter Tryd.func8, Tryd.ntmps8
  go_wp2
  go_loopw [11] (fun c wr => ∃ k : Nat, k ≤ N ∧ c = .int .i64 k ∧ Blk wr w.heap.size 28 #[.int .u32 (rv (feed n (rows.take k).flatten))] ∧ Blk wr (w.heap.size + 1) 28 #[.int .u32 0] ∧ Below w.heap.size w wr) (fun c _ => N - (intOf c).toNat)
  case atStart => exact ⟨0, by omega, rfl, hgg, hgr, hbb⟩
  case round =>
    clear hbb hgg hgr
    obtain ⟨k, hk, rfl, hg, hr, hb⟩ := hrel
    by_cases hlt : k < N
    · obtain ⟨b, off, Ak, ck, rfl, hbl, hc, hrk⟩ := (r.below hb).at_ hlt
      have HP := Lib.hid (r.at_row hlt hb hc)
      have hlen : (rows[k]?.getD []).length ≤ 140737488355327 := by
        have : k < rows.length := by rw [Hl.out]; exact hlt
        simp only [List.getElem?_eq_getElem this, Option.getD_some]
        exact HF.out _ (List.getElem_mem _)
      have Hf := Lib.hid (flat_take rows k (by rw [Hl.out]; exact hlt))
      have hm : feed n (rows.take k).flatten < 4294967296 := feed_lt _ Hn.out
      have Hm := Lib.hid hm
      clear hm
      generalize rows[k]?.getD [] = part at *
      generalize (rows.take k).flatten = prev at *
      go_wp2_with fail
      go_loopw [17] (fun c wq => ∃ j : Nat, j ≤ part.length ∧ c = .int .i64 j ∧ Blk wq w.heap.size 28 #[.int .u32 (rv (feed (feed n prev) (part.take j)))] ∧ Blk wq (w.heap.size + 1) 28 #[.int .u32 0] ∧ Below w.heap.size w wq) (fun c _ => part.length - (intOf c).toNat)
      case atStart => exact ⟨0, by omega, rfl, hg, hr, hb⟩
      case round =>
        clear hg hr hb hrk
        obtain ⟨j, hj, rfl, hg, hr, hb⟩ := hrel
        by_cases hlt2 : j < part.length
        · have hp : Rd w w.heap.size Ak part.length part := HP.out
          obtain ⟨b2, off2, rfl, hbl2, hc2⟩ := (hp.below hb).at_ hlt2
          have Hf2 := Lib.hid (feed_take (feed n prev) part j hlt2)
          have hm2 : feed (feed n prev) (part.take j) < 4294967296 := feed_lt _ Hm.out
          have hu := (part[j]?.getD 0).toNat_lt
          generalize part[j]?.getD 0 = u at *
          generalize feed (feed n prev) (part.take j) = m at *
          have hx : Hid (m ^^^ u.toNat < 4294967296) := Lib.hid (Nat.xor_lt_two_pow (n := 32) hm2 (by omega))
          have hxx : bits .xor .u32 (rv m) (bv u) = rv (m ^^^ u.toNat) := bits_xor_r hm2 (by omega)
          have hub := bv_lt u
          have hub0 := bv_nn u
          obtain ⟨z0, z1⟩ := cell1 hg
          clear hm2 hu
          go_wp2_with fail
          refine (shifted_any _ hx.out _ (HT'.out.below hb)).mono ?_
          rintro e w' ⟨rfl, rfl⟩
          have hg2 := hg.one (y := .int .u32 (rv (Sn 8 (m ^^^ u.toNat))))
          have hr2 := hr.far (p := ⟨w.heap.size, 0, none⟩) (by simp) (.int .u32 (rv (Sn 8 (m ^^^ u.toNat))))
          go_wp2_with fail
          go_roundw
          case rel => exact ⟨j + 1, by omega, by go_num, by rw [Hf2.out]; exact hg2, hr2, hb.setCell (Nat.le_refl _) _⟩
          case measure => simp [intOf]; omega
        · obtain rfl : j = part.length := by omega
          have Hg := Lib.hid hg
          clear hg
          go_wp2_with fail
          go_roundw
          case rel => exact ⟨k + 1, by omega, by go_num, by rw [Hf.out, feed_append]; have := Hg.out; rw [List.take_length] at this; exact this, hr, hb⟩
          case measure => simp [intOf]; omega
    · obtain rfl : k = N := by omega
      rw [List.take_of_length_le (by rw [Hl.out]; exact Nat.le_refl _)] at hg
      obtain ⟨z0, z1⟩ := cell1 hg
      obtain ⟨y0, y1⟩ := cell1 hr
      go_wp2_with fail
      have hr2 := hr.one (y := .int .u32 (rv (feed n rows.flatten)))
      obtain ⟨x0, x1⟩ := cell1 hr2
      refine bodyPost_ret (v := .agg #[.int .u32 (rv (feed n rows.flatten))]) (by simp [results, Tryd.results8, go_sem, x0]) rfl ⟨rfl, hb.setCell (by simp) _⟩
theorem sof_any {A : Option Addr} {N c : Nat} {rows : List (List UInt8)} {w : World} (HT : HalvesAt w) (r : Rds w w.heap.size A N rows) (hN : N ≤ 9223372036854775807) (hF : Fit rows) :
    Calls Tryd.prog 15 #[.slice A N c] w fun e w' => e = .returned (.int .u32 (rv (crcN rows.flatten))) ∧ Below w.heap.size w w' := by
  have hlt : Hid (feed 4294967295 rows.flatten < 4294967296) := Lib.hid (feed_lt _ (by decide))
  have HT' := Lib.hid HT
  have HF := Lib.hid hF
  have H32 : Hid (4294967295 < 4294967296) := Lib.hid (by decide)
  clear HT hF
  go_enter Tryd.func15, Tryd.ntmps15
  go_wp2_with fail
  refine (start_any _).mono ?_
  rintro e w1 ⟨rfl, b1⟩
  have r1 := r.step b1
  have HT1 := Lib.hid (HT'.out.below b1)
  go_wp2_with fail
  refine (with_any 4294967295 H32.out HT1.out r1 hN HF.out).mono ?_
  rintro e w2 ⟨rfl, b2⟩
  have b12 := bstep b1 b2
  go_wp2_with fail
  refine (rsum_any _ hlt.out _).mono ?_
  rintro e w3 ⟨rfl, b3⟩
  go_wp2_with fail
  go_ret
  exact ⟨rfl, bstep b12 b3⟩

/-! ### The document's own -/
/-! ### Put, Get -/
end Go.Proofs.YtejnkohgecclbaaDoor
