import Derived.Test.YtejnkohgecclbaaDoorCrc
import Derived.Test.YtejnkohgecclbaaDoorWords2
/- What the functions of package sum, and the document's own answer for them, come to. -/
namespace Go.Proofs.YtejnkohgecclbaaDoor
open Go.RowKit
set_option linter.unusedVariables false
set_option maxRecDepth 100000

/-- A register's number. (Behind a name, so that the walk leaves it as it stands.) -/
def rv (n : Nat) : Int := (n : Int)
theorem rv_nn (n : Nat) : 0 ≤ rv n := by unfold rv; omega
theorem rv_lt {n : Nat} (h : n < 4294967296) : rv n < 4294967296 := by unfold rv; omega
theorem bits_xor_r {a b : Nat} (ha : a < 4294967296) (hb : b < 4294967296) : bits .xor .u32 (rv a) (rv b) = rv (a ^^^ b) := u32_xor_nat a b ha hb
theorem and15_r (m : Nat) (h : m < 4294967296) : bits .and .u32 (rv m) 15 = ((m % 16 : Nat) : Int) := by
  have := u32_and_nat m 15 h (by omega)
  rw [show (((15 : Nat)) : Int) = 15 from rfl] at this
  unfold rv
  rw [this, show (15 : Nat) = 2 ^ 4 - 1 from rfl, Nat.and_two_pow_sub_one_eq_mod]
/-- The table that the program's own initialiser lays. -/
def HalvesAt (w : World) : Prop := ∀ i, i < 16 → w.cell? ⟨0, i, none⟩ = some (.int .u32 (rv (Sn 4 i)))
theorem HalvesAt.below {w w' : World} (h : HalvesAt w) (hb : Below w.heap.size w w') : HalvesAt w' := fun i hi => by
  have h0 := h i hi
  rw [hb.cell (p := ⟨0, i, none⟩) (cell_lt h0)]
  exact h0
theorem shifted_any (n : Nat) (hn : n < 4294967296) (w : World) (HT : HalvesAt w) : Calls Tryd.prog 16 #[.int .u32 (rv n)] w fun e w' => e = .returned (.int .u32 (rv (Sn 8 n))) ∧ w = w' := by
  have HT' := Lib.hid HT
  clear HT
  go_enter Tryd.func16, Tryd.ntmps16
  go_wp2
  go_loop [0, 3] (fun x c => ∃ k : Nat, k ≤ 2 ∧ c = .int .i64 k ∧ x = .int .u32 (rv (Sn (4 * k) n))) (fun _ c => 2 - (intOf c).toNat)
  case atStart => exact ⟨0, by omega, rfl, rfl⟩
  case round =>
    obtain ⟨k, hk, rfl, rfl⟩ := hrel
    have hm : Sn (4 * k) n < 4294967296 := Sn_lt _ hn
    by_cases hlt : k < 2
    · have hs := Lib.hid (Sn_add (4 * k) 4 n)
      generalize Sn (4 * k) n = m at *
      have hcell := HT'.out (m % 16) (Nat.mod_lt _ (by omega))
      have hand := and15_r m hm
      have hb := Nat.mod_lt m (show 0 < 16 by omega)
      have r1 := rv_nn m
      have r2 := rv_lt hm
      have hx : Hid (bits .xor .u32 (rv m / 16) (rv (Sn 4 (m % 16))) = rv (Sn 4 m)) := Lib.hid (by
        have h1 : rv m / 16 = rv (m / 16) := by unfold rv; omega
        rw [h1, bits_xor_r (by omega) (Sn_lt 4 (by omega)), ← nibble])
      have Hm := Lib.hid hm
      clear hm r2
      go_wp2_with fail
      go_round
      case rel => exact ⟨k + 1, by omega, by go_num, by rw [hx.out, ← hs.out, Nat.mul_add]⟩
      case measure => simp [intOf]; omega
    · obtain rfl : k = 2 := by omega
      go_wp2_with fail
      go_ret
      exact ⟨rfl, rfl⟩
theorem cell1 {w : World} {g : Nat} {T : TypeId} {x : Value} (h : Blk w g T #[x]) : w.cell? ⟨g, 0, none⟩ = some x ∧ w.frozen? ⟨g, 0, none⟩ = false :=
  ⟨by rw [h.cell]; rfl, h.frozen 0⟩
theorem start_any (w : World) : Calls Tryd.prog 7 #[] w fun e w' => e = .returned (.agg #[.int .u32 (rv 4294967295)]) ∧ Below w.heap.size w w' := by
  go_enter Tryd.func7, Tryd.ntmps7
  go_wp2_with fail
  go_returns
  exact ⟨rfl, by go_grown⟩
theorem not_r {n : Nat} (hn : n < 4294967296) : bits .xor .u32 IntKind.u32.max (rv n) = rv (4294967295 - n) := by
  have h := u32_xor_nat 4294967295 n (by omega) hn
  have h2 : IntKind.u32.max = ((4294967295 : Nat) : Int) := by decide
  rw [h2]
  unfold rv
  rw [h]
  have h3 : (4294967295 : Nat) ^^^ n = 4294967295 - n := by
    have e1 : (BitVec.allOnes 32 ^^^ BitVec.ofNat 32 n).toNat = 4294967295 - n := by
      rw [BitVec.xor_comm, BitVec.xor_allOnes, BitVec.toNat_not, BitVec.toNat_ofNat, Nat.mod_eq_of_lt (by omega)]
    rw [BitVec.toNat_xor, BitVec.toNat_allOnes, BitVec.toNat_ofNat, Nat.mod_eq_of_lt (show n < 2 ^ 32 by omega)] at e1
    exact e1
  rw [h3]
theorem rsum_any (n : Nat) (hn : n < 4294967296) (w : World) : Calls Tryd.prog 9 #[.agg #[.int .u32 (rv n)]] w fun e w' => e = .returned (.int .u32 (rv (4294967295 - n))) ∧ Below w.heap.size w w' := by
  have hsg : IntKind.u32.signed = false := rfl
  go_enter Tryd.func9, Tryd.ntmps9
  go_wp2_with fail
  go_ret
  exact ⟨ret_int (not_r hn), by go_grown⟩
def Fit (rows : List (List UInt8)) : Prop := ∀ r ∈ rows, r.length ≤ 140737488355327
theorem flat_take (rows : List (List UInt8)) (k : Nat) (h : k < rows.length) : (rows.take (k + 1)).flatten = (rows.take k).flatten ++ (rows[k]?.getD []) := by
  rw [List.take_succ_eq_append_getElem h, List.flatten_append]
  simp [h]
theorem Blk.one {w : World} {g : Nat} {T : TypeId} {x y : Value} (hg : Blk w g T #[x]) : Blk (w.setCell ⟨g, 0, none⟩ y) g T #[y] := by
  have := hg.set 0 y
  simpa using this
/-- The row that is read in a later world was there at the start. -/
theorem Rds.at_row {w wr : World} {b off n k ck : Nat} {Ak : Option Addr} {rows : List (List UInt8)} (h : Rds w w.heap.size (some ⟨b, off, none⟩) n rows) (hk : k < n) (hb : Below w.heap.size w wr) (hc : wr.cell? ⟨b, off + k, none⟩ = some (.slice Ak (rows[k]?.getD []).length ck)) :
    Rd w w.heap.size Ak (rows[k]?.getD []).length (rows[k]?.getD []) := by
  obtain ⟨b', off', Ak', ck', e, hbl, hc', hr'⟩ := h.at_ hk
  injection e with e
  injection e with e1 e2
  subst e1 e2
  rw [hb.cell (p := ⟨b, off + k, none⟩) hbl, hc'] at hc
  injection hc with hc
  injection hc with h1 h2 h3
  subst h1
  exact hr'
set_option maxHeartbeats 1000000 in
theorem with_any {A : Option Addr} {N c : Nat} {rows : List (List UInt8)} (n : Nat) (hn : n < 4294967296) {w : World} (HT : HalvesAt w) (r : Rds w w.heap.size A N rows) (hN : N ≤ 9223372036854775807) (hF : Fit rows) :
    Calls Tryd.prog 8 #[.agg #[.int .u32 (rv n)], .slice A N c] w fun e w' => e = .returned (.agg #[.int .u32 (rv (feed n rows.flatten))]) ∧ Below w.heap.size w w' := by
  have Hl := Lib.hid r.1
  have HF := Lib.hid hF
  have HT' := Lib.hid HT
  have Hn := Lib.hid hn
  clear hF HT hn
  have hbb : Below w.heap.size w ((w.alloc (.cells #[.int .u32 (rv n)] 28)).alloc (.cells #[.int .u32 0] 28)) := by go_grown
  have hgg : Blk ((w.alloc (.cells #[.int .u32 (rv n)] 28)).alloc (.cells #[.int .u32 0] 28)) w.heap.size 28 #[.int .u32 (rv n)] := (Blk.new _ _ _).alloc _
  have hgr : Blk ((w.alloc (.cells #[.int .u32 (rv n)] 28)).alloc (.cells #[.int .u32 0] 28)) (w.heap.size + 1) 28 #[.int .u32 0] := by
    have := Blk.new (w.alloc (.cells #[.int .u32 (rv n)] 28)) 28 #[.int .u32 0]
    simpa using this
  go_enter Tryd.func8, Tryd.ntmps8
  go_wp2
  go_loopw [11] (fun c wr => ∃ k : Nat, k ≤ N ∧ c = .int .i64 k ∧ Blk wr w.heap.size 28 #[.int .u32 (rv (feed n (rows.take k).flatten))] ∧ Blk wr (w.heap.size + 1) 28 #[.int .u32 0] ∧ Below w.heap.size w wr) (fun c _ => N - (intOf c).toNat)
  case atStart => exact ⟨0, by omega, rfl, hgg, hgr, hbb⟩
  case round =>
    clear hbb hgg hgr
    obtain ⟨k, hk, rfl, hg, hr, hb⟩ := hrel
    by_cases hlt : k < N
    · obtain ⟨b, off, Ak, ck, rfl, hbl, hc, hrk⟩ := (r.below hb).at_ hlt
      have HP := Lib.hid (r.at_row hlt hb hc)
      have hlen : (rows[k]?.getD []).length ≤ 140737488355327 := by
        have : k < rows.length := by rw [Hl.out]; exact hlt
        simp only [List.getElem?_eq_getElem this, Option.getD_some]
        exact HF.out _ (List.getElem_mem _)
      have Hf := Lib.hid (flat_take rows k (by rw [Hl.out]; exact hlt))
      have hm : feed n (rows.take k).flatten < 4294967296 := feed_lt _ Hn.out
      have Hm := Lib.hid hm
      clear hm
      generalize rows[k]?.getD [] = part at *
      generalize (rows.take k).flatten = prev at *
      go_wp2_with fail
      go_loopw [17] (fun c wq => ∃ j : Nat, j ≤ part.length ∧ c = .int .i64 j ∧ Blk wq w.heap.size 28 #[.int .u32 (rv (feed (feed n prev) (part.take j)))] ∧ Blk wq (w.heap.size + 1) 28 #[.int .u32 0] ∧ Below w.heap.size w wq) (fun c _ => part.length - (intOf c).toNat)
      case atStart => exact ⟨0, by omega, rfl, hg, hr, hb⟩
      case round =>
        clear hg hr hb hrk
        obtain ⟨j, hj, rfl, hg, hr, hb⟩ := hrel
        by_cases hlt2 : j < part.length
        · have hp : Rd w w.heap.size Ak part.length part := HP.out
          obtain ⟨b2, off2, rfl, hbl2, hc2⟩ := (hp.below hb).at_ hlt2
          have Hf2 := Lib.hid (feed_take (feed n prev) part j hlt2)
          have hm2 : feed (feed n prev) (part.take j) < 4294967296 := feed_lt _ Hm.out
          have hu := (part[j]?.getD 0).toNat_lt
          generalize part[j]?.getD 0 = u at *
          generalize feed (feed n prev) (part.take j) = m at *
          have hx : Hid (m ^^^ u.toNat < 4294967296) := Lib.hid (Nat.xor_lt_two_pow (n := 32) hm2 (by omega))
          have hxx : bits .xor .u32 (rv m) (bv u) = rv (m ^^^ u.toNat) := bits_xor_r hm2 (by omega)
          have hub := bv_lt u
          have hub0 := bv_nn u
          obtain ⟨z0, z1⟩ := cell1 hg
          clear hm2 hu
          go_wp2_with fail
          refine (shifted_any _ hx.out _ (HT'.out.below hb)).mono ?_
          rintro e w' ⟨rfl, rfl⟩
          have hg2 := hg.one (y := .int .u32 (rv (Sn 8 (m ^^^ u.toNat))))
          have hr2 := hr.far (p := ⟨w.heap.size, 0, none⟩) (by simp) (.int .u32 (rv (Sn 8 (m ^^^ u.toNat))))
          go_wp2_with fail
          go_roundw
          case rel => exact ⟨j + 1, by omega, by go_num, by rw [Hf2.out]; exact hg2, hr2, hb.setCell (Nat.le_refl _) _⟩
          case measure => simp [intOf]; omega
        · obtain rfl : j = part.length := by omega
          have Hg := Lib.hid hg
          clear hg
          go_wp2_with fail
          go_roundw
          case rel => exact ⟨k + 1, by omega, by go_num, by rw [Hf.out, feed_append]; have := Hg.out; rw [List.take_length] at this; exact this, hr, hb⟩
          case measure => simp [intOf]; omega
    · obtain rfl : k = N := by omega
      rw [List.take_of_length_le (by rw [Hl.out]; exact Nat.le_refl _)] at hg
      obtain ⟨z0, z1⟩ := cell1 hg
      obtain ⟨y0, y1⟩ := cell1 hr
      go_wp2_with fail
      have hr2 := hr.one (y := .int .u32 (rv (feed n rows.flatten)))
      obtain ⟨x0, x1⟩ := cell1 hr2
      refine bodyPost_ret (v := .agg #[.int .u32 (rv (feed n rows.flatten))]) (by simp [results, Tryd.results8, go_sem, x0]) rfl ⟨rfl, hb.setCell (by simp) _⟩
theorem sof_any {A : Option Addr} {N c : Nat} {rows : List (List UInt8)} {w : World} (HT : HalvesAt w) (r : Rds w w.heap.size A N rows) (hN : N ≤ 9223372036854775807) (hF : Fit rows) :
    Calls Tryd.prog 15 #[.slice A N c] w fun e w' => e = .returned (.int .u32 (rv (crcN rows.flatten))) ∧ Below w.heap.size w w' := by
  have hlt : Hid (feed 4294967295 rows.flatten < 4294967296) := Lib.hid (feed_lt _ (by decide))
  have HT' := Lib.hid HT
  have HF := Lib.hid hF
  have H32 : Hid (4294967295 < 4294967296) := Lib.hid (by decide)
  clear HT hF
  go_enter Tryd.func15, Tryd.ntmps15
  go_wp2_with fail
  refine (start_any _).mono ?_
  rintro e w1 ⟨rfl, b1⟩
  have r1 := r.step b1
  have HT1 := Lib.hid (HT'.out.below b1)
  go_wp2_with fail
  refine (with_any 4294967295 H32.out HT1.out r1 hN HF.out).mono ?_
  rintro e w2 ⟨rfl, b2⟩
  have b12 := bstep b1 b2
  go_wp2_with fail
  refine (rsum_any _ hlt.out _).mono ?_
  rintro e w3 ⟨rfl, b3⟩
  go_wp2_with fail
  go_ret
  exact ⟨rfl, bstep b12 b3⟩

/-! ### The document's own -/
theorem S_odd {m : Nat} (hm : m < 4294967296) (h : m % 2 = 1) : bits .xor .u32 (rv m / 2) 3988292384 = rv (S m) := by
  have h1 : rv m / 2 = rv (m / 2) := by unfold rv; omega
  have h2 : (3988292384 : Int) = rv P32 := by decide
  rw [h1, h2, bits_xor_r (by omega) (by decide)]
  unfold S
  rw [if_pos h]
theorem S_even {m : Nat} (h : ¬ m % 2 = 1) : rv m / 2 = rv (S m) := by
  unfold S rv
  rw [if_neg h]
  omega
theorem half_r {m : Nat} (hm : m < 4294967296) : (rv m).tdiv 2 % 4294967296 = rv m / 2 := by
  rw [Int.tdiv_eq_ediv_of_nonneg (rv_nn m)]
  unfold rv
  omega
theorem refsum_any {B : Nat} {A : Option Addr} {n c : Nat} {us : List UInt8} {w : World} (h : Rd w B A n us) (hn : n ≤ 9223372036854775807) :
    Calls Tryd.prog 10 #[.slice A n c] w fun e w' => e = .returned (.int .u32 (rv (crcN us))) ∧ w = w' := by
  have Hl := Lib.hid h.1
  have h32 : Hid (∀ vs, feed 4294967295 vs < 4294967296) := Lib.hid (fun vs => feed_lt vs (by decide))
  go_enter Tryd.func10, Tryd.ntmps10
  go_wp2
  go_loop [3, 4] (fun x i => ∃ k : Nat, k ≤ n ∧ i = .int .i64 k ∧ x = .int .u32 (rv (feed 4294967295 (us.take k)))) (fun _ i => n - (intOf i).toNat)
  case atStart => exact ⟨0, by omega, rfl, rfl⟩
  case round =>
    obtain ⟨k, hk, rfl, rfl⟩ := hrel
    by_cases hlt : k < n
    · obtain ⟨b, off, rfl, _, hc⟩ := h.at_ hlt
      have Hf := Lib.hid (feed_take 4294967295 us k (by rw [Hl.out]; exact hlt))
      have hm := h32.out (us.take k)
      have hu := (us[k]?.getD 0).toNat_lt
      generalize us[k]?.getD 0 = u at *
      generalize feed 4294967295 (us.take k) = m at *
      have hub := bv_lt u
      have hub0 := bv_nn u
      have hxx : bits .xor .u32 (rv m) (bv u) = rv (m ^^^ u.toNat) := bits_xor_r hm (by omega)
      have hx : Hid (m ^^^ u.toNat < 4294967296) := Lib.hid (Nat.xor_lt_two_pow (n := 32) hm (by omega))
      clear hm hu
      go_wp2_with fail
      generalize m ^^^ u.toNat = x at *
      go_loop [3, 5] (fun y i => ∃ j : Nat, j ≤ 8 ∧ i = .int .i64 j ∧ y = .int .u32 (rv (Sn j x))) (fun _ i => 8 - (intOf i).toNat)
      case atStart => exact ⟨0, by omega, rfl, rfl⟩
      case round =>
        obtain ⟨j, hj, rfl, rfl⟩ := hrel
        by_cases hlt2 : j < 8
        · have Hs := Lib.hid (show Sn (j + 1) x = S (Sn j x) from Sn_add j 1 x)
          have hlm : Sn j x < 4294967296 := Sn_lt _ hx.out
          generalize Sn j x = q at *
          have q0 := rv_nn q
          by_cases ho : q % 2 = 1
          · have t : (rv q % 2 == 1) = true := by unfold rv; simp; omega
            have e : bits .xor .u32 ((rv q).tdiv 2 % 4294967296) 3988292384 = rv (S q) := by rw [half_r hlm]; exact S_odd hlm ho
            have e := Lib.hid e
            clear hlm ho
            go_wp2_with fail
            go_round
            case rel => exact ⟨j + 1, by omega, by go_num, by first | rw [Hs.out, e.out] | rw [Hs.out]⟩
            case measure => simp [intOf]; omega
          · have t : (rv q % 2 == 1) = false := by unfold rv; simp; omega
            have e : Hid ((rv q).tdiv 2 % 4294967296 = rv (S q)) := Lib.hid (by rw [half_r hlm]; exact S_even ho)
            clear hlm ho
            go_wp2_with fail
            go_round
            case rel => exact ⟨j + 1, by omega, by go_num, by first | rw [Hs.out, e.out] | rw [Hs.out]⟩
            case measure => simp [intOf]; omega
        · obtain rfl : j = 8 := by omega
          go_wp2_with fail
          go_round
          case rel => exact ⟨k + 1, by omega, by go_num, by rw [Hf.out]⟩
          case measure => simp [intOf]; omega
    · obtain rfl : k = n := by omega
      have e : Hid (4294967295 - rv (feed 4294967295 (us.take k)) = rv (crcN us)) := Lib.hid (by
        rw [List.take_of_length_le (by rw [Hl.out]; exact Nat.le_refl _)]
        have := h32.out us
        unfold crcN rv
        omega)
      have q0 := rv_nn (feed 4294967295 (us.take k))
      have q1 : rv (feed 4294967295 (us.take k)) ≤ 4294967295 := by have := h32.out (us.take k); unfold rv; omega
      go_wp2_with fail
      go_ret
      exact ⟨ret_int e.out, rfl⟩

/-! ### Put, Get -/
def putL (n : Nat) : List UInt8 := [UInt8.ofNat n, UInt8.ofNat (n / 256), UInt8.ofNat (n / 65536), UInt8.ofNat (n / 16777216)]
theorem bv_mod (n : Nat) : bv (UInt8.ofNat n) = (n : Int) % 256 := by
  unfold bv
  have : (UInt8.ofNat n).toNat = n % 256 := UInt8.toNat_ofNat'
  rw [this]
  omega
theorem refput_any (n : Nat) (hn : n < 4294967296) (w : World) : Calls Tryd.prog 14 #[.int .u32 (rv n)] w fun e w' => ∃ g, e = .returned (.slice (some ⟨g, 0, none⟩) 4 4) ∧ Blk w' g 5 (bvs (putL n)).toArray ∧ Below w.heap.size w w' := by
  have q0 := rv_nn n
  go_enter Tryd.func14, Tryd.ntmps14
  have e : Hid (#[Value.int .u8 (rv n % 256), Value.int .u8 ((rv n).tdiv 256 % 256), Value.int .u8 ((rv n).tdiv 65536 % 256), Value.int .u8 ((rv n).tdiv 16777216 % 256)] = (bvs (putL n)).toArray) := Lib.hid (by
    simp only [putL, bvs, List.map_cons, List.map_nil, bv_mod, Int.tdiv_eq_ediv_of_nonneg q0]
    unfold rv
    simp)
  go_wp2_with fail
  go_ret
  exact ⟨_, rfl, by rw [← e.out]; exact Blk.new _ _ _, by go_grown⟩
theorem put_any (n : Nat) (hn : n < 4294967296) (w : World) : Calls Tryd.prog 12 #[.int .u32 (rv n)] w fun e w' => ∃ g, e = .returned (.slice (some ⟨g, 0, none⟩) 4 4) ∧ Blk w' g 5 (bvs (putL n)).toArray ∧ Below w.heap.size w w' := by
  have q0 := rv_nn n
  have hmk := make_bytes 4 (by omega) w
  rw [show (((4 : Nat)) : Int) = 4 from rfl, show (bvs (nulls 4)).toArray = #[Value.int .u8 0, Value.int .u8 0, Value.int .u8 0, Value.int .u8 0] from rfl] at hmk
  have e : Hid (#[Value.int .u8 (rv n % 256), Value.int .u8 (rv n / 256 % 256), Value.int .u8 (rv n / 65536 % 256), Value.int .u8 (rv n / 16777216 % 256)] = (bvs (putL n)).toArray) := Lib.hid (by
    simp only [putL, bvs, List.map_cons, List.map_nil, bv_mod]
    unfold rv
    simp)
  go_enter Tryd.func12, Tryd.ntmps12
  go_wp2_with fail
  go_rounds 5
  go_ret
  exact ⟨_, rfl, by rw [← e.out]; exact Blk.new _ _ _, by go_grown⟩
/-- The number that four bytes are. -/
def getN (us : List UInt8) : Nat := (us[0]?.getD 0).toNat + 256 * (us[1]?.getD 0).toNat + 65536 * (us[2]?.getD 0).toNat + 16777216 * (us[3]?.getD 0).toNat
theorem get_size {A : Option Addr} {n c : Nat} {w : World} (hn : n ≠ 4) (hn2 : n ≤ 9223372036854775807) : Calls Tryd.prog 11 #[.slice A n c] w fun e w' => e = .returned (.tuple #[.int .u32 0, .int .i64 4]) ∧ w = w' := by
  have t : ((n : Int) != 4) = true := by simp; omega
  clear hn
  go_enter Tryd.func11, Tryd.ntmps11
  go_wp2_with fail
  go_ret2
  exact ⟨rfl, rfl⟩
theorem or_add (a b k : Nat) (h : a < 2 ^ k) : a ||| b * 2 ^ k = a + b * 2 ^ k := by
  have := Nat.two_pow_add_eq_or_of_lt h b
  rw [Nat.mul_comm b, Nat.or_comm, ← this]
  omega
theorem or4 (u0 u1 u2 u3 : UInt8) : bits .or .u32 (bits .or .u32 (bits .or .u32 (bits .or .u32 0 (bv u0)) (bv u1 * 256)) (bv u2 * 65536)) (bv u3 * 16777216) = rv (u0.toNat + 256 * u1.toNat + 65536 * u2.toNat + 16777216 * u3.toNat) := by
  have h0 := u0.toNat_lt
  have h1 := u1.toNat_lt
  have h2 := u2.toNat_lt
  have h3 := u3.toNat_lt
  have e1 : bits .or .u32 0 (bv u0) = ((u0.toNat : Nat) : Int) := by
    have := u32_or_nat 0 u0.toNat (by omega) (by omega)
    simpa [bv] using this
  have e2 : bits .or .u32 ((u0.toNat : Nat) : Int) (bv u1 * 256) = ((u0.toNat + u1.toNat * 256 : Nat) : Int) := by
    have := u32_or_nat u0.toNat (u1.toNat * 256) (by omega) (by omega)
    rw [show (256 : Nat) = 2 ^ 8 from rfl, or_add _ _ 8 (by omega)] at this
    rw [show bv u1 * 256 = ((u1.toNat * 2 ^ 8 : Nat) : Int) by unfold bv; omega, this]
  have e3 : bits .or .u32 ((u0.toNat + u1.toNat * 256 : Nat) : Int) (bv u2 * 65536) = ((u0.toNat + u1.toNat * 256 + u2.toNat * 65536 : Nat) : Int) := by
    have := u32_or_nat (u0.toNat + u1.toNat * 256) (u2.toNat * 65536) (by omega) (by omega)
    rw [show (65536 : Nat) = 2 ^ 16 from rfl, or_add _ _ 16 (by omega)] at this
    rw [show bv u2 * 65536 = ((u2.toNat * 2 ^ 16 : Nat) : Int) by unfold bv; omega, this]
  have e4 : bits .or .u32 ((u0.toNat + u1.toNat * 256 + u2.toNat * 65536 : Nat) : Int) (bv u3 * 16777216) = ((u0.toNat + u1.toNat * 256 + u2.toNat * 65536 + u3.toNat * 16777216 : Nat) : Int) := by
    have := u32_or_nat (u0.toNat + u1.toNat * 256 + u2.toNat * 65536) (u3.toNat * 16777216) (by omega) (by omega)
    rw [show (16777216 : Nat) = 2 ^ 24 from rfl, or_add _ _ 24 (by omega)] at this
    rw [show bv u3 * 16777216 = ((u3.toNat * 2 ^ 24 : Nat) : Int) by unfold bv; omega, this]
  rw [e1, e2, e3, e4]
  unfold rv
  omega
theorem get_four {B : Nat} {A : Option Addr} {c : Nat} {us : List UInt8} {w : World} (h : Rd w B A 4 us) : Calls Tryd.prog 11 #[.slice A 4 c] w fun e w' => e = .returned (.tuple #[.int .u32 (rv (getN us)), .int .i64 0]) ∧ w = w' := by
  obtain ⟨b, off, e, _, hc0⟩ := h.at_ (k := 0) (by omega)
  subst e
  obtain ⟨b1, off1, e, _, hc1⟩ := h.at_ (k := 1) (by omega)
  injection e with e; injection e with e1 e2; subst e1 e2
  obtain ⟨b2, off2, e, _, hc2⟩ := h.at_ (k := 2) (by omega)
  injection e with e; injection e with e1 e2; subst e1 e2
  obtain ⟨b3, off3, e, _, hc3⟩ := h.at_ (k := 3) (by omega)
  injection e with e; injection e with e1 e2; subst e1 e2
  rw [Nat.add_zero] at hc0
  have hg : Hid (getN us = (us[0]?.getD 0).toNat + 256 * (us[1]?.getD 0).toNat + 65536 * (us[2]?.getD 0).toNat + 16777216 * (us[3]?.getD 0).toNat) := Lib.hid rfl
  generalize us[0]?.getD 0 = u0 at *
  generalize us[1]?.getD 0 = u1 at *
  generalize us[2]?.getD 0 = u2 at *
  generalize us[3]?.getD 0 = u3 at *
  have p0 := bv_lt u0
  have p1 := bv_lt u1
  have p2 := bv_lt u2
  have p3 := bv_lt u3
  have q0 := bv_nn u0
  have q1 := bv_nn u1
  have q2 := bv_nn u2
  have q3 := bv_nn u3
  go_enter Tryd.func11, Tryd.ntmps11
  go_wp2_with fail
  go_rounds 5
  go_ret2
  exact ⟨by rw [or4, ← hg.out]; rfl, rfl⟩
theorem getN_put {n : Nat} (hn : n < 4294967296) : getN (putL n) = n := by
  have h : ∀ m : Nat, (UInt8.ofNat m).toNat = m % 256 := fun m => UInt8.toNat_ofNat'
  simp only [getN, putL, List.getElem?_cons_zero, List.getElem?_cons_succ, Option.getD_some, h]
  omega
theorem getN_lt (us : List UInt8) : getN us < 4294967296 := by
  unfold getN
  have h0 := (us[0]?.getD 0).toNat_lt
  have h1 := (us[1]?.getD 0).toNat_lt
  have h2 := (us[2]?.getD 0).toNat_lt
  have h3 := (us[3]?.getD 0).toNat_lt
  omega
theorem put_getN {us : List UInt8} (h : us.length = 4) : putL (getN us) = us := by
  match us, h with
  | [a, b, c, d], _ =>
    have ha := a.toNat_lt
    have hb := b.toNat_lt
    have hc := c.toNat_lt
    have hd := d.toNat_lt
    have e : ∀ (m : Nat) (u : UInt8), m % 256 = u.toNat → UInt8.ofNat m = u := fun m u hm => by
      apply UInt8.toNat_inj.1
      rw [UInt8.toNat_ofNat']
      exact hm
    simp only [getN, putL, List.getElem?_cons_zero, List.getElem?_cons_succ, Option.getD_some]
    rw [e _ a (by omega), e _ b (by omega), e _ c (by omega), e _ d (by omega)]
end Go.Proofs.YtejnkohgecclbaaDoor
