import Derived.Test.YthfbgcjfnpajjaaDoorNatJ
import Derived.Lib.Bytealg
/- nat.Parse. -/
namespace Go.Proofs.YthfbgcjfnpajjaaDoor
open Go.RowKit
set_option linter.unusedVariables false
set_option maxRecDepth 100000

theorem digL_index (c : UInt8) (hc : isHex c = true) : Lib.indexByte digL c = (dv c : Int) := by
  have := of_decide_eq_true (all_u8 (P := fun c => decide (isHex c = true → Lib.indexByte digL c = (dv c : Int))) (by decide +kernel) c)
  exact this hc
theorem index_any (c : UInt8) (hc : isHex c = true) (w : World) : Calls Tryd.prog 28 #[.string ⟨#[48, 49, 50, 51, 52, 53, 54, 55, 56, 57, 97, 98, 99, 100, 101, 102]⟩, .int .u8 (c.toNat : Int)] w fun e w' => e = .returned (.int .i64 (uv (dv c))) ∧ w = w' := by
  have hl : ∀ X : World, (callFunc 49 #[.string ⟨#[48, 49, 50, 51, 52, 53, 54, 55, 56, 57, 97, 98, 99, 100, 101, 102]⟩, .int .u8 (c.toNat : Int)]).run Tryd.prog X = .ok (.value (.int .i64 (uv (dv c)))) X := fun X => by
    rw [run_callFunc_extern Tryd.func49 (by kernel_rfl) (by kernel_rfl) (by kernel_rfl) (e := Extern.BytealgIndexByte.indexByte) (by kernel_rfl), Lib.run_indexByteString]
    simp only [Result.andThen]
    have e : (c.toNat : Int).toNat.toUInt8 = c := by simp
    rw [e]
    have := digL_index c hc
    unfold digL at this
    rw [this]
    rfl
  clear hc
  go_enter Tryd.func28, Tryd.ntmps28
  go_wp2
  go_ret
  exact ⟨rfl, rfl⟩
/-! ### What the last places of a text come to -/
theorem drop_next {l : List UInt8} {i : Nat} (h : i < l.length) : l.drop (l.length - (i + 1)) = l[l.length - 1 - i]?.getD 0 :: l.drop (l.length - i) := by
  have h1 : l.length - (i + 1) < l.length := by omega
  rw [List.drop_eq_getElem_cons h1, show l.length - (i + 1) + 1 = l.length - i by omega]
  congr 1
  have : l[l.length - 1 - i]? = some l[l.length - (i + 1)] := by
    rw [show l.length - 1 - i = l.length - (i + 1) by omega]; exact List.getElem?_eq_getElem h1
  rw [this]; rfl
theorem val_next {l : List UInt8} {i : Nat} (h : i < l.length) : hexV (l.drop (l.length - (i + 1))) = hexV (l.drop (l.length - i)) + dv (l[l.length - 1 - i]?.getD 0) * 16 ^ i := by
  rw [drop_next h, hexV_cons, List.length_drop, show l.length - (l.length - i) = i by omega]; omega
theorem val_lt {l : List UInt8} (hl : ∀ c ∈ l, isHex c = true) {i : Nat} (h : i ≤ l.length) : hexV (l.drop (l.length - i)) < 16 ^ i := by
  have := hexV_lt (l := l.drop (l.length - i)) fun c hc => hl c (List.mem_of_mem_drop hc)
  rwa [List.length_drop, show l.length - (l.length - i) = i by omega] at this
theorem w64_pow (i : Nat) : 16 ^ i = 16 ^ (i % 16) * W64 ^ (i / 16) := by
  have e : W64 = 16 ^ 16 := by decide
  rw [e, ← Nat.pow_mul, ← Nat.pow_add, Nat.add_comm, Nat.div_add_mod]
/-- A digit more, at its place. -/
theorem place_digit {R : List Nat} {i d V : Nat} (hR : i / 16 < R.length) (hn : num W64 R = V) (hV : V < 16 ^ i) (hd : d < 16) :
    dg R (i / 16) < 16 ^ (i % 16) ∧ dg R (i / 16) + d * 16 ^ (i % 16) < W64 ∧ num W64 (R.set (i / 16) (dg R (i / 16) + d * 16 ^ (i % 16))) = V + d * 16 ^ i := by
  have h1 := num_split W64 hR
  have hp : 0 < W64 ^ (i / 16) := Nat.pow_pos W64_pos
  have h2 : dg R (i / 16) < 16 ^ (i % 16) := by
    have h3 : dg R (i / 16) * W64 ^ (i / 16) < 16 ^ (i % 16) * W64 ^ (i / 16) := by rw [← w64_pow]; omega
    exact Nat.lt_of_mul_lt_mul_right h3
  refine ⟨h2, ?_, ?_⟩
  · have h4 : d * 16 ^ (i % 16) ≤ 15 * 16 ^ (i % 16) := Nat.mul_le_mul_right _ (by omega)
    have h5 : 16 ^ (i % 16) ≤ 16 ^ 15 := Nat.pow_le_pow_right (by omega) (by omega)
    have h6 : W64 = 16 * 16 ^ 15 := by decide
    omega
  · have h7 := num_set W64 (dg R (i / 16) + d * 16 ^ (i % 16)) hR
    rw [hn, Nat.add_mul, Nat.mul_assoc, ← w64_pow] at h7
    omega
theorem or_digit {x d r : Nat} (hx : x < 16 ^ r) (hlt : x + d * 16 ^ r < W64) : bits .or .u64 (uv x) (uv (d * 16 ^ r)) = uv (x + d * 16 ^ r) := by
  unfold W64 at hlt
  have e : (16 : Nat) ^ r = 2 ^ (4 * r) := by rw [Nat.pow_mul]
  unfold uv
  rw [u64_or_nat _ _ (by omega) (by omega)]
  rw [e] at hx ⊢
  have := Nat.two_pow_add_eq_or_of_lt hx d
  rw [Nat.or_comm, Nat.mul_comm d, ← this, Nat.add_comm]
theorem shl_digit {d r : Nat} (h : d * 16 ^ r < W64) : IntKind.u64.wrap (uv d * 2 ^ (r * 4)) = uv (d * 16 ^ r) := by
  have e : uv d * 2 ^ (r * 4) = ((d * 16 ^ r : Nat) : Int) := by
    rw [show (16 : Nat) = 2 ^ 4 from rfl, ← Nat.pow_mul, Nat.mul_comm 4]
    simp [uv]
  rw [e, IntKind.wrap_u64]
  unfold W64 at h
  unfold uv
  omega
theorem textB_hex {l : List UInt8} (h : textB l = true) : ∀ c ∈ l, isHex c = true := by
  unfold textB at h
  simp only [Bool.or_eq_true, Bool.and_eq_true] at h
  rcases h with h | ⟨_, h⟩
  · have : l = [48] := by simpa using h
    subst this
    intro c hc
    simp at hc
    subst hc
    rfl
  · exact fun c hc => List.all_eq_true.1 h c hc
set_option maxHeartbeats 2000000 in
theorem parse_yes (l : List UInt8) {w : World} (hl : l.length ≤ 8192) (ht : textB l = true) :
    Calls Tryd.prog 8 #[.string (bs l)] w (GivesPair (hexV l) w) := by
  have Hx := Lib.hid (textB_hex ht)
  have hsz := bs_size l
  have b0 := balloc w (.cells #[.slice none 0 0] 27)
  have gR := Blk.new w 27 #[.slice none 0 0]
  have C := istext_any l (w := w.alloc (.cells #[.slice none 0 0] 27)) (by omega)
  rw [ht] at C
  obtain ⟨n, hn⟩ : ∃ n, l.length = n := ⟨_, rfl⟩
  obtain ⟨L, hL⟩ : ∃ L, (n + 15) / 16 = L := ⟨_, rfl⟩
  have hLi : ((n : Int) + 16 - 1) / 16 = (L : Int) := by omega
  have hLi2 : ((n : Int) + 15) / 16 = (L : Int) := by omega
  have Hn := Lib.hid hn
  have HL := Lib.hid hL
  rw [hn] at hsz hl
  have hL512 : L ≤ 512 := by omega
  clear ht hn hL
  go_enter Tryd.func8, Tryd.ntmps8
  go_wp2_with fail
  refine C.mono ?_
  rintro e w1 ⟨rfl, b1⟩
  have gR1 := blk_size gR b1
  have k1 := bstep b0 b1
  have hR1 := gR1.lt
  have hmk := make_words L (by omega) w1
  have HR := Lib.hid (gR1.alloc (.cells (uvs (noughts L)).toArray 22))
  have HG := Lib.hid (Blk.new w1 22 (uvs (noughts L)).toArray)
  have k2 := bstep k1 (balloc w1 (.cells (uvs (noughts L)).toArray 22))
  clear C gR b0 b1 gR1 k1
  go_wp2_with fail
  clear hmk hLi hLi2
  have HV : Hid (num W64 (noughts L) = hexV (l.drop (n - 0)) ∧ (noughts L).length = L ∧ Below' W64 (noughts L)) := Lib.hid ⟨by rw [num_noughts, Nat.sub_zero, List.drop_of_length_le (by rw [Hn.out]; exact Nat.le_refl _)]; rfl, noughts_length L, noughts_lt L⟩
  generalize w1.alloc (.cells (uvs (noughts L)).toArray 22) = W0 at *
  generalize w1.heap.size = g at *
  go_loopw [19] (fun k wr => ∃ i R, i ≤ n ∧ k = .int .i64 ((i : Nat) : Int) ∧ Hid (num W64 R = hexV (l.drop (n - i)) ∧ R.length = L ∧ Below' W64 R) ∧ Hid (Blk wr w.heap.size 27 #[.slice none 0 0]) ∧ Hid (Blk wr g 22 (uvs R).toArray) ∧ Below w.heap.size w wr) (fun k _ => n - (intOf k).toNat)
  case atStart => exact ⟨0, _, by omega, rfl, HV, HR, HG, k2⟩
  case round =>
    clear HR HG k2 HV
    obtain ⟨i, R, hi, rfl, HV, HR, HG, kb⟩ := hrel
    have hgl := HG.out.lt
    by_cases hlt : i < n
    · have hq : i / 16 < L := by have := HL.out; omega
      have hix := fun h => bs_get (l := l) (k := n - 1 - i) (by rw [Hn.out]; omega) h
      have hvn := val_next (l := l) (i := i) (by rw [Hn.out]; exact hlt)
      have hvl := val_lt Hx.out (i := i) (by rw [Hn.out]; omega)
      rw [Hn.out] at hvn hvl
      have hch : isHex (l[n - 1 - i]?.getD 0) = true := by
        have h1 : n - 1 - i < l.length := by rw [Hn.out]; omega
        rw [List.getElem?_eq_getElem h1]
        exact Hx.out _ (List.getElem_mem _)
      generalize l[n - 1 - i]?.getD 0 = c at *
      have hd := dv_lt hch
      have CI := fun X => index_any c hch X
      generalize dv c = d at *
      obtain ⟨p1, p2, p3⟩ := place_digit (R := R) (i := i) (d := d) (by rw [HV.out.2.1]; exact hq) HV.out.1 hvl hd
      rw [← hvn] at p3
      have hor := or_digit p1 p2
      have hsh := shl_digit (d := d) (r := i % 16) (by omega)
      have HB := Lib.hid (below_set HV.out.2.2 p2 (i / 16))
      have HP3 := Lib.hid p3
      have hcl : wr.cell? ⟨g, i / 16, none⟩ = some (.int .u64 (uv (dg R (i / 16)))) := by
        rw [HG.out.cell (i / 16)]
        simpa using uvs_get R (i / 16) (dg R (i / 16)) (dg_some (by rw [HV.out.2.1]; exact hq))
      have hfz := HG.out.frozen (i / 16)
      have hu0 := uv_nn d
      have hu1 : uv d < 16 := by unfold uv; omega
      have hqi : (i : Int) / 16 < (L : Int) := by omega
      clear hvn hvl p1 p2 p3 hd hch
      go_wp2_with fail
      refine (CI _).mono ?_
      rintro e w' ⟨rfl, rfl⟩
      clear CI
      go_wp2_with fail
      go_region
      have gG := HG.out.set (i / 16) (.int .u64 (uv (dg R (i / 16) + d * 16 ^ (i % 16))))
      rw [uvs_set] at gG
      have GG := Lib.hid gG.drew
      have GR := Lib.hid ((HR.out.far (p := ⟨g, i / 16, none⟩) (by simp; omega) (.int .u64 (uv (dg R (i / 16) + d * 16 ^ (i % 16))))).drew)
      have kW := (kb.setCell (p := ⟨g, i / 16, none⟩) (by simp; omega) (.int .u64 (uv (dg R (i / 16) + d * 16 ^ (i % 16))))).drew
      have HV2 : Hid (num W64 (R.set (i / 16) (dg R (i / 16) + d * 16 ^ (i % 16))) = hexV (l.drop (n - (i + 1))) ∧ (R.set (i / 16) (dg R (i / 16) + d * 16 ^ (i % 16))).length = L ∧ Below' W64 (R.set (i / 16) (dg R (i / 16) + d * 16 ^ (i % 16)))) := Lib.hid ⟨HP3.out, by rw [List.length_set]; exact HV.out.2.1, HB.out⟩
      clear gG
      go_wp2_with fail
      go_roundw
      case rel => exact ⟨i + 1, _, by omega, by go_num, HV2, GR, GG, kW⟩
      case measure => simp [intOf]; omega
    · obtain rfl : n = i := by omega
      have hV := HV.out
      rw [Nat.sub_self, List.drop_zero] at hV
      have hW := Wd.of_blk HG.out hV.2.2
      rw [hV.2.1] at hW
      have hBD : num W64 R < BD := by
        have h1 := num_lt hV.2.2
        rw [hV.2.1] at h1
        exact Nat.lt_of_lt_of_le h1 (Nat.pow_le_pow_right (n := W64) W64_pos (show L ≤ K512 from hL512))
      have C := bounded_ok (c := L) hW hgl (Nat.le_refl _) (by omega) hBD
      rw [hV.1] at C
      clear hV hW hBD
      go_wp2_with fail
      refine C.mono ?_
      rintro e w2 ⟨v, rfl, hv, b2⟩
      have hR2 := blk_size HR.out b2
      have kb2 := bstep kb b2
      obtain ⟨A3, n3, c3, ws3, rfl, w3⟩ := hv
      obtain ⟨z0, z1⟩ := blk_cell hR2
      have hlt3 := hR2.lt
      clear C
      go_wp2_with fail
      have hR3 := blk_one (y := .slice A3 n3 c3) hR2
      obtain ⟨y0, y1⟩ := blk_cell hR3
      refine bodyPost_ret (v := .tuple #[.agg #[.slice A3 n3 c3], .int .i64 0]) (by simp [results, Tryd.results8, go_sem, y0]) rfl ?_
      have hv : NatIs w2 w2.heap.size (.agg #[.slice A3 n3 c3]) (hexV l) := ⟨A3, n3, c3, ws3, rfl, w3⟩
      exact ⟨_, rfl, (hv.set hR2).more (by rw [size_setCell']; exact Nat.le_refl _), kb2.setCell (Nat.le_refl _) _⟩
end Go.Proofs.YthfbgcjfnpajjaaDoor
