import Derived.Test.YthfbgcjfnpajjaaDoorHexM
import Derived.Test.YthfbgcjfnpajjaaDoorNatH
import Derived.Lib.Strings
import Derived.Laws.IdiomStrings
/- Texts: strings.TrimLeft, nat.Text. -/
namespace Go.Proofs.YthfbgcjfnpajjaaDoor
open Go.RowKit
set_option linter.unusedVariables false
set_option maxRecDepth 100000

/-- A string of these bytes. -/
def bs (l : List UInt8) : ByteArray := ⟨l.toArray⟩
theorem bs_toList (l : List UInt8) : (bs l).toList = l := by unfold bs; simp
theorem bs_data (l : List UInt8) : (bs l).data.toList = l := rfl
theorem bs_size (l : List UInt8) : (bs l).size = l.length := by rw [Lib.size_eq, bs_data]
theorem bs_tail (c : UInt8) (l : List UInt8) : (bs (c :: l)).extract 1 (bs (c :: l)).size = bs l := by
  rw [Lib.extract_eq, bs_data, bs_size]
  unfold bs
  simp
def strLen : Value → Nat
  | .string s => s.size
  | _ => 0
theorem trimbyte_any (l : List UInt8) (w : World) (hl : l.length ≤ 9223372036854775807) :
    Calls Tryd.prog 41 #[.string (bs l), .int .u8 48] w fun e w' => e = .returned (.string (bs (strip0 l))) ∧ w = w' := by
  go_enter Tryd.func41, Tryd.ntmps41
  go_wp2
  go_loop [0] (fun s => ∃ t : List UInt8, s = .string (bs t) ∧ Hid (strip0 t = strip0 l) ∧ t.length ≤ 9223372036854775807) (fun s => strLen s)
  case atStart => exact ⟨l, rfl, Lib.hid rfl, hl⟩
  case round =>
    obtain ⟨t, rfl, ht, hlt⟩ := hrel
    cases t with
    | nil =>
      have hsz : (bs []).size = 0 := rfl
      have he : Hid ([] = strip0 l) := Lib.hid ht.out
      go_wp2_with fail
      go_ret
      exact ⟨by rw [← he.out]; rfl, rfl⟩
    | cons c t =>
      have hsz : (bs (c :: t)).size = t.length + 1 := bs_size _
      have hsl := bs_tail c t
      rw [hsz] at hsl
      have hpos : (0 : Int) < (t.length : Int) + 1 := by omega
      have hix : ∀ h : 0 < (bs (c :: t)).size, (bs (c :: t))[0]'h = c := fun h => rfl
      have hlt2 : t.length ≤ 9223372036854775807 := by simp at hlt; omega
      clear hlt
      cases hc : (c == 48)
      · have tc : ((c.toNat : Int) == 48) = false := by
          have := bv_beq c 48
          rw [hc] at this
          exact this
        have he : Hid (c :: t = strip0 l) := Lib.hid (by rw [← ht.out, strip0_no hc])
        clear hc
        go_wp2_with fail
        go_ret
        exact ⟨by rw [← he.out]; rfl, rfl⟩
      · have tc : ((c.toNat : Int) == 48) = true := by
          have := bv_beq c 48
          rw [hc] at this
          exact this
        have he : Hid (strip0 t = strip0 l) := Lib.hid (by rw [← ht.out, strip0_yes hc])
        clear hc
        go_wp2_with fail
        go_round
        case rel => exact ⟨t, rfl, he, hlt2⟩
        case measure => simp [strLen, bs_size]
theorem trim0_any (l : List UInt8) (w : World) (hl : l.length ≤ 9223372036854775807) :
    Calls Tryd.prog 31 #[.string (bs l), .string ⟨#[48]⟩] w fun e w' => e = .returned (.string (bs (strip0 l))) ∧ w = w' := by
  have htl := bs_toList l
  cases l with
  | nil =>
    go_enter Tryd.func31, Tryd.ntmps31
    go_wp2_with fail
    go_ret
    exact ⟨rfl, rfl⟩
  | cons c l =>
    have C := trimbyte_any (c :: l) w hl
    generalize strip0 (c :: l) = r at *
    have hix : ∀ h : 0 < (⟨#[48]⟩ : ByteArray).size, ((⟨#[48]⟩ : ByteArray)[0]'h).toNat = 48 := fun h => rfl
    go_enter Tryd.func31, Tryd.ntmps31
    go_wp2_with fail
    refine C.mono ?_
    rintro e w' ⟨rfl, rfl⟩
    go_wp2_with fail
    go_ret
    exact ⟨rfl, rfl⟩
/-! ### Text -/
theorem hex_get : ∀ d, d < 16 → ∀ h : d < (⟨#[48, 49, 50, 51, 52, 53, 54, 55, 56, 57, 97, 98, 99, 100, 101, 102]⟩ : ByteArray).size, (⟨#[48, 49, 50, 51, 52, 53, 54, 55, 56, 57, 97, 98, 99, 100, 101, 102]⟩ : ByteArray)[d]'h = dgc d
  | 0, _, _ => rfl
  | 1, _, _ => rfl
  | 2, _, _ => rfl
  | 3, _, _ => rfl
  | 4, _, _ => rfl
  | 5, _, _ => rfl
  | 6, _, _ => rfl
  | 7, _, _ => rfl
  | 8, _, _ => rfl
  | 9, _, _ => rfl
  | 10, _, _ => rfl
  | 11, _, _ => rfl
  | 12, _, _ => rfl
  | 13, _, _ => rfl
  | 14, _, _ => rfl
  | 15, _, _ => rfl
  | d + 16, h, _ => absurd h (by omega)
theorem hex_at (d : Nat) (hd : d < 16) (h : (uv d).toNat < (⟨#[48, 49, 50, 51, 52, 53, 54, 55, 56, 57, 97, 98, 99, 100, 101, 102]⟩ : ByteArray).size) : ((((⟨#[48, 49, 50, 51, 52, 53, 54, 55, 56, 57, 97, 98, 99, 100, 101, 102]⟩ : ByteArray)[(uv d).toNat]'h).toNat : Nat) : Int) = bv (dgc d) := by
  have := hex_get d hd h
  unfold bv
  rw [← this]
  rfl
theorem nibble {x k : Nat} (hx : x < 18446744073709551616) : bits .and .u64 (uv x / 2 ^ (k * 4)) 15 = uv (x / 16 ^ k % 16) := by
  have e1 : uv x / 2 ^ (k * 4) = ((x / 16 ^ k : Nat) : Int) := by
    rw [show (16 : Nat) = 2 ^ 4 from rfl, ← Nat.pow_mul, Nat.mul_comm 4]
    simp [uv]
  have := u64_and_nat (x / 16 ^ k) 15 (Nat.lt_of_le_of_lt (Nat.div_le_self _ _) hx) (by omega)
  rw [show (((15 : Nat)) : Int) = 15 from rfl] at this
  rw [e1, this, show (15 : Nat) = 2 ^ 4 - 1 from rfl, Nat.and_two_pow_sub_one_eq_mod]
  rfl
theorem text_fill {L i N : Nat} (h : i < L) : (nulls (L - i) ++ hexW i N).set (L - 1 - i) (dgc (N / 16 ^ i % 16)) = nulls (L - (i + 1)) ++ hexW (i + 1) N := by
  obtain ⟨j, hj⟩ : ∃ j, L - i = j + 1 := ⟨L - i - 1, by omega⟩
  rw [hj, show L - 1 - i = j by omega, show L - (i + 1) = j by omega]
  have e : nulls (j + 1) = nulls j ++ [0] := by unfold nulls; rw [List.replicate_succ']
  rw [e, List.append_assoc, List.set_append_right _ _ (by rw [nulls_length]; omega), nulls_length, Nat.sub_self]
  rfl
theorem to_string {w : World} {g cap : Nat} {t : TypeId} {l : List UInt8} (h : Blk w g t (bvs l).toArray) : (convert 23 9 (.slice (some ⟨g, 0, none⟩) l.length cap)).run Tryd.prog w = .ok (.string (bs l)) w :=
  run_convert_bytes_back w _ _ _ ⟨g, 0, none⟩ cap l Tryd.underlying23 Tryd.underlying5 Tryd.underlying9 (fun j hj => by
    rw [addr_add, Nat.zero_add, h.cell j]
    simpa [bv] using bvs_get l j l[j] (List.getElem?_eq_getElem hj))
set_option maxHeartbeats 1000000 in
theorem text_walk {A : Option Addr} {n c : Nat} {a : List Nat} {w : World} (h : Wd w w.heap.size A n a) (ha : Canon a) (hn : n ≤ 512) :
    Calls Tryd.prog 12 #[.agg #[.slice A n c]] w fun e w' => e = .returned (.string (bs (hexT (num W64 a)))) ∧ Below w.heap.size w w' := by
  by_cases h0 : n = 0
  · subst h0
    have ea : a = [] := List.eq_nil_of_length_eq_zero h.len
    have hr : Hid (bs (hexT (num W64 a)) = ⟨#[48]⟩) := Lib.hid (by rw [ea]; rfl)
    clear ea h ha
    go_enter Tryd.func12, Tryd.ntmps12
    go_wp2_with fail
    go_ret
    exact ⟨by rw [hr.out]; rfl, by go_grown⟩
  · have Hl := Lib.hid h.len
    have Ht := Lib.hid h.lts
    obtain ⟨L, hL⟩ : ∃ L, n * 16 = L := ⟨_, rfl⟩
    have hmk := make_bytes L (by omega) (w.alloc (.cells #[.slice A n c] 27))
    have hLi : (n : Int) * 16 = (L : Int) := by omega
    have gA := (Blk.new w 27 #[.slice A n c]).alloc (.cells (bvs (nulls L)).toArray 5)
    have gT := Blk.new (w.alloc (.cells #[.slice A n c] 27)) 5 (bvs (nulls L)).toArray
    have hbel := bstep (balloc w (.cells #[.slice A n c] 27)) (balloc _ (.cells (bvs (nulls L)).toArray 5))
    simp only [World.size_alloc] at gT hmk
    have HA := Lib.hid gA
    have HT := Lib.hid (show Blk ((w.alloc (.cells #[.slice A n c] 27)).alloc (.cells (bvs (nulls L)).toArray 5)) (w.heap.size + 1) 5 (bvs (nulls (L - 0) ++ hexW 0 (num W64 a))).toArray by simpa [hexW] using gT)
    have HLL := Lib.hid hL
    have hne : Hid (num W64 a ≠ 0) := Lib.hid (by
      have := canon_ge W64 ha (by rw [h.len]; exact h0)
      have := Nat.pow_pos (n := a.length - 1) W64_pos
      omega)
    have h0' : ((n : Int) == 0) = false := by simp; omega
    clear gA gT hL h0
    go_enter Tryd.func12, Tryd.ntmps12
    go_wp2_with fail
    clear hmk
    generalize (w.alloc (.cells #[.slice A n c] 27)).alloc (.cells (bvs (nulls L)).toArray 5) = W0 at *
    go_loopw [16] (fun k wr => ∃ i : Nat, i ≤ L ∧ k = .int .i64 ((i : Nat) : Int) ∧ Hid (Blk wr w.heap.size 27 #[.slice A n c]) ∧ Hid (Blk wr (w.heap.size + 1) 5 (bvs (nulls (L - i) ++ hexW i (num W64 a))).toArray) ∧ Below w.heap.size w wr) (fun k _ => L - (intOf k).toNat)
    case atStart => exact ⟨0, by omega, rfl, HA, HT, hbel⟩
    case round =>
      clear HA HT hbel
      obtain ⟨i, hi, rfl, HA, HT, hb⟩ := hrel
      by_cases hlt : i < L
      · have hq : i / 16 < n := by omega
        obtain ⟨b1, o1, rfl, hb1, hc1⟩ := (h.below hb).at_ hq
        have zA := (blk_cell HA.out).1
        have hsz := HT.out.lt
        have hszA := HA.out.lt
        have hfz := HT.out.frozen (L - 1 - i)
        have hcl : wr.cell? ⟨w.heap.size + 1, L - 1 - i, none⟩ = some (.int .u8 (bv 0)) := by
          rw [HT.out.cell (L - 1 - i)]
          have := bvs_get (nulls (L - i) ++ hexW i (num W64 a)) (L - 1 - i) 0 (by rw [List.getElem?_append_left (by rw [nulls_length]; omega), nulls, List.getElem?_replicate, if_pos (by omega)])
          simpa using this
        have hdig := num_hex (b := W64) (e := 16) Ht.out rfl i (by omega)
        have hset := Lib.hid (text_fill (N := num W64 a) hlt)
        rw [hdig] at hset
        have hx := dg_lt W64_pos Ht.out (i / 16)
        have hd16 := Nat.mod_lt (dg a (i / 16) / 16 ^ (i % 16)) (show 0 < 16 by omega)
        have hand := nibble (k := i % 16) (show dg a (i / 16) < 18446744073709551616 from hx)
        have hat := hex_at _ hd16
        have hlo := uv_nn (dg a (i / 16) / 16 ^ (i % 16) % 16)
        have hup : uv (dg a (i / 16) / 16 ^ (i % 16) % 16) < 16 := by unfold uv; omega
        clear hdig hx hd16
        generalize dg a (i / 16) / 16 ^ (i % 16) % 16 = d at *
        go_wp2_with fail
        have gT := HT.out.set (L - 1 - i) (.int .u8 (bv (dgc d)))
        rw [bvs_set, hset.out] at gT
        have GT := Lib.hid gT
        have GA := Lib.hid (HA.out.far (p := ⟨w.heap.size + 1, L - 1 - i, none⟩) (by simp) (.int .u8 (bv (dgc d))))
        have kW := hb.setCell (p := ⟨w.heap.size + 1, L - 1 - i, none⟩) (by simp) (.int .u8 (bv (dgc d)))
        clear gT
        go_roundw
        case rel => exact ⟨i + 1, by omega, by go_num, GA, GT, kW⟩
        case measure => simp [intOf]; omega
      · obtain rfl : L = i := by omega
        have hT := HT.out
        rw [Nat.sub_self, show nulls 0 = [] from rfl, List.nil_append] at hT
        have hcv := to_string (cap := L) hT
        rw [hexW_length] at hcv
        have hlt16 : num W64 a < 16 ^ L := by
          have h1 := num_lt Ht.out
          rw [Hl.out] at h1
          rw [← HLL.out, Nat.mul_comm, Nat.pow_mul]
          exact h1
        have C := trim0_any (hexW L (num W64 a)) wr (by rw [hexW_length]; omega)
        rw [hexT_of hlt16 hne.out] at C
        clear hT HT hlt16
        generalize hexW L (num W64 a) = l at *
        go_wp2_with fail
        refine C.mono ?_
        rintro e w' ⟨rfl, rfl⟩
        go_wp2_with fail
        go_ret
        exact ⟨rfl, hb⟩
theorem text_any {N : Nat} {v : Value} {w : World} (h : NatIs w w.heap.size v N) :
    Calls Tryd.prog 12 #[v] w fun e w' => e = .returned (.string (bs (hexT N))) ∧ Below w.heap.size w w' := by
  obtain ⟨A, n, c, ws, rfl, w1, w2, rfl, w4⟩ := h
  exact text_walk w1 w2 w4
end Go.Proofs.YthfbgcjfnpajjaaDoor
