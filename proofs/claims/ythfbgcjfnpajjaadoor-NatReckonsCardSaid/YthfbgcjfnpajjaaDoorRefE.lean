import Derived.Test.YthfbgcjfnpajjaaDoorRefD
/- The document's own numbers: Sub, Mul. -/
namespace Go.Proofs.YthfbgcjfnpajjaaDoor
open Go.RowKit
set_option linter.unusedVariables false
set_option maxRecDepth 100000

/-! ### Sub -/
/-- So far the bytes of a difference, and what is borrowed. -/
def SubB (a b : List Nat) (i : Nat) (L : List UInt8) (q : Nat) : Prop := L.length = i ∧ q ≤ 1 ∧ leN L + num 256 (b.take i) = num 256 (a.take i) + q * 256 ^ i
theorem SubB.start (a b : List Nat) : SubB a b 0 [] 0 := ⟨rfl, by omega, by simp [leN, nb, num_nil]⟩
theorem SubB.next {a b : List Nat} {L : List UInt8} {i q d q' : Nat} (h : SubB a b i L q) (hd : d < 256) (hq : q' ≤ 1) (he : d + dg b i + q = dg a i + q' * 256) : SubB a b (i + 1) (L ++ [UInt8.ofNat d]) q' := by
  obtain ⟨h1, h3, h4⟩ := h
  refine ⟨by simp [h1], hq, ?_⟩
  unfold leN at *
  rw [nb_snoc, num_snoc, num_take, num_take, nb_length, h1, UInt8.toNat_ofNat_of_lt' hd, Nat.pow_succ]
  have e := congrArg (· * 256 ^ i) he
  simp only [Nat.add_mul] at e
  rw [Nat.mul_assoc, Nat.mul_comm 256] at e
  omega
theorem SubB.done {a b : List Nat} {L : List UInt8} {n q : Nat} (h : SubB a b n L q) (ha : Below' 256 a) (hn : a.length = n) (hle : num 256 b ≤ num 256 a) : leN L = num 256 a - num 256 b := by
  obtain ⟨h1, h3, h4⟩ := h
  have hb : num 256 (b.take n) = num 256 b := by
    by_cases hl : b.length ≤ n
    · exact num_all 256 hl
    · have e := num_append 256 (b.take n) (b.drop n)
      rw [List.take_append_drop, List.length_take, Nat.min_eq_left (by omega)] at e
      have h5 := num_lt ha
      rw [hn] at h5
      by_cases h0 : num 256 (b.drop n) = 0
      · rw [h0] at e; omega
      · have : 256 ^ n * 1 ≤ 256 ^ n * num 256 (b.drop n) := Nat.mul_le_mul_left _ (by omega)
        omega
  rw [hb, num_all 256 (by omega)] at h4
  have h5 : leN L < 256 ^ L.length := by have := num_lt (nb_lt L); rwa [nb_length] at this
  rw [h1] at h5
  have h6 : q = 0 ∨ q = 1 := by omega
  rcases h6 with rfl | rfl <;> omega
theorem rsub_any {B B2 : Nat} {A A2 : Option Addr} {n n2 c c2 : Nat} {us us2 : List UInt8} {w : World} (h : Rd w B A n us) (h2 : Rd w B2 A2 n2 us2) (hB : B ≤ w.heap.size) (hB2 : B2 ≤ w.heap.size) (hn : n ≤ 100000) (hn2 : n2 ≤ 100000) (hle : leN us2 ≤ leN us) :
    Calls Tryd.prog 25 #[.slice A n c, .slice A2 n2 c2] w (GivesRow (leN us - leN us2) n w) := by
  have Hla := Lib.hid h.1
  have Hle := Lib.hid hle
  have Hst := Lib.hid (SubB.start (nb us) (nb us2))
  clear hle
  go_enter Tryd.func25, Tryd.ntmps25
  go_wp2_with fail
  go_loopw [5, 6, 7] (fun v y k wr => ∃ (i q : Nat) (L : List UInt8), i ≤ n ∧ k = .int .i64 ((i : Nat) : Int) ∧ y = .int .i64 ((q : Nat) : Int) ∧ Hid (SubB (nb us) (nb us2) i L q) ∧ wr.ownsRow w.heap.size 5 1 v i (bvs L) ∧ Below w.heap.size w wr) (fun _ _ k _ => n - (intOf k).toNat)
  case atStart => exact ⟨0, 0, [], by omega, rfl, rfl, Hst, World.ownsRow_nil _ _ _ _, Below.refl _ _⟩
  case round =>
    clear Hst
    obtain ⟨i, q, L, hi, rfl, rfl, HS, hown, hb⟩ := hrel
    have hz := hb.size
    have hq := HS.out.2.1
    by_cases hgo : i < n
    · have C1 := at_any (c := c) (h.below (hb.mono hB)) i (by omega) (by omega)
      have C2 := at_any (c := c2) (h2.below (hb.mono hB2)) i (by omega) (by omega)
      have hx := dg_lt (by omega) (nb_lt us) i
      have hy := dg_lt (by omega) (nb_lt us2) i
      have HN := Lib.hid (fun (d q' : Nat) (hd : d < 256) (hq' : q' ≤ 1) (he : d + dg (nb us2) i + q = dg (nb us) i + q' * 256) => HS.out.next hd hq' he)
      generalize dg (nb us) i = x at *
      generalize dg (nb us2) i = y at *
      have x0 := uv_nn x
      have y0 := uv_nn y
      have x1 : uv x < 256 := by unfold uv; omega
      have y1 : uv y < 256 := by unfold uv; omega
      obtain ⟨t, e1⟩ : ∃ t, uv x - uv y - (q : Int) = t := ⟨_, rfl⟩
      by_cases hlt : x < y + q
      · have Hn := Lib.hid (HN.out (x + 256 - y - q) 1 (by omega) (by omega) (by omega))
        have e2 : t + 256 = bv (UInt8.ofNat (x + 256 - y - q)) := by rw [bv_ofNat _ (by omega)]; unfold uv at e1; omega
        have t0 : t < 0 := by unfold uv at e1; omega
        have t1 : -257 ≤ t := by omega
        clear HN hlt hx hy
        generalize UInt8.ofNat (x + 256 - y - q) = u at *
        have u0 := bv_nn u
        have u1 := bv_lt u
        go_wp2_with fail
        refine C1.mono ?_
        rintro e w' ⟨rfl, rfl⟩
        go_wp2_with fail
        refine C2.mono ?_
        rintro e w' ⟨rfl, rfl⟩
        clear C1 C2
        go_wp2_with (at_builtin; refine push_byte rfl (.tmp 28) (.tmp 31) rfl w.heap.size _ i _ u rfl (hown.alloc _) wr.heap.size 1 rfl ?c1 ?c2 ?c3 ?_)
        case c1 => go_simp
        case c2 => omega
        case c3 => simp; omega
        intro v1 w1 hown1 hb1
        go_wp2_with fail
        go_roundw
        case rel => exact ⟨i + 1, 1, L ++ [u], by omega, by go_num, rfl, Hn, hown1, (hb.alloc hz _).trans hb1⟩
        case measure => simp [intOf]; omega
      · have Hn := Lib.hid (HN.out (x - y - q) 0 (by omega) (by omega) (by omega))
        have e2 : t = bv (UInt8.ofNat (x - y - q)) := by rw [bv_ofNat _ (by omega)]; unfold uv at e1; omega
        generalize UInt8.ofNat (x - y - q) = u at *
        have u0 := bv_nn u
        have u1 := bv_lt u
        have t0 : ¬ bv u < 0 := by omega
        subst e2
        clear HN hlt hx hy
        go_wp2_with fail
        refine C1.mono ?_
        rintro e w' ⟨rfl, rfl⟩
        go_wp2_with fail
        refine C2.mono ?_
        rintro e w' ⟨rfl, rfl⟩
        clear C1 C2
        go_wp2_with (at_builtin; refine push_byte rfl (.tmp 28) (.tmp 31) rfl w.heap.size _ i _ u rfl (hown.alloc _) wr.heap.size 1 rfl ?c1 ?c2 ?c3 ?_)
        case c1 => go_simp
        case c2 => omega
        case c3 => simp; omega
        intro v1 w1 hown1 hb1
        go_wp2_with fail
        go_roundw
        case rel => exact ⟨i + 1, 0, L ++ [u], by omega, by go_num, rfl, Hn, hown1, (hb.alloc hz _).trans hb1⟩
        case measure => simp [intOf]; omega
    · obtain rfl : i = n := by omega
      have Hd : Hid (leN L = leN us - leN us2) := Lib.hid (HS.out.done (nb_lt us) (by rw [nb_length, Hla.out]) Hle.out)
      obtain ⟨A', c', rfl, hr, hc1, hc2⟩ := Rd.of_own2 hown
      have C := trim_row hr hc1 hc2 i (Nat.le_refl _) hb
      rw [Hd.out] at C
      clear hown hr
      go_wp2_with fail
      refine C.mono ?_
      rintro e w' ⟨A1, m1, c1, vs, rfl, g⟩
      go_wp2_with fail
      go_ret
      exact ⟨A1, m1, c1, vs, rfl, g⟩
/-! ### Mul -/
theorem nb_set (us : List UInt8) (k : Nat) (u : UInt8) : nb (us.set k u) = (nb us).set k u.toNat := by simp [nb, List.map_set]
theorem nb_nulls (m : Nat) : nb (nulls m) = noughts m := by simp [nb, nulls, noughts]
/-- So far a product's bytes, behind i rows. -/
def MulR (a b : List Nat) (m i : Nat) (R : List UInt8) : Prop := R.length = m ∧ Null (nb R) (i + b.length) ∧ leN R = num 256 (a.take i) * num 256 b
/-- .. and in the row i, behind j places. -/
def MulB (a b : List Nat) (m i j : Nat) (R : List UInt8) (q : Nat) : Prop := R.length = m ∧ Null (nb R) (i + b.length + (j - b.length)) ∧ q < 256 ∧ j ≤ b.length + 1 ∧ (j ≤ b.length ∨ q = 0) ∧ leN R + q * 256 ^ (i + j) = num 256 (a.take i) * num 256 b + dg a i * num 256 (b.take j) * 256 ^ i
theorem MulR.start (a b : List Nat) (m : Nat) : MulR a b m 0 (nulls m) := ⟨nulls_length m, fun i _ => by rw [nb_nulls]; exact dg_noughts m i, by unfold leN; rw [nb_nulls, num_noughts, List.take_zero, num_nil, Nat.zero_mul]⟩
theorem MulR.enter {a b : List Nat} {R : List UInt8} {m i : Nat} (h : MulR a b m i R) : MulB a b m i 0 R 0 :=
  ⟨h.1, fun t ht => h.2.1 t (by omega), by omega, by omega, .inl (by omega), by rw [h.2.2, List.take_zero, num_nil]; simp⟩
theorem MulB.next {a b : List Nat} {R : List UInt8} {m i j q s : Nat} (h : MulB a b m i j R q) (hj : j ≤ b.length) (hm : i + b.length < m) (hs : dg (nb R) (i + j) + dg a i * dg b j + q = s) (h5 : s ≤ 65535) : MulB a b m i (j + 1) (R.set (i + j) (UInt8.ofNat (s % 256))) (s / 256) := by
  obtain ⟨h1, h2, h3, h4, h5', h6⟩ := h
  refine ⟨by simp [h1], fun t ht => ?_, by omega, by omega, ?_, ?_⟩
  · rw [nb_set, dg_set _ (by omega)]
    exact h2 t (by omega)
  · by_cases hl : j < b.length
    · exact .inl (by omega)
    · have e1 := h2 (i + j) (by omega)
      have e2 := dg_none (ws := b) (i := j) (by omega)
      rw [e1, e2, Nat.mul_zero] at hs
      exact .inr (by omega)
  · have h7 := num_set 256 (s % 256) (show i + j < (nb R).length by rw [nb_length]; omega)
    unfold leN at *
    rw [nb_set, UInt8.toNat_ofNat_of_lt' (show s % 256 < 256 by omega), num_take, Nat.mul_add, Nat.add_mul, ← Nat.add_assoc i j 1, Nat.pow_succ]
    have hs2 : s % 256 + s / 256 * 256 = dg (nb R) (i + j) + dg a i * dg b j + q := by omega
    have e := congrArg (· * 256 ^ (i + j)) hs2
    simp only [Nat.add_mul] at e
    have e2 : dg a i * (dg b j * 256 ^ j) * 256 ^ i = dg a i * dg b j * 256 ^ (i + j) := by
      rw [Nat.pow_add]; simp only [Nat.mul_assoc, Nat.mul_comm, Nat.mul_left_comm]
    have e3 : s / 256 * (256 ^ (i + j) * 256) = s / 256 * 256 * 256 ^ (i + j) := by rw [Nat.mul_comm (256 ^ (i + j)) 256, Nat.mul_assoc]
    rw [e2, e3]
    omega
theorem MulB.done {a b : List Nat} {R : List UInt8} {m i j : Nat} (h : MulB a b m i j R 0) (hj : b.length ≤ j) : MulR a b m (i + 1) R := by
  obtain ⟨h1, h2, h3, h4, h5, h6⟩ := h
  refine ⟨h1, fun t ht => h2 t (by omega), ?_⟩
  rw [Nat.zero_mul, Nat.add_zero, num_all 256 hj] at h6
  rw [h6, num_take, Nat.add_mul]
  simp only [Nat.mul_assoc, Nat.mul_comm]
set_option maxHeartbeats 1000000 in
theorem rmul_any {B B2 : Nat} {A A2 : Option Addr} {n n2 c c2 : Nat} {us us2 : List UInt8} {w : World} (h : Rd w B A n us) (h2 : Rd w B2 A2 n2 us2) (hB : B ≤ w.heap.size) (hB2 : B2 ≤ w.heap.size) (hn : n ≤ 100000) (hn2 : n2 ≤ 100000) :
    Calls Tryd.prog 24 #[.slice A n c, .slice A2 n2 c2] w (GivesRow (leN us * leN us2) (n + n2 + 1) w) := by
  have Hla := Lib.hid (show (nb us).length = n by rw [nb_length, h.1])
  have Hlb := Lib.hid (show (nb us2).length = n2 by rw [nb_length, h2.1])
  have hmk := make_bytes (n + n2 + 1) (by omega) w
  have e1 : ((n + n2 + 1 : Nat) : Int) = (n : Int) + (n2 : Int) + 1 := by omega
  rw [e1] at hmk
  clear e1
  have HL := Lib.hid (Blk.new w 5 (bvs (nulls (n + n2 + 1))).toArray)
  have hbel := balloc w (.cells (bvs (nulls (n + n2 + 1))).toArray 5)
  have Hst := Lib.hid (MulR.start (nb us) (nb us2) (n + n2 + 1))
  go_enter Tryd.func24, Tryd.ntmps24
  go_wp2_with fail
  clear hmk
  generalize w.alloc (.cells (bvs (nulls (n + n2 + 1))).toArray 5) = W0 at *
  go_loopw [6] (fun k wr => ∃ (i : Nat) (R : List UInt8), i ≤ n ∧ k = .int .i64 ((i : Nat) : Int) ∧ Hid (MulR (nb us) (nb us2) (n + n2 + 1) i R) ∧ Hid (Blk wr w.heap.size 5 (bvs R).toArray) ∧ Below w.heap.size w wr) (fun k _ => n - (intOf k).toNat)
  case atStart => exact ⟨0, _, by omega, rfl, Hst, HL, hbel⟩
  case round =>
    clear HL hbel Hst
    obtain ⟨i, R, hi, rfl, HS, HL, hb⟩ := hrel
    by_cases hlt : i < n
    · have HS2 := Lib.hid HS.out.enter
      obtain ⟨b1, o1, rfl, hb1, hc0⟩ := (h.below (hb.mono hB)).at_ hlt
      clear HS hc0
      go_wp2_with fail
      go_loopw [7, 8] (fun y k wq => ∃ (j q : Nat) (R : List UInt8), k = .int .i64 ((j : Nat) : Int) ∧ y = .int .i64 ((q : Nat) : Int) ∧ Hid (MulB (nb us) (nb us2) (n + n2 + 1) i j R q) ∧ Hid (Blk wq w.heap.size 5 (bvs R).toArray) ∧ Below w.heap.size w wq) (fun _ k _ => n2 + 1 - (intOf k).toNat)
      case atStart => exact ⟨0, 0, R, rfl, rfl, HS2, HL, hb⟩
      case round =>
        clear HL hb HS2
        obtain ⟨j, q, R, rfl, rfl, HS, HL, hb⟩ := hrel
        have hsz := HL.out.lt
        have hj1 : j ≤ n2 + 1 := by have := HS.out.2.2.2.1; rwa [Hlb.out] at this
        by_cases hgo : j < n2 ∨ 0 < q
        · have hj : j ≤ n2 := by have := HS.out.2.2.2.2.1; rw [Hlb.out] at this; omega
          have hR := HS.out.1
          have hq := HS.out.2.2.1
          obtain ⟨b1', o1', e1, hb1', hc1⟩ := (h.below (hb.mono hB)).at_ hlt
          injection e1 with e1
          injection e1 with e1 e2
          subst e1 e2
          rw [bv_uv] at hc1
          have hx := dg_lt (by omega) (nb_lt us) i
          have hy := dg_lt (by omega) (nb_lt us2) j
          have hr := dg_lt (by omega) (nb_lt R) (i + j)
          have hfz := HL.out.frozen (i + j)
          have hcl : wr.cell? ⟨w.heap.size, i + j, none⟩ = some (.int .u8 (uv (dg (nb R) (i + j)))) := by
            rw [HL.out.cell (i + j), ← bv_uv]
            have := bvs_get R (i + j) (R[i + j]?.getD 0) (by rw [List.getElem?_eq_getElem (by omega)]; rfl)
            simpa using this
          have hp : dg (nb us) i * dg (nb us2) j ≤ 255 * 255 := Nat.mul_le_mul (by omega) (by omega)
          obtain ⟨s, hs⟩ : ∃ s, dg (nb R) (i + j) + dg (nb us) i * dg (nb us2) j + q = s := ⟨_, rfl⟩
          have hs5 : s ≤ 65535 := by omega
          have Hn := Lib.hid (HS.out.next (by rw [Hlb.out]; exact hj) (by rw [Hlb.out]; omega) hs hs5)
          have HC := Lib.hid (fun (d : Nat) => at_any (w := wr.drewN d) (c := c2) (h2.below (below_drewN (hb.mono hB2) d)) j (by omega) (by omega))
          generalize dg (nb R) (i + j) = r at *
          generalize dg (nb us) i = x at *
          generalize dg (nb us2) j = y at *
          have m1 : uv x * uv y = ((x * y : Nat) : Int) := by unfold uv; omega
          generalize x * y = p at *
          have p1 : (p : Int) ≤ 65025 := by omega
          have r0 := uv_nn r
          have x0 := uv_nn x
          have y0 := uv_nn y
          have r1 : uv r < 256 := by unfold uv; omega
          have x1 : uv x < 256 := by unfold uv; omega
          have y1 : uv y < 256 := by unfold uv; omega
          have m2 : IntKind.i64.wrap (uv x * uv y) = (p : Int) := by rw [m1, IntKind.wrap_i64]; omega
          have e1 : uv r + (p : Int) + (q : Int) = (s : Int) := by unfold uv; omega
          have e2 : (s : Int) % 256 = bv (UInt8.ofNat (s % 256)) := by rw [bv_ofNat _ (by omega)]; omega
          have e3 : (s : Int) / 256 = ((s / 256 : Nat) : Int) := by omega
          have hs6 : (s : Int) ≤ 65535 := by omega
          clear hs hx hy hr hp hs5
          generalize UInt8.ofNat (s % 256) = u at *
          generalize s / 256 = q2 at *
          have u0 := bv_nn u
          have u1 := bv_lt u
          have hii : (i : Int) + (j : Int) < (n : Int) + (n2 : Int) + 1 := by omega
          have GL := Lib.hid (fun (d : Nat) => show Blk ((wr.drewN d).setCell ⟨w.heap.size, i + j, none⟩ (.int .u8 (bv u))) w.heap.size 5 (bvs (R.set (i + j) u)).toArray by
            have := (HL.out.below (below_drewN (Below.refl wr.heap.size wr) d) HL.out.lt).set (i + j) (.int .u8 (bv u))
            rwa [bvs_set] at this)
          have GK := Lib.hid (fun (d : Nat) => (below_drewN hb d).setCell (p := ⟨w.heap.size, i + j, none⟩) (Nat.le_refl _) (.int .u8 (bv u)))
          by_cases h1 : j < n2
          · clear hgo
            go_wp2_with fail
            go_quiet ((go_at_call 39; exact Calls.quiet_of_same ((HC.out _).mono fun _ _ ⟨he, hw⟩ => ⟨he, hw.symm⟩)))
            go_wp2_with fail
            go_roundw
            case rel => exact ⟨j + 1, q2, _, by go_num, rfl, Hn, Lib.hid (GL.out _), GK.out _⟩
            case measure => simp [intOf]; omega
          · have h0 : 0 < q := hgo.resolve_left h1
            have h00 : (0 : Int) < (q : Int) := by omega
            clear hgo
            go_wp2_with fail
            go_quiet ((go_at_call 39; exact Calls.quiet_of_same ((HC.out _).mono fun _ _ ⟨he, hw⟩ => ⟨he, hw.symm⟩)))
            go_wp2_with fail
            go_roundw
            case rel => exact ⟨j + 1, q2, _, by go_num, rfl, Hn, Lib.hid (GL.out _), GK.out _⟩
            case measure => simp [intOf]; omega
        · have h1 : ¬ j < n2 := fun e => hgo (.inl e)
          have h0 : q = 0 := by omega
          subst h0
          have Hn := Lib.hid (HS.out.done (by rw [Hlb.out]; omega))
          clear hgo
          go_wp2_with fail
          go_roundw
          case rel => exact ⟨i + 1, R, by omega, by go_num, Hn, HL, hb⟩
          case measure => simp [intOf]; omega
    · obtain rfl : i = n := by omega
      have Hd : Hid (leN R = leN us * leN us2) := Lib.hid (by rw [HS.out.2.2, num_all 256 (by rw [Hla.out]; omega)]; rfl)
      have hR := HS.out.1
      have hr := Rd.of_blk HL.out
      rw [hR] at hr
      have C := trim_row (c := i + n2 + 1) (hr.more HL.out.lt) (Nat.le_refl _) (by omega) (i + n2 + 1) (Nat.le_refl _) hb
      rw [Hd.out] at C
      clear hr hR
      go_wp2_with fail
      refine C.mono ?_
      rintro e w' ⟨A1, m1, c1, vs, rfl, g⟩
      go_wp2_with fail
      go_ret
      exact ⟨A1, m1, c1, vs, rfl, g⟩
end Go.Proofs.YthfbgcjfnpajjaaDoor
