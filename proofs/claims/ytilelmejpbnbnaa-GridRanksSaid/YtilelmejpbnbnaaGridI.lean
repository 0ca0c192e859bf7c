import Derived.Test.YtilelmejpbnbnaaRef7
import Derived.Test.YtilelmejpbnbnaaConv
/- grid.Mul. -/
namespace Go.Proofs.Ytilelmejpbnbnaa
open Go.RowKit
set_option linter.unusedVariables false
set_option maxRecDepth 100000

theorem gmul_size {k k2 : Nat} {rows rows2 : List (List UInt8)} {w : World} (hne : k ≠ rows2.length) : Calls Try.prog 19 #[gv k rows, gv k2 rows2] w (GridEnds (.tuple #[gv 0 [], .int .i64 4]) w) := by
  obtain ⟨hb0, hx, hy, hg, hz⟩ := three_alloc (w := w) (T := 26) (T2 := 26) (T3 := 26) (cs := #[.int .i64 (rows.length : Int), .int .i64 (k : Int), .string (strB rows.flatten)]) (cs2 := #[.int .i64 (rows2.length : Int), .int .i64 (k2 : Int), .string (strB rows2.flatten)]) (cs3 := #[.int .i64 0, .int .i64 0, .string { data := #[] }])
  obtain ⟨hc0, hc1, hc2, hf0, hf1, hf2⟩ := cells3 hg
  have t : ((k : Int) != (rows2.length : Int)) = true := by rw [bne_iff_ne]; omega
  simp only [gv]
  clear hne
  go_enter Try.func19, Try.ntmps19
  go_wp2_with fail
  exact bodyPost_ret (v := .tuple #[gv 0 [], .int .i64 4]) (by simp [results, Try.results19, go_sem, hc0, hc1, hc2, gv_zero]) rfl ⟨rfl, hb0⟩
/-- A slice that reads as these rows. -/
def HasRows (w : World) (v : Value) (rows : List (List UInt8)) : Prop := ∃ A n c, v = .slice A n c ∧ Rds w w.heap.size A n rows
theorem Rd.grownSl {w w' : World} {g n : Nat} {A : Option Addr} {us : List UInt8} {T : TypeId} {cs : Array Value} (h : Rd w w.heap.size A n us) (hg : Blk w g T cs) (hn : NoBytes cs) (hgr : w.grownBy w' (some g)) : Rd w' w'.heap.size A n us :=
  ⟨h.1, fun hp => by
    obtain ⟨b, off, e, hb, hc⟩ := h.2 hp
    refine ⟨b, off, e, Nat.lt_of_lt_of_le hb hgr.size, fun i u hu => ?_⟩
    have h1 := hc i u hu
    have hne : b ≠ g := fun e => by
      subst e
      rw [hg.cell] at h1
      exact hn _ _ u h1 rfl
    exact hgr.cell h1 (by intro e; injection e with e; exact hne e)⟩
/-- A row of noughts behind some rows. -/
theorem filled_push {o : Oper} {a : Act} {K : Act → World → Prop} {Q : Exit → Act → World → Prop} {w : World} (s x : Operand)
    (ho : o.op = .call { callee := .builtin .append, args := #[s, x], argTypes := #[22, 22] })
    (base g m gx c gz p : Nat) (rows : List (List UInt8)) (us : List UInt8) (hs : a.eval s = .slice (some ⟨g, 0, none⟩) m m) (hF : Filled w g m rows) (hm : rows.length = m) (hbg : base ≤ g)
    (hx : a.eval x = .slice (some ⟨gx, 0, none⟩) 1 c) (hcx : w.cell? ⟨gx, 0, none⟩ = some (.slice (some ⟨gz, 0, none⟩) p p)) (hz : Rd w w.heap.size (some ⟨gz, 0, none⟩) p us) (hn : m + 1 ≤ 5864062014805) (hbase : base ≤ w.heap.size)
    (h : ∀ v' w', HasRows w' v' (rows ++ [us]) → Below base w w' → K (a.put o.dst v') w') : o.wp Try.prog a w K Q := by
  obtain ⟨i0, hi0, hz0, hz1, hz2⟩ := info_parts row_info
  have hlt := hF.lt
  obtain ⟨cs, h1, h2, h3, h4, h5⟩ := hF
  have hown : w.ownsRow base 52 1 (.slice (some ⟨g, 0, none⟩) m m) m cs := ⟨by omega, .inr ⟨g, m, cs.toArray, rfl, hbg, h2, Nat.le_refl _, by unfold maxLen; omega, by simp; omega, by rw [Nat.mul_one, ← h1]; simp⟩⟩
  refine wp_append_own w s x _ ho base 52 i0 _ 1 24 Try.underlying22 hi0 hz0 hz1 hz2 rfl (by omega) _ m cs hs hown ⟨gx, 0, none⟩ 1 c [.slice (some ⟨gz, 0, none⟩) p p] hx rfl (cells_one hcx) (by simp [Value.oneCell']) (by unfold maxLen; omega) (by omega) hbase ?_
  intro v' w' h6 h7 _
  refine h v' w' ?_ (own_grown_below hown h7 hbase)
  rcases h6.2 with ⟨_, h8⟩ | ⟨g', cap, cur, rfl, hb', hh, hnc, hm', hs', ht⟩
  · omega
  · refine ⟨_, _, _, rfl, by simp [hm], fun _ => ⟨g', 0, rfl, Blk.lt hh, fun i vs hv => ?_⟩⟩
    have hi : i < m + 1 := by
      have := (List.getElem?_eq_some_iff.1 hv).1
      simp at this; omega
    have hcell : w'.cell? ⟨g', 0 + i, none⟩ = (cs ++ [.slice (some ⟨gz, 0, none⟩) p p])[i]? := by
      rw [Nat.zero_add, Blk.cell hh i, ← ht, List.getElem?_take, if_pos (by omega)]; simp
    rw [hcell]
    by_cases him : i < m
    · rw [List.getElem?_append_left (by omega)] at hv
      obtain ⟨A, cc, e1, e2⟩ := h5 i vs hv
      exact ⟨A, cc, by rw [List.getElem?_append_left (by omega)]; exact e1, e2.grownSl h2 (NoBytes.sl h3) h7⟩
    · have hie : i = m := by omega
      subst hie
      rw [List.getElem?_append_right (by omega), hm, Nat.sub_self] at hv
      simp at hv
      subst hv
      refine ⟨some ⟨gz, 0, none⟩, p, by rw [List.getElem?_append_right (by omega), h1, Nat.sub_self, hz.1]; rfl, ?_⟩
      rw [hz.1]
      exact hz.grownSl h2 (NoBytes.sl h3) h7
theorem new_cell (X : World) (v : Value) (T : TypeId) : (X.alloc (.cells #[v] T)).cell? ⟨X.heap.size, 0, none⟩ = some v := by
  rw [(Blk.new X T #[v]).cell 0]; rfl
theorem mk_nulls (X : World) (p : Nat) : Rd (X.alloc (.cells (bvs (nulls p)).toArray 5)) (X.alloc (.cells (bvs (nulls p)).toArray 5)).heap.size (some ⟨X.heap.size, 0, none⟩) p (nulls p) := by
  have h := (Rd.of_blk (Blk.new X 5 (bvs (nulls p)).toArray)).more (B' := (X.alloc (.cells (bvs (nulls p)).toArray 5)).heap.size) (by simp)
  rwa [nulls_length] at h
theorem mk_one (X : World) (p : Nat) : ((X.alloc (.cells (bvs (nulls p)).toArray 5)).alloc (.cells #[.slice (some ⟨X.heap.size, 0, none⟩) p p] 52)).cell? ⟨X.heap.size + 1, 0, none⟩ = some (.slice (some ⟨X.heap.size, 0, none⟩) p p) := by
  have h := (Blk.new (X.alloc (.cells (bvs (nulls p)).toArray 5)) 52 #[.slice (some ⟨X.heap.size, 0, none⟩) p p]).cell 0
  rw [World.size_alloc] at h
  exact h
theorem Rd.dd0 {w w' : World} {n : Nat} {A : Option Addr} {us : List UInt8} (h : Rd w w.heap.size A n us) (hb : Below w.heap.size w w') : Rd w' w'.heap.size A n us := h.step hb
theorem gv_agg (k : Nat) (rows : List (List UInt8)) : ∃ (H K : Int) (S : ByteArray), gv k rows = .agg #[.int .i64 H, .int .i64 K, .string S] := ⟨_, _, _, rfl⟩
theorem short_ok {k : Nat} {a : List (List UInt8)} (h : GridOk k a) : Short a := by
  intro r hr
  have := List.all_eq_true.1 h.1 r hr
  simp at this
  have := h.2.1
  omega
theorem addL_none (us ss : List UInt8) : addL 0 us ss = ss := by
  unfold addL addTo
  apply List.ext_getElem?
  intro i
  rw [List.getElem?_mapIdx]
  cases h : ss[i]? with
  | none => rfl
  | some s => simp [gm_zero_left]
theorem comb_front {row : List UInt8} {b : List (List UInt8)} {z : List UInt8} {ss : List UInt8} (h : row.length = b.length) : ∀ j, j ≤ b.length → combTo (row ++ [0]) (b ++ [z]) ss j = combTo row b ss j := by
  intro j
  induction j with
  | zero => intro _; rfl
  | succ j ih =>
    intro hj
    rw [combTo, combTo, ih (by omega), List.getElem?_append_left (by omega), List.getElem?_append_left (by omega)]
theorem comb_zero {row : List UInt8} {b : List (List UInt8)} {p : Nat} (h : row.length = b.length) (hb : lenB p b = true) : combR (row ++ [0]) (b ++ [nulls p]) = (combTo row b (nulls p) b.length, 0) := by
  have hl : lenB p (b ++ [nulls p]) = true := by
    unfold lenB at *
    rw [List.all_append, hb]
    simp [nulls_length]
  have hf : first (b ++ [nulls p]) = p := by
    have := lenB_get hl (k := 0) (by simp)
    exact this
  rw [combR_some (n := b.length + 1) (by simp [h]) (by simp) (by omega) hf hl]
  rw [combTo, List.getElem?_append_right (by omega), h, Nat.sub_self, comb_front h _ (Nat.le_refl _)]
  simp [addL_none]
theorem mulL_at {a b : List (List UInt8)} {p i : Nat} (h : i < a.length) : (mulL a b p).take i ++ [combTo (a[i]?.getD []) b (nulls p) b.length] = (mulL a b p).take (i + 1) := by
  rw [← take_get [] (by rw [mulL_len]; exact h)]
  congr 2
  simp [mulL, h]
theorem mulL_lenB (a b : List (List UInt8)) (p : Nat) : lenB p (mulL a b p) = true := by
  unfold lenB
  rw [List.all_eq_true]
  intro r hr
  obtain ⟨i, _, rfl⟩ := List.mem_map.1 hr
  simp [comb_len]
set_option maxHeartbeats 800000 in
theorem gmul_ok {k k2 : Nat} {rows rows2 : List (List UInt8)} {w : World} (h : GridOk k rows) (h2 : GridOk k2 rows2) (he : k = rows2.length) (hf : rows.length * k2 ≤ 65536) : Calls Try.prog 19 #[gv k rows, gv k2 rows2] w (GridEnds (.tuple #[gv k2 (mulL rows rows2 k2), .int .i64 0]) w) := by
  obtain ⟨H, hH⟩ : ∃ H, rows.length = H := ⟨_, rfl⟩
  have HH := Lib.hid hH
  have HE := Lib.hid he
  have Hok := Lib.hid h
  have Hok2 := Lib.hid h2
  have HF6 : Hid (H * k2 ≤ 65536) := Lib.hid (by rw [← hH]; exact hf)
  have k6 : k ≤ 65536 := h.2.1
  have k26 : k2 ≤ 65536 := h2.2.1
  have H6 : H ≤ 65536 := by rw [← hH]; exact h.2.2.1
  have g1 : gv k rows = .agg #[.int .i64 (H : Int), .int .i64 (k : Int), .string (strB rows.flatten)] := by rw [gv, hH]
  have g2 : gv k2 rows2 = .agg #[.int .i64 (k : Int), .int .i64 (k2 : Int), .string (strB rows2.flatten)] := by rw [gv, ← he]
  obtain ⟨hb0, bx, by_, hg, hz⟩ := three_alloc (w := w) (T := 26) (T2 := 26) (T3 := 26) (cs := #[.int .i64 (H : Int), .int .i64 (k : Int), .string (strB rows.flatten)]) (cs2 := #[.int .i64 (k : Int), .int .i64 (k2 : Int), .string (strB rows2.flatten)]) (cs3 := #[.int .i64 0, .int .i64 0, .string { data := #[] }])
  have CF := fun W => fits_any H k2 (by omega) k26 W
  rw [show fitB H k2 = true by rw [← hH]; simp [fitB]; exact ⟨by omega, hf⟩] at CF
  have CR := fun W => grows_fill (w := W) h2
  have CJ := fun W i hi => grow_conv k i rows W h hi
  rw [g2] at CR
  rw [g1] at CJ
  have CR' := Lib.hid CR
  have CJ' := Lib.hid CJ
  rw [g1, g2]
  clear CR CJ g1 g2 h h2 he hf hH
  obtain ⟨c0, c1, c2, _, _, _⟩ := cells3 bx
  obtain ⟨d0, d1, d2, _, _, _⟩ := cells3 by_
  generalize strB rows.flatten = S1 at *
  generalize strB rows2.flatten = S2 at *
  go_enter Try.func19, Try.ntmps19
  go_wp2_with fail
  refine (CF _).mono ?_
  rintro e w' ⟨rfl, rfl⟩
  clear CF
  go_wp2_with fail
  clear c0 c1 c2 d0 d1 d2
  generalize ((w.alloc (.cells #[.int .i64 (H : Int), .int .i64 (k : Int), .string S1] 26)).alloc (.cells #[.int .i64 (k : Int), .int .i64 (k2 : Int), .string S2] 26)).alloc (.cells #[.int .i64 0, .int .i64 0, .string { data := #[] }] 26) = V at *
  have hmk : ∀ W, (Instr.makeSlice 52 (.int .i64 (k2 : Int)) (.int .i64 (k2 : Int))).run Try.prog W = .ok (.slice (some ⟨W.heap.size, 0, none⟩) k2 k2) (W.alloc (.cells (bvs (nulls k2)).toArray 5)) := fun W => make_bytes k2 (by omega) W
  obtain ⟨d0, d1, d2, _, _, _⟩ := cells3 by_
  obtain ⟨d3, d4, d5, _, _, _⟩ := cells3 (by_.alloc (.cells (bvs (nulls k2)).toArray 5))
  obtain ⟨d6, d7, d8, _, _, _⟩ := cells3 ((by_.alloc (.cells (bvs (nulls k2)).toArray 5)).alloc (.cells #[.slice (some ⟨V.heap.size, 0, none⟩) k2 k2] 52))
  go_cut [6] from 24 to 30 (fun s6 wx => HasRows wx s6 (rows2 ++ [nulls k2]) ∧ Below V.heap.size V wx)
  case first =>
    go_region_law (first
      | (rw [if_pos (by rfl)]; with_reducible refine filled_push (w := (X.alloc (.cells (bvs (nulls k2)).toArray 5)).alloc (.cells #[.slice (some ⟨X.heap.size, 0, none⟩) k2 k2] 52)) (.tmp 25) (.tmp 29) rfl V.heap.size g m (X.heap.size + 1) 1 X.heap.size k2 rows2 (nulls k2) rfl f1 hm gV1 rfl s1 z1 (by omega) (by simp; omega) ?_; intro v' w' hR hB')
      | (rw [if_pos (by rfl)]; with_reducible refine filled_push (w := X2.alloc (.cells #[.slice (some ⟨V.heap.size, 0, none⟩) k2 k2] 52)) (.tmp 25) (.tmp 29) rfl V.heap.size g m X2.heap.size 1 V.heap.size k2 rows2 (nulls k2) rfl f2 hm gV2 rfl s2 z2 (by omega) (by simp; omega) ?_; intro v' w' hR hB')
      | (rw [if_pos (by rfl)]; with_reducible refine filled_push (w := X3) (.tmp 25) (.tmp 29) rfl V.heap.size g m (V.heap.size + 1) 1 V.heap.size k2 rows2 (nulls k2) rfl f3 hm gV3 rfl s3 z3 (by omega) (by omega) ?_; intro v' w' hR hB')
      | (go_simp; go_at_call 15; (with_reducible refine (CR'.out V.drew).mono ?_); rintro e X ⟨g, m, rfl, hm, hF, hgb, b⟩; obtain ⟨e0, e1, e2, _, _, _⟩ := cells3 (by_.drew.below b by_.lt); have m6 : m ≤ 65536 := (by have := Hok2.out.2.2.1; omega); have bV := bstep (Below.refl _ V).drew b; have hzV := bV.size; have gV1 : V.heap.size ≤ g := hgb; have f1 := (hF.step (balloc X (.cells (bvs (nulls k2)).toArray 5))).step (balloc _ (.cells #[.slice (some ⟨X.heap.size, 0, none⟩) k2 k2] 52)); have z1 := ((mk_nulls X k2).step (balloc _ (.cells #[.slice (some ⟨X.heap.size, 0, none⟩) k2 k2] 52))); have s1 := mk_one X k2; have bA := bstep (bstep bV (balloc X (.cells (bvs (nulls k2)).toArray 5))) (balloc _ (.cells #[.slice (some ⟨X.heap.size, 0, none⟩) k2 k2] 52)); dsimp only)
      | (go_simp; go_at_call 15; (with_reducible refine (CR'.out (V.alloc (.cells (bvs (nulls k2)).toArray 5)).drew).mono ?_); rintro e X2 ⟨g, m, rfl, hm, hF, hgb, b⟩; obtain ⟨e0, e1, e2, _, _, _⟩ := cells3 ((by_.alloc (.cells (bvs (nulls k2)).toArray 5)).drew.below b (by_.alloc (.cells (bvs (nulls k2)).toArray 5)).lt); have m6 : m ≤ 65536 := (by have := Hok2.out.2.2.1; omega); have bV := bstep (balloc V (.cells (bvs (nulls k2)).toArray 5)).drew b; have hzV := bV.size; have gV2 : V.heap.size ≤ g := Nat.le_trans (by simp) hgb; have f2 := hF.step (balloc X2 (.cells #[.slice (some ⟨V.heap.size, 0, none⟩) k2 k2] 52)); have z2 := (((mk_nulls V k2).dd0 (Below.refl _ _).drew).step b).step (balloc X2 (.cells #[.slice (some ⟨V.heap.size, 0, none⟩) k2 k2] 52)); have s2 := new_cell X2 (.slice (some ⟨V.heap.size, 0, none⟩) k2 k2) 52; have bA := bstep bV (balloc X2 (.cells #[.slice (some ⟨V.heap.size, 0, none⟩) k2 k2] 52)); dsimp only)
      | (go_simp; go_at_call 15; (with_reducible refine (CR'.out ((V.alloc (.cells (bvs (nulls k2)).toArray 5)).alloc (.cells #[.slice (some ⟨V.heap.size, 0, none⟩) k2 k2] 52)).drew).mono ?_); rintro e X3 ⟨g, m, rfl, hm, hF, hgb, b⟩; obtain ⟨e0, e1, e2, _, _, _⟩ := cells3 (((by_.alloc (.cells (bvs (nulls k2)).toArray 5)).alloc (.cells #[.slice (some ⟨V.heap.size, 0, none⟩) k2 k2] 52)).drew.below b ((by_.alloc (.cells (bvs (nulls k2)).toArray 5)).alloc (.cells #[.slice (some ⟨V.heap.size, 0, none⟩) k2 k2] 52)).lt); have m6 : m ≤ 65536 := (by have := Hok2.out.2.2.1; omega); have bV := bstep (bstep (balloc V (.cells (bvs (nulls k2)).toArray 5)) (balloc _ (.cells #[.slice (some ⟨V.heap.size, 0, none⟩) k2 k2] 52))).drew b; have hzV := bV.size; have gV3 : V.heap.size ≤ g := Nat.le_trans (by simp; omega) hgb; have f3 := hF; have z3 := (((mk_nulls V k2).step (balloc _ (.cells #[.slice (some ⟨V.heap.size, 0, none⟩) k2 k2] 52))).dd0 (Below.refl _ _).drew).step b; have s3 := (b.cell (p := ⟨V.heap.size + 1, 0, none⟩) (by simp)).trans (mk_one V k2); have bA := bV; dsimp only))
    all_goals
      go_wp2_with fail
      go_meet
      exact ⟨hR, bA.trans hB'⟩
  case rest =>
    obtain ⟨⟨A6, n6, c6, rfl, hR⟩, hbc⟩ := hcut
    clear hmk d0 d1 d2 d3 d4 d5 d6 d7 d8 CR'
    replace hb0 := bstep hb0 hbc
    replace bx := bx.below hbc bx.lt
    replace by_ := by_.below hbc by_.lt
    replace hg := hg.below hbc hg.lt
    clear hbc hz
    generalize wc = V at *
    have hs6 : Hid (Short (rows2 ++ [nulls k2])) := Lib.hid (by
      intro r hr
      rcases List.mem_append.1 hr with hr | hr
      · exact short_ok Hok2.out r hr
      · rw [List.mem_singleton.1 hr, nulls_length]; omega)
    have h6n : n6 = k + 1 := by have := hR.1; rw [← this, List.length_append, ← HE.out]; rfl
    subst h6n
    obtain ⟨c0, c1, c2, _, _, _⟩ := cells3 bx
    have hmk := make_rows H (by omega) V
    have hF := Filled.new V H
    have hbV := balloc V (.cells (nils H).toArray 52)
    have hlx := bx.lt
    have hly := by_.lt
    have hlg := hg.lt
    go_wp2_with fail
    clear hmk c0 c1 c2
    go_loopw [36] (fun x wr => ∃ i : Nat, i ≤ H ∧ x = .int .i64 i ∧ Filled wr V.heap.size H ((mulL rows rows2 k2).take i) ∧ Below V.heap.size V wr) (fun x _ => H - (intOf x).toNat)
    case atStart => exact ⟨0, by omega, rfl, hF, hbV⟩
    case round =>
      clear hF hbV
      obtain ⟨i, hi, rfl, hF, hb⟩ := hrel
      have hz := hb.size
      by_cases hiH : i < H
      · obtain ⟨c0, c1, c2, _, _, _⟩ := cells3 (bx.below hb hlx)
        have hil : i < rows.length := by rw [HH.out]; exact hiH
        have hrl := lenB_get Hok.out.1 hil
        have HT := Lib.hid (mulL_at (a := rows) (b := rows2) (p := k2) hil)
        have HCB := Lib.hid (comb_zero (row := rows[i]?.getD []) (b := rows2) (p := k2) (by rw [hrl, HE.out]) Hok2.out.1)
        have Hk1 : Hid (((mulL rows rows2 k2).take i).length = i) := Lib.hid (by rw [List.length_take, mulL_len, HH.out]; omega)
        have C := CJ'.out wr i hil
        have Hrl := Lib.hid hrl
        clear hrl hil
        generalize rows[i]?.getD [] = row at *
        go_wp2_with fail
        refine C.mono ?_
        rintro e X ⟨g, c, rfl, hcv, hgb, b1⟩
        have hcv2 := hcv.below (balloc X (.cells #[.int .u8 0] 5))
        have hgl := hcv2.lt
        have hXb := (b1.alloc (by have := b1.size; omega) (.cells #[.int .u8 0] 5))
        have hkm : k + 1 ≤ 140737488355328 := by omega
        have hRV := hR
        clear C c0 c1 c2 hcv
        go_wp2_with (at_builtin; refine conv_push rfl (.tmp 44) (.tmp 45) rfl g c k X.heap.size 1 row 0 rfl hcv2 Hrl.out rfl ?x1 hkm ?_)
        case x1 => exact new_cell X (.int .u8 0) 5
        intro A7 c7 w2 hr2 hg2
        have hB2 : Below wr.heap.size wr w2 := hXb.grown hg2 (by have := hXb.size; omega) (by intro q hq; injection hq with hq; omega)
        have hb2 : Below V.heap.size V w2 := hb.trans (hB2.mono hz)
        replace hF := hF.step hB2
        clear hXb hg2 hcv2 b1
        have hR2 := hR.below hb2
        go_wp2_with fail
        with_reducible refine (kcomb_all hr2 hR2 (hb2.size) (Nat.le_refl _) hs6.out (by omega)).mono ?_
        rw [HCB.out]
        rintro e w3 ⟨A8, n8, c8, rfl, hr8, l8, b8⟩
        replace hF := hF.step b8
        replace hb2 := hb2.trans (b8.mono hb2.size)
        have hn8 : n8 = k2 := by rw [← hr8.1]; exact comb_len _ _ _ _
        subst hn8
        obtain ⟨⟨A9, m9, c9, hcell⟩, hfz⟩ := hF.cell hiH
        have HP := hF.put (c := c8) Hk1.out hiH (comb_len _ _ _ _) hr8
        rw [HT.out] at HP
        have HP' := Lib.hid HP
        have HB := Lib.hid (hb2.setCell (p := (⟨V.heap.size, i, none⟩ : Addr)) (Nat.le_refl _) (.slice A8 n8 c8))
        clear HP hr8 hR2 hr2 hF hb2 hB2 hb b8
        go_wp2_with fail
        go_roundw
        case rel => exact ⟨i + 1, by omega, by go_num, HP'.out, HB.out⟩
        case measure => simp [intOf]; omega
      · obtain rfl : i = H := by omega
        have hl : (mulL rows rows2 k2).take i = mulL rows rows2 k2 := List.take_of_length_le (by rw [mulL_len, HH.out]; exact Nat.le_refl _)
        rw [hl] at hF
        have hMl : (mulL rows rows2 k2).length = i := by rw [mulL_len, HH.out]
        have hfl : (mulL rows rows2 k2).flatten.length ≤ 140737488355328 := by rw [flat_len (mulL_lenB _ _ _), hMl]; exact Nat.le_trans HF6.out (by omega)
        have hRf := hF.rds hMl
        obtain ⟨d0, d1, d2, _, _, _⟩ := cells3 (by_.below hb hly)
        clear hl hF hMl
        go_wp2_with fail
        refine (joined_any (k := k2) hRf (Nat.le_refl _) (Nat.le_refl _) (by omega) hfl).mono ?_
        rintro e w3 ⟨rfl, b3⟩
        have hg3 := (hg.below hb hlg).below b3 (by omega)
        have hb3 := bstep (bstep hb0 hb) b3
        clear d0 d1 d2 b3 hRf hb hfl
        obtain ⟨z0, z1, z2, y0, y1, y2⟩ := cells3 hg3
        obtain ⟨a, b, sv, hgv⟩ := gv_agg k2 (mulL rows rows2 k2)
        have HGV := Lib.hid hgv
        rw [hgv]
        clear hgv
        go_wp2_with fail
        refine end_grid (v := .tuple #[gv k2 (mulL rows rows2 k2), .int .i64 0]) hg3 (by intro W e0 e1 e2; rw [HGV.out]; simp [results, Try.results19, go_sem, e0, e1, e2]; done) rfl fun W hl => ?_
        exact ⟨by rw [HGV.out], hl.below _ _ (by omega) hb3⟩
end Go.Proofs.Ytilelmejpbnbnaa
