import Derived.Test.YtilelmejpbnbnaaGridK
/- grid.Inverse. -/
namespace Go.Proofs.Ytilelmejpbnbnaa
open Go.RowKit
set_option linter.unusedVariables false
set_option maxRecDepth 100000

theorem ginv_size {k : Nat} {rows : List (List UInt8)} {w : World} (hne : k ≠ rows.length) : Calls Try.prog 21 #[gv k rows] w (GridEnds (.tuple #[gv 0 [], .int .i64 4]) w) := by
  obtain ⟨hb0, hx, hg⟩ := two_alloc (w := w) (T := 26) (T2 := 26) (cs := #[.int .i64 (rows.length : Int), .int .i64 (k : Int), .string (strB rows.flatten)]) (cs2 := #[.int .i64 0, .int .i64 0, .string { data := #[] }])
  obtain ⟨hc0, hc1, hc2, hf0, hf1, hf2⟩ := cells3 hg
  have t : ((k : Int) != (rows.length : Int)) = true := by rw [bne_iff_ne]; omega
  simp only [gv]
  clear hne
  go_enter Try.func21, Try.ntmps21
  go_wp2_with fail
  exact bodyPost_ret (v := .tuple #[gv 0 [], .int .i64 4]) (by simp [results, Try.results21, go_sem, hc0, hc1, hc2, gv_zero]) rfl ⟨rfl, hb0⟩

/-! ### Rows, each with its unit -/
def pairs (n : Nat) (rows : List (List UInt8)) : List Pt := (List.range n).map fun i => pt (rows[i]?.getD [], unitL n i)
theorem pairs_len (n : Nat) (rows : List (List UInt8)) : (pairs n rows).length = n := by simp [pairs]
theorem pairs_at {n k : Nat} {rows : List (List UInt8)} (h : k < n) : at0 (pairs n rows) k = pt (rows[k]?.getD [], unitL n k) := by simp [at0, pairs, h]
theorem unit_fn {n i j : Nat} : fn (unitL n i) j = if j = i ∧ i < n then 1 else 0 := by
  unfold fn unitL nulls
  by_cases h : j = i
  · subst h
    by_cases hj : j < n
    · rw [if_pos ⟨rfl, hj⟩, List.getElem?_set_self (by simpa using hj)]; rfl
    · rw [if_neg (by omega), List.getElem?_eq_none (by simp; omega)]; rfl
  · rw [if_neg (fun e => h e.1), List.getElem?_set_ne (Ne.symm h), List.getElem?_replicate]
    split <;> rfl
/-- What lies in each closed set that holds the rows with their units. -/
def Holding (n : Nat) (rows : List (List UInt8)) (S : Pt → Prop) : Prop := Sub S ∧ ∀ a ∈ pairs n rows, S a
/-- The rows combined by what stands beside. -/
def Graph (n : Nat) (rows : List (List UInt8)) (m : Pt) : Prop := (∀ j, m.v j = xs (fun k => gm (m.d k) (fn (rows[k]?.getD []) j)) n)
theorem graph_hold (n : Nat) (rows : List (List UInt8)) : Holding n rows (Graph n rows) := by
  refine ⟨⟨fun j => ?_, fun m c o hm ho j => ?_⟩, fun a ha j => ?_⟩
  · exact (xs_zero fun k _ => gm_zero_left _).symm
  · show m.v j ^^^ gm c (o.v j) = _
    rw [hm j, ho j, ← xs_mul, ← xs_add]
    refine xs_congr fun k _ => ?_
    show _ = gm (m.d k ^^^ gm c (o.d k)) _
    rw [gm_xor_left, gm_assoc]
  · simp only [pairs, List.mem_map, List.mem_range] at ha
    obtain ⟨i, hi, rfl⟩ := ha
    show fn (rows[i]?.getD []) j = xs (fun k => gm (fn (unitL n i) k) (fn (rows[k]?.getD []) j)) n
    rw [xs_single hi fun k _ hne => by rw [unit_fn, if_neg (fun e => hne e.1), gm_zero_left]]
    rw [unit_fn, if_pos ⟨rfl, hi⟩, gm_one_left]
def InvSo (st : Nat → Option RowL) (n k : Nat) (rows : List (List UInt8)) : Prop := ∃ E, StE st E ∧ Ech E ∧ E.length = k ∧ Sized st n n ∧ ∀ m, Span (pts E) m ↔ Span ((pairs n rows).take k) m
theorem InvSo.start (n : Nat) (rows : List (List UInt8)) : InvSo (fun _ => none) n 0 rows := ⟨[], StE.nil, Ech.nil, rfl, Sized.nil _ _, fun m => Iff.rfl⟩
theorem InvSo.yes {st : Nat → Option RowL} {n k i : Nat} {rows : List (List UInt8)} {us : List UInt8} {x : RowL} (h : InvSo st n k rows) (hk : k < n) (hu : rows[k]?.getD [] = us) (h1 : us.length = n) (hC : Came st (us, unitL n k) x) (hi : leadI x.1 = (i : Int)) (e : st i = none) : InvSo (upd st i (normR x)) n (k + 1) rows := by
  obtain ⟨E, e1, e2, e3, e4, e5⟩ := h
  obtain ⟨f1, f2, f3, f4⟩ := e1.put e4 e2 (r := (us, unitL n k)) h1 (unitL_length _ _) hC hi e
  refine ⟨_, f1, f3, by simp [e3], f2, fun m => ?_⟩
  have ht : (pairs n rows)[k]? = some (pt (us, unitL n k)) := by simp [pairs, hk, hu]
  rw [f4, take_snoc ht, span_snoc, ← span_cons_congr e5]
/-- Where a row adds nothing, the rank is less than there are rows. -/
theorem InvSo.no {st : Nat → Option RowL} {n k r : Nat} {rows : List (List UInt8)} {us : List UInt8} {x : RowL} (h : InvSo st n k rows) (hk : k < n) (hn : rows.length = n) (hu : rows[k]?.getD [] = us) (h1 : us.length = n) (hC : Came st (us, unitL n k) x) (hi : leadI x.1 < 0) (hr : Rk (rows.map pt0) r) : r < n := by
  obtain ⟨E, e1, e2, e3, e4, e5⟩ := h
  have hsv : ∀ L : List Pt, Sub fun m => ∃ u, Span L u ∧ u.v = m.v := fun L => ⟨⟨Pt.zero, Span.zero _, rfl⟩, fun m c o ⟨u, u1, u2⟩ ⟨v, v1, v2⟩ => ⟨Pt.less u c v, Span.less c u1 v1, by
    funext j
    show u.v j ^^^ gm c (v.v j) = m.v j ^^^ gm c (o.v j)
    rw [u2, v2]⟩⟩
  have hx := (came_span e1 e4 (r := (us, unitL n k)) h1 (unitL_length _ _) hC (hsv (pts E)) fun f hf => ⟨f.2, pts_mem hf, rfl⟩).1 ⟨Pt.zero, Span.zero _, by funext j; exact (lead_fn_none hi j).symm⟩
  obtain ⟨u, u1, u2⟩ := hx
  replace u1 := (e5 _).1 u1
  have hkl : k < rows.length := by omega
  let L := (rows.take k ++ rows.drop (k + 1)).map pt0
  have hLl : L.length = n - 1 := by simp [L]; omega
  obtain ⟨t, t1, t2⟩ := Rk.exists (L := L) fun a ha => by
    obtain ⟨r, _, rfl⟩ := List.mem_map.1 ha
    exact pt0_d r
  have hmem : ∀ i, i < n → i ≠ k → pt0 (rows[i]?.getD []) ∈ L := fun i hi2 hne => by
    refine List.mem_map_of_mem ?_
    have hil : i < rows.length := by omega
    rw [List.getElem?_eq_getElem hil, Option.getD_some]
    rcases Nat.lt_or_gt_of_ne hne with hlt | hgt
    · exact List.mem_append_left _ (List.mem_take_iff_getElem.2 ⟨i, by omega, rfl⟩)
    · refine List.mem_append_right _ ?_
      rw [List.mem_drop_iff_getElem]
      exact ⟨i - (k + 1), by omega, by congr 1; omega⟩
  have hle := hr.le t2 fun a ha => by
    obtain ⟨s, hs, rfl⟩ := List.mem_map.1 ha
    obtain ⟨i, hil, rfl⟩ := List.getElem_of_mem hs
    by_cases hik : i = k
    · subst hik
      have hg : rows[i] = us := by rw [← hu, List.getElem?_eq_getElem hil]; rfl
      obtain ⟨m', m1, m2⟩ := Span.least (hsv L) (fun a ha => by
        obtain ⟨j, hj, rfl⟩ := List.getElem_of_mem ha
        have hj2 : j < i := by simp [pairs] at hj; omega
        refine ⟨_, Span.mem (hmem j (by omega) (by omega)), ?_⟩
        simp [pairs, pt0, pt]) u1
      refine ⟨m', m1, ?_⟩
      rw [m2, u2, hg]
      rfl
    · have := hmem i (by omega) hik
      rw [List.getElem?_eq_getElem hil, Option.getD_some] at this
      exact ⟨_, Span.mem this, rfl⟩
  omega
/-- What an inverse is: from either side. -/
def InvIs (n : Nat) (rows D : List (List UInt8)) : Prop := D.length = n ∧ lenB n D = true ∧ (∀ i, i < n → ∀ j, xs (fun k => gm (fn (D[i]?.getD []) k) (fn (rows[k]?.getD []) j)) n = if j = i then 1 else 0) ∧ ∀ c : V, (∀ j, j < n → xs (fun k => gm (c k) (fn (rows[k]?.getD []) j)) n = 0) → ∀ k, k < n → c k = 0
theorem InvSo.upto {st : Nat → Option RowL} {n : Nat} {rows : List (List UInt8)} (h : InvSo st n n rows) : Upto (Holding n rows) n n n st := by
  obtain ⟨E, e1, e2, e3, e4, e5⟩ := h
  have hlt : ∀ i ∈ leads E, i < n := fun i hi => by
    obtain ⟨f, hf, rfl⟩ := mem_leads.1 hi
    obtain ⟨r, hr, _⟩ := e1.2 f hf
    obtain ⟨r1, _, r3, _⟩ := e4 _ r hr
    have := (lead_fn_ne r3).2.2
    omega
  intro i hi
  obtain ⟨f, hf, rfl⟩ := mem_leads.1 (full_leads e2.2 hlt (by simpa [leads] using e3) i hi)
  obtain ⟨r, hr, hp⟩ := e1.2 f hf
  obtain ⟨r1, r2, r3, r4⟩ := e4 _ r hr
  refine ⟨r, hr, r1, r2, r4, fun j hj => (lead_fn_ne r3).2.1 j hj, fun j hj _ => fn_out (by omega), fun S hS => ?_⟩
  rw [← hp]
  have h1 := (e5 _).1 (pts_mem hf)
  rw [List.take_of_length_le (by rw [pairs_len]; exact Nat.le_refl _)] at h1
  exact Span.least hS.1 hS.2 h1
theorem InvSo.inv {st : Nat → Option RowL} {n : Nat} {rows D : List (List UInt8)} (h : InvSo st n n rows) (hlr : lenB n rows = true) (hnr : rows.length = n) (hD : D.length = n) (hd : ∀ i, i < n → (D[i]?.getD []).length = n ∧ ∀ S, Holding n rows S → S (pt (unitL n i, D[i]?.getD []))) : InvIs n rows D := by
  refine ⟨hD, ?_, fun i hi j => ?_, fun c hc k hk => ?_⟩
  · unfold lenB
    rw [List.all_eq_true]
    intro r hr
    obtain ⟨i, hi, rfl⟩ := List.getElem_of_mem hr
    have := (hd i (by omega)).1
    rw [List.getElem?_eq_getElem hi, Option.getD_some] at this
    simpa using this
  · have h1 := (hd i hi).2 _ (graph_hold n rows) j
    rw [show (pt (unitL n i, D[i]?.getD [])).v j = fn (unitL n i) j from rfl, unit_fn] at h1
    rw [← show xs (fun k => gm ((pt (unitL n i, D[i]?.getD [])).d k) (fn (rows[k]?.getD []) j)) n = xs (fun k => gm (fn (D[i]?.getD []) k) (fn (rows[k]?.getD []) j)) n from rfl, ← h1]
    by_cases hj : j = i
    · rw [if_pos ⟨hj, hi⟩, if_pos hj]
    · rw [if_neg (fun e => hj e.1), if_neg hj]
  · obtain ⟨E, e1, e2, e3, e4, e5⟩ := h
    rw [List.take_of_length_le (by rw [pairs_len]; exact Nat.le_refl _)] at e5
    have hm := (e5 (comb c (pairs n rows))).2 (span_iff.2 ⟨c, rfl⟩)
    have hz := e2.graph hm fun j => by
      show xs (fun q => gm (c q) ((at0 (pairs n rows) q).v j)) (pairs n rows).length = 0
      rw [pairs_len]
      by_cases hj : j < n
      · rw [← hc j hj]
        refine xs_congr fun q hq => ?_
        rw [pairs_at hq]
        rfl
      · refine xs_zero fun q hq => ?_
        rw [pairs_at hq]
        have hlen : (rows[q]?.getD []).length ≤ n := by
          exact Nat.le_of_eq (lenB_get hlr (by omega))
        show gm (c q) (fn (rows[q]?.getD []) j) = 0
        rw [fn_out (by omega), gm_zero_right]
    have hk2 := congrArg (fun p : Pt => p.d k) hz
    have : (comb c (pairs n rows)).d k = c k := by
      show xs (fun q => gm (c q) ((at0 (pairs n rows) q).d k)) (pairs n rows).length = c k
      rw [pairs_len, xs_single hk fun q hq hne => by rw [pairs_at hq]; show gm (c q) (fn (unitL n q) k) = 0; rw [unit_fn, if_neg (fun e => hne e.1.symm), gm_zero_right]]
      rw [pairs_at hk]
      show gm (c k) (fn (unitL n k) k) = c k
      rw [unit_fn, if_pos ⟨rfl, hk⟩, gm_one_right]
    rw [← this]
    exact hk2

/-! ### The walk -/
theorem rd_unit {w : World} {g n k : Nat} (h : Blk w g 5 (bvs (unitL n k)).toArray) : Rd w w.heap.size (some ⟨g, 0, none⟩) n (unitL n k) := by
  have := (Rd.of_blk h).more (B' := w.heap.size) h.lt
  rwa [unitL_length] at this
def TookB (st : Nat → Option RowL) (n : Nat) (r : RowL) (g : Nat) (w : World) (e : Ending) (w' : World) : Prop :=
  ∃ (x : RowL) (b : Bool), e = .returned (.bool b) ∧ Came st r x ∧ w.grownBy w' (some g) ∧ ((b = false ∧ leadI x.1 < 0 ∧ Stairs w' g n st) ∨ (b = true ∧ ∃ i : Nat, leadI x.1 = (i : Int) ∧ i < n ∧ st i = none ∧ Stairs w' g n (upd st i (normR x))))
theorem take_b {w : World} {g n : Nat} {st : Nat → Option RowL} {r : RowL} {x : Value} (hS : Stairs w g n st) (hx : RowIs w r x) (hz : Sized st n r.2.length) (hl : r.1.length = n) (hn : n ≤ 65536) :
    Calls Try.prog 52 #[.slice (some ⟨g, 0, none⟩) n n, x] w (TookB st n r g w) :=
  (take_any hS hx hz hl hn).mono fun e w' ⟨x, h1, h2, h3⟩ => by
    rcases h3 with ⟨h4, rfl, h5⟩ | ⟨i, h4, h5, h6, rfl, h7⟩
    · exact ⟨x, false, rfl, h1, h2, .inl ⟨rfl, h4, h5⟩⟩
    · exact ⟨x, true, rfl, h1, h2, .inr ⟨rfl, i, h4, h5, h6, h7⟩⟩
/-- What comes of a square's inverse. -/
def InvEnds (n : Nat) (rows : List (List UInt8)) (w : World) (e : Ending) (w' : World) : Prop :=
  ((e = .returned (.tuple #[gv 0 [], .int .i64 19]) ∧ ∀ r, Rk (rows.map pt0) r → r < n) ∨ ∃ D, e = .returned (.tuple #[gv n D, .int .i64 0]) ∧ InvIs n rows D) ∧ Below w.heap.size w w'
set_option maxHeartbeats 2000000 in
theorem ginv_any {n : Nat} {rows : List (List UInt8)} {w : World} (h : GridOk n rows) (hsq : rows.length = n) : Calls Try.prog 21 #[gv n rows] w (InvEnds n rows w) := by
  have hn : n ≤ 65536 := h.2.1
  have hnn : n * n ≤ 65536 := by have := h.2.2.2; rwa [hsq] at this
  have Hok := Lib.hid h
  have Hsq := Lib.hid hsq
  have hgv : gv n rows = .agg #[.int .i64 (n : Int), .int .i64 (n : Int), .string (strB rows.flatten)] := by rw [gv, hsq]
  have CJ := fun W i hi => grow_any n i rows W h hi
  rw [hgv] at CJ
  have CJ' := Lib.hid CJ
  rw [hgv]
  clear h hsq hgv CJ
  generalize strB rows.flatten = S1 at *
  obtain ⟨hb0, hg, hq⟩ := two_alloc (w := w) (T := 26) (T2 := 26) (cs := #[.int .i64 (n : Int), .int .i64 (n : Int), .string S1]) (cs2 := #[.int .i64 0, .int .i64 0, .string { data := #[] }])
  obtain ⟨c0, c1, c2, _, _, _⟩ := cells3 hg
  have hmk := make_stairs n hn ((w.alloc (.cells #[.int .i64 (n : Int), .int .i64 (n : Int), .string S1] 26)).alloc (.cells #[.int .i64 0, .int .i64 0, .string { data := #[] }] 26))
  have hS := Stairs.new ((w.alloc (.cells #[.int .i64 (n : Int), .int .i64 (n : Int), .string S1] 26)).alloc (.cells #[.int .i64 0, .int .i64 0, .string { data := #[] }] 26)) n
  have b1 := balloc ((w.alloc (.cells #[.int .i64 (n : Int), .int .i64 (n : Int), .string S1] 26)).alloc (.cells #[.int .i64 0, .int .i64 0, .string { data := #[] }] 26)) (.cells (nilRows n).toArray 58)
  have hb1 := bstep hb0 b1
  have hg1 := hg.below b1 hg.lt
  have hq1 := hq.below b1 hq.lt
  obtain ⟨e0, e1, e2, _, _, _⟩ := cells3 hg1
  simp only [World.size_alloc] at hS
  go_enter Try.func21, Try.ntmps21
  go_wp2_with fail
  clear c0 c1 c2 e0 e1 e2 hmk b1 hb0 hg hq
  go_loopw [17] (fun x wr => ∃ (k : Nat) (st : Nat → Option RowL), k ≤ n ∧ x = .int .i64 k ∧ Hid (InvSo st n k rows) ∧ Stairs wr (w.heap.size + 1 + 1) n st ∧ Blk wr w.heap.size 26 #[.int .i64 (n : Int), .int .i64 (n : Int), .string S1] ∧ Blk wr (w.heap.size + 1) 26 #[.int .i64 0, .int .i64 0, .string { data := #[] }] ∧ Below w.heap.size w wr) (fun x _ => n - (intOf x).toNat)
  case atStart => exact ⟨0, _, by omega, rfl, Lib.hid (InvSo.start n rows), hS, hg1, hq1, hb1⟩
  case round =>
    clear hS hg1 hq1 hb1
    obtain ⟨k, st, hk, rfl, hSo, hS, hg, hq, hb⟩ := hrel
    by_cases hkn : k < n
    · have HS : Hid (∀ w', Blk w' w.heap.size 26 #[.int .i64 (n : Int), .int .i64 (n : Int), .string S1] → (w'.cell? ⟨w.heap.size, 0, none⟩ = some (.int .i64 (n : Int)) ∧ w'.cell? ⟨w.heap.size, 1, none⟩ = some (.int .i64 (n : Int)) ∧ w'.cell? ⟨w.heap.size, 2, none⟩ = some (.string S1))) := Lib.hid fun w' h => by
        obtain ⟨z0, z1, z2, _⟩ := cells3 h
        exact ⟨z0, z1, z2⟩
      have hul : (rows[k]?.getD []).length = n := lenB_get Hok.out.1 (by rw [Hsq.out]; exact hkn)
      have hu : rows[k]?.getD [] = rows[k]?.getD [] := rfl
      have C1 := fun W => CJ'.out W k (by rw [Hsq.out]; exact hkn)
      obtain ⟨us, hus⟩ : ∃ us, rows[k]?.getD [] = us := ⟨_, rfl⟩
      rw [hus] at C1 hul
      have Hus := Lib.hid hus
      have Hul := Lib.hid hul
      have C2 := fun W => gunit_any n k W hkn hn
      have C3 := fun W A c A2 c2 (r1 : Rd W W.heap.size A n us) (r2 : Rd W W.heap.size A2 n (unitL n k)) => vof_any (c := c) (c2 := c2) r1 r2 (by omega) (by omega)
      have C4 := fun W x (hS : Stairs W (w.heap.size + 1 + 1) n st) (hx : RowIs W (us, unitL n k) x) => take_b hS hx (by obtain ⟨E, _, _, _, e4, _⟩ := hSo.out; rw [unitL_length]; exact e4) Hul.out hn
      clear hu hus hul
      go_wp2_with fail
      go_region_held3 (fun w' => w'.cell? ⟨w.heap.size, 0, none⟩ = some (.int .i64 (n : Int)) ∧ w'.cell? ⟨w.heap.size, 1, none⟩ = some (.int .i64 (n : Int)) ∧ w'.cell? ⟨w.heap.size, 2, none⟩ = some (.string S1))
        ((refine HS.out _ ?_; first | exact hg.drew | assumption))
        (first
          | (go_at_call 53; (with_reducible refine (C1 _).mono ?_); rintro e x1 ⟨A1, c1, rfl, r1, b1⟩; have k1 := hg.drew.below b1 hg.lt)
          | (go_at_call 57; (with_reducible refine (C2 _).mono ?_); rintro e x2 ⟨g2, rfl, u2, b2⟩; have k2 := k1.below b2 k1.lt)
          | (go_at_call 48; (with_reducible refine (C3 _ _ _ _ _ (r1.step b2) (rd_unit u2)).mono ?_); rintro e x3 ⟨v3, rfl, r3, b3⟩; have k3 := k2.below b3 k2.lt)
          | (go_at_call 52; (with_reducible refine (C4 _ _ (((hS.step ((Below.refl _ _).drew)).step b1).step b2 |>.step b3) r3).mono ?_); rintro e x4 ⟨x, b, rfl, hC, hgr, hcase⟩; have k4 : Blk x4 w.heap.size 26 _ := k3.grown hgr (by simp; omega)))
      have bd := (Below.refl wr.heap.size wr).drew
      have kq := ((hq.drew.below b1 hq.lt).below b2 (Nat.lt_of_lt_of_le hq.lt b1.size))
      have kq3 := kq.below b3 kq.lt
      have kq4 : Blk x4 (w.heap.size + 1) 26 _ := kq3.grown hgr (by simp)
      have hb4 := (bstep (bstep (bstep (bstep hb bd) b1) b2) b3).grown hgr (by have := b3.size; have := b2.size; have := b1.size; have := hb.size; have : wr.drew.heap.size = wr.heap.size := rfl; omega) (by intro q hq; injection hq with hq; omega)
      have HC := Lib.hid hC
      clear C1 C2 C3 C4 r1 r3 b1 b2 b3 k1 k2 k3 kq kq3 hgr hS hg hq hb bd hC u2
      obtain ⟨z0, z1, z2, y0, y1, y2⟩ := cells3 kq4
      cases b with
      | false =>
        have HN : Hid (∀ r, Rk (rows.map pt0) r → r < n) := Lib.hid (by
          rcases hcase with ⟨_, hneg, _⟩ | ⟨hf, _⟩
          · exact fun r hr => hSo.out.no hkn Hsq.out Hus.out Hul.out HC.out hneg hr
          · cases hf)
        clear hcase
        go_wp2_with fail
        refine end_grid (v := .tuple #[gv 0 [], .int .i64 19]) kq4 (by intro W e0 e1 e2; simp [results, Try.results21, go_sem, e0, e1, e2, gv_zero]; done) rfl fun W hl => ?_
        exact ⟨.inl ⟨rfl, HN.out⟩, hl.below _ _ (by omega) hb4⟩
      | true =>
        obtain ⟨i, hi, hin, hst, hS4⟩ : ∃ i : Nat, leadI x.1 = (i : Int) ∧ i < n ∧ st i = none ∧ Stairs x4 (w.heap.size + 1 + 1) n (upd st i (normR x)) := by
          rcases hcase with ⟨hf, _⟩ | ⟨_, h⟩
          · cases hf
          · exact h
        have HN := Lib.hid (hSo.out.yes hkn Hus.out Hul.out HC.out hi hst)
        clear hcase hi hst
        go_wp2_with fail
        go_roundw
        case rel => exact ⟨k + 1, _, by omega, by go_num, HN, hS4, k4, kq4, hb4⟩
        case measure => simp [intOf]; omega
    · obtain rfl : k = n := by omega
      have HS : Hid (∀ w', Blk w' w.heap.size 26 #[.int .i64 (k : Int), .int .i64 (k : Int), .string S1] → (w'.cell? ⟨w.heap.size, 0, none⟩ = some (.int .i64 (k : Int)) ∧ w'.cell? ⟨w.heap.size, 1, none⟩ = some (.int .i64 (k : Int)))) := Lib.hid fun w' h => by
        obtain ⟨z0, z1, z2, _⟩ := cells3 h
        exact ⟨z0, z1⟩
      have C1 := fun W hS => carried_any (P := Holding k rows) (m := k) (fun S h => h.1) (w := W) (g := w.heap.size + 1 + 1) (st := st) hS hSo.out.upto hn
      have hIN := Lib.hid fun D (hD : D.length = k) hd => hSo.out.inv Hok.out.1 Hsq.out (D := D) hD hd
      have hfl := Lib.hid fun D (h : InvIs k rows D) => show D.flatten.length ≤ 140737488355328 by rw [flat_len h.2.1, h.1]; omega
      go_wp2_with fail
      go_region_held3 (fun w' => w'.cell? ⟨w.heap.size, 0, none⟩ = some (.int .i64 (k : Int)) ∧ w'.cell? ⟨w.heap.size, 1, none⟩ = some (.int .i64 (k : Int)))
        ((refine HS.out _ ?_; first | exact hg.drew | assumption | exact ((Blk.far (by assumption) (by simp) _).far (by simp) _).far (by simp) _))
        (first
          | (go_at_call 58; (with_reducible refine (C1 _ (hS.step (Below.refl _ _).drew)).mono ?_); rintro e x1 ⟨D, A1, c1, rfl, hcap, hrd, hD, hgr⟩; have k1 : Blk x1 w.heap.size 26 _ := hg.drew.grown hgr (by simp; omega); have HI := Lib.hid (hIN.out D hrd.1 hD); have kq1 : Blk x1 (w.heap.size + 1) 26 _ := hq.drew.grown hgr (by simp))
          | (go_at_call 55; (with_reducible refine (joined_any (k := k) hrd (Nat.le_refl _) hcap (by omega) (hfl.out D HI.out)).mono ?_); rintro e x2 ⟨rfl, b2⟩; have k2 := k1.below b2 k1.lt; have kq2 := kq1.below b2 kq1.lt; obtain ⟨z0, z1, z2, y0, y1, y2⟩ := cells3 kq2; simp only [gv]))
      have hb2 := ((hb.trans ((Below.refl wr.heap.size wr).drew.mono hb.size)).grown hgr (by have := hb.size; simpa using this) (by intro q hq; injection hq with hq; omega)).trans (b2.mono (by have := hgr.size; have := hb.size; have : wr.drew.heap.size = wr.heap.size := rfl; omega))
      clear C1 hIN hfl hgr k1 k2 kq1 hg hq hS b2
      go_wp2_with fail
      refine end_grid (v := .tuple #[gv k D, .int .i64 0]) kq2 (by intro W e0 e1 e2; simp [results, Try.results21, go_sem, e0, e1, e2, gv]; done) rfl fun W hl => ?_
      exact ⟨.inr ⟨D, rfl, HI.out⟩, hl.below _ _ (by omega) hb2⟩
end Go.Proofs.Ytilelmejpbnbnaa
