import Derived.Test.YtaidbcppecoenaaGridE
import Derived.Test.YtaidbcppecoenaaPtM
/- Stairs and spans: what a row put on the stairs comes to; a grid's rank. -/
namespace Go.Proofs.Ytaidbcppecoenaa
open Go.RowKit
set_option linter.unusedVariables false
set_option maxRecDepth 100000

/-- The stairs are these rows. -/
def StE (st : Nat → Option RowL) (E : List (Nat × Pt)) : Prop := (∀ i r, st i = some r → (i, pt r) ∈ E) ∧ ∀ e ∈ E, ∃ r, st e.1 = some r ∧ e.2 = pt r
theorem came_span {st : Nat → Option RowL} {E : List (Nat × Pt)} {n m : Nat} {r x : RowL} (hE : StE st E) (hz : Sized st n m) (h1 : r.1.length = n) (h2 : r.2.length = m) (hC : Came st r x) {S : Pt → Prop} (hS : Sub S) (h : ∀ e ∈ E, S e.2) : S (pt x) ↔ S (pt r) := by
  obtain ⟨ha, hb, l, hl, rfl⟩ := hC
  clear ha hb
  induction l generalizing r with
  | nil => exact Iff.rfl
  | cons p l ih =>
    obtain ⟨i, o⟩ := p
    have ho := hl (i, o) (List.mem_cons_self ..)
    simp only at ho
    obtain ⟨z1, z2, _, _⟩ := hz i o ho
    obtain ⟨f1, f2⟩ := lessAt_len (r := r) (o := o) (i := (i : Int)) (by omega) (by omega)
    rw [List.foldl_cons, ih (f1.trans h1) (f2.trans h2) fun q hq => hl q (List.mem_cons_of_mem _ hq)]
    have ho' := h _ (hE.1 i o ho)
    unfold lessAt
    rw [pt_less _ (z1.trans h1.symm) (z2.trans h2.symm), atB_fn]
    constructor
    · intro hh
      have := hS.2 _ (fn r.1 i) _ hh ho'
      rwa [less_back2] at this
    · intro hh; exact hS.2 _ _ _ hh ho'
theorem StE.nil : StE (fun _ => none) [] := ⟨fun _ _ h => by simp at h, fun e h => by simp at h⟩
theorem Sized.nil (n m : Nat) : Sized (fun _ => none) n m := fun _ _ h => by simp at h
theorem StE.leads {st : Nat → Option RowL} {E : List (Nat × Pt)} (h : StE st E) {i : Nat} (e : st i = none) : i ∉ leads E := fun hi => by
  obtain ⟨f, hf, rfl⟩ := mem_leads.1 hi
  obtain ⟨r, hr, _⟩ := h.2 f hf
  rw [e] at hr; cases hr
/-- A row more on the stairs. -/
theorem StE.put {st : Nat → Option RowL} {E : List (Nat × Pt)} {n m i : Nat} {r x : RowL} (hE : StE st E) (hz : Sized st n m) (he : Ech E) (h1 : r.1.length = n) (h2 : r.2.length = m) (hC : Came st r x) (hi : leadI x.1 = (i : Int)) (e : st i = none) :
    StE (upd st i (normR x)) ((i, pt (normR x)) :: E) ∧ Sized (upd st i (normR x)) n m ∧ Ech ((i, pt (normR x)) :: E) ∧ ∀ y, Span (pts ((i, pt (normR x)) :: E)) y ↔ Span (pt r :: pts E) y := by
  obtain ⟨n1, n2⟩ := norm_len x
  obtain ⟨k1, k2⟩ := normed hi
  have hnl := hE.leads e
  obtain ⟨g1, g2, g3⟩ := lead_fn_ne hi
  refine ⟨⟨fun j s hs => ?_, fun f hf => ?_⟩, fun j s hs => ?_, he.cons hnl k2 (fun j hj => ?_), fun y => ?_⟩
  · unfold upd at hs
    split at hs
    · rename_i hji
      injection hs with hs
      subst hs hji
      exact List.mem_cons_self ..
    · exact List.mem_cons_of_mem _ (hE.1 j s hs)
  · rcases List.mem_cons.1 hf with rfl | hf
    · exact ⟨normR x, by simp [upd], rfl⟩
    · obtain ⟨s, hs, e2⟩ := hE.2 f hf
      refine ⟨s, ?_, e2⟩
      unfold upd
      rw [if_neg fun h => by rw [h, e] at hs; cases hs]
      exact hs
  · unfold upd at hs
    split at hs
    · rename_i hji
      injection hs with hs
      subst hs hji
      exact ⟨by rw [n1, hC.1, h1], by rw [n2, hC.2.1, h2], k1, k2⟩
    · exact hz j s hs
  · exact (lead_fn_ne k1).2.1 j hj
  · have hs := fun (S : Pt → Prop) (hS : Sub S) (h : ∀ f ∈ E, S f.2) => came_span hE hz h1 h2 hC hS h
    rw [pt_norm hi]
    have gne : (pt x).v i ≠ 0 := g1
    constructor
    · refine Span.mono fun b hb => ?_
      rcases List.mem_cons.1 hb with rfl | hb
      · exact scl_in (Span.sub _) _ ((hs _ (Span.sub _) fun f hf => Span.mem (List.mem_cons_of_mem _ (List.mem_map_of_mem hf))).2 (Span.mem (List.mem_cons_self ..)))
      · exact Span.mem (List.mem_cons_of_mem _ hb)
    · refine Span.mono fun b hb => ?_
      rcases List.mem_cons.1 hb with rfl | hb
      · refine (hs _ (Span.sub _) fun f hf => Span.mem (List.mem_cons_of_mem _ (List.mem_map_of_mem hf))).1 (scl_out (Span.sub _) (ginv_ne gne) (Span.mem (List.mem_cons_self ..)))
      · exact Span.mem (List.mem_cons_of_mem _ hb)

/-! ### Rank -/
/-- A row without data. -/
def pt0 (us : List UInt8) : Pt := pt (us, [])
theorem pt0_d (us : List UInt8) : (pt0 us).d = fun _ => 0 := by funext i; rfl
theorem take_zero {st : Nat → Option RowL} {E : List (Nat × Pt)} {n : Nat} {us : List UInt8} {x : RowL} (hE : StE st E) (hz : Sized st n 0) (h1 : us.length = n) (hC : Came st (us, []) x) (hi : leadI x.1 < 0) : Span (pts E) (pt0 us) := by
  refine (came_span hE hz h1 rfl hC (Span.sub _) fun f hf => pts_mem hf).1 ?_
  have : pt x = Pt.zero := by
    refine Pt.eqI (fun k => ?_) (fun k => ?_)
    · exact lead_fn_none hi k
    · have : x.2 = [] := List.eq_nil_of_length_eq_zero hC.2.1
      rw [pt, this]; rfl
  rw [this]
  exact Span.zero _
def RankIs (rows : List (List UInt8)) (w : World) (e : Ending) (w' : World) : Prop := ∃ r : Nat, e = .returned (.int .i64 (r : Int)) ∧ Rk (rows.map pt0) r ∧ Below w.heap.size w w'
/-- So far: these rows lead, and span what was put. -/
def Sofar (st : Nat → Option RowL) (n k r : Nat) (rows : List (List UInt8)) : Prop := ∃ E, StE st E ∧ Ech E ∧ E.length = r ∧ Sized st n 0 ∧ ∀ m, Span (pts E) m ↔ Span ((rows.take k).map pt0) m
theorem Sofar.start (n : Nat) (rows : List (List UInt8)) : Sofar (fun _ => none) n 0 0 rows := ⟨[], StE.nil, Ech.nil, rfl, Sized.nil _ _, fun m => Iff.rfl⟩
theorem take_snoc {α : Type} {l : List α} {k : Nat} {x : α} (h : l[k]? = some x) : l.take (k + 1) = l.take k ++ [x] := by
  obtain ⟨h1, h2⟩ := List.getElem?_eq_some_iff.1 h
  rw [List.take_succ_eq_append_getElem h1, h2]
theorem span_snoc {L : List Pt} {a m : Pt} : Span (L ++ [a]) m ↔ Span (a :: L) m := Span.perm (by simp)
theorem span_cons_congr {L M : List Pt} {a : Pt} (h : ∀ m, Span L m ↔ Span M m) {m : Pt} : Span (a :: L) m ↔ Span (a :: M) m :=
  ⟨fun ⟨c, hc⟩ => ⟨c, (h _).1 hc⟩, fun ⟨c, hc⟩ => ⟨c, (h _).2 hc⟩⟩
theorem span_cons_mem {L : List Pt} {a : Pt} (h : Span L a) {m : Pt} : Span (a :: L) m ↔ Span L m := by
  constructor
  · refine Span.mono fun b hb => ?_
    rcases List.mem_cons.1 hb with rfl | hb
    · exact h
    · exact Span.mem hb
  · exact Span.mono fun b hb => Span.mem (List.mem_cons_of_mem _ hb)
theorem Sofar.no {st : Nat → Option RowL} {n k r : Nat} {rows : List (List UInt8)} {us : List UInt8} {x : RowL} (h : Sofar st n k r rows) (hu : rows[k]? = some us) (h1 : us.length = n) (hC : Came st (us, []) x) (hi : leadI x.1 < 0) : Sofar st n (k + 1) r rows := by
  obtain ⟨E, e1, e2, e3, e4, e5⟩ := h
  refine ⟨E, e1, e2, e3, e4, fun m => ?_⟩
  rw [take_snoc hu, List.map_append, List.map_cons, List.map_nil, span_snoc, ← span_cons_congr e5, span_cons_mem (take_zero e1 e4 h1 hC hi)]
theorem Sofar.yes {st : Nat → Option RowL} {n k r i : Nat} {rows : List (List UInt8)} {us : List UInt8} {x : RowL} (h : Sofar st n k r rows) (hu : rows[k]? = some us) (h1 : us.length = n) (hC : Came st (us, []) x) (hi : leadI x.1 = (i : Int)) (e : st i = none) : Sofar (upd st i (normR x)) n (k + 1) (r + 1) rows := by
  obtain ⟨E, e1, e2, e3, e4, e5⟩ := h
  obtain ⟨f1, f2, f3, f4⟩ := e1.put e4 e2 (r := (us, [])) h1 rfl hC hi e
  refine ⟨_, f1, f3, by simp [e3], f2, fun m => ?_⟩
  rw [f4, take_snoc hu, List.map_append, List.map_cons, List.map_nil, span_snoc, ← span_cons_congr e5]
  rfl
theorem Sofar.rank {st : Nat → Option RowL} {n k r : Nat} {rows : List (List UInt8)} (h : Sofar st n k r rows) (hk : rows.length ≤ k) : Rk (rows.map pt0) r := by
  obtain ⟨E, e1, e2, e3, e4, e5⟩ := h
  rw [List.take_of_length_le hk] at e5
  exact ⟨E, e2, e3, e5⟩
theorem grank_any {n : Nat} {rows : List (List UInt8)} {w : World} (h : GridOk n rows) : Calls Try.prog 12 #[gv n rows] w (RankIs rows w) := by
  have hb0 := balloc w (.cells #[.int .i64 (rows.length : Int), .int .i64 (n : Int), .string (strB rows.flatten)] 26)
  have hg := Blk.new w 26 #[.int .i64 (rows.length : Int), .int .i64 (n : Int), .string (strB rows.flatten)]
  have hn : n ≤ 65536 := h.2.1
  have hr : rows.length ≤ 65536 := h.2.2.1
  have hmk := make_stairs n hn (w.alloc (.cells #[.int .i64 (rows.length : Int), .int .i64 (n : Int), .string (strB rows.flatten)] 26))
  have hS := Stairs.new (w.alloc (.cells #[.int .i64 (rows.length : Int), .int .i64 (n : Int), .string (strB rows.flatten)] 26)) n
  have hb1 := bstep hb0 (balloc _ (.cells (nilRows n).toArray 58))
  have hg1 := hg.alloc (.cells (nilRows n).toArray 58)
  rw [World.size_alloc] at hS
  obtain ⟨hc0, hc1, hc2, hf0, hf1, hf2⟩ := cells3 hg
  obtain ⟨hd0, hd1, hd2, he0, he1, he2⟩ := cells3 hg1
  have Hok := Lib.hid h
  clear h
  simp only [gv]
  go_enter Try.func12, Try.ntmps12
  go_wp2_with fail
  clear hc0 hc1 hc2 hf0 hf1 hf2 hd0 hd1 hd2 he0 he1 he2 hmk
  go_loopw [3, 11] (fun v i wr => ∃ (k r : Nat) (st : Nat → Option RowL), k ≤ rows.length ∧ i = .int .i64 k ∧ v = .int .i64 r ∧ r ≤ k ∧ Hid (Sofar st n k r rows) ∧ Stairs wr (w.heap.size + 1) n st ∧ Blk wr w.heap.size 26 #[.int .i64 (rows.length : Int), .int .i64 (n : Int), .string (strB rows.flatten)] ∧ Below w.heap.size w wr) (fun _ i _ => rows.length - (intOf i).toNat)
  case atStart => exact ⟨0, 0, _, by omega, rfl, rfl, by omega, Lib.hid (Sofar.start n rows), hS, hg1, hb1⟩
  case round =>
    clear hS hg1 hb1 hg hb0
    obtain ⟨k, r, st, hk, rfl, rfl, hrk, hSo, hS, hg, hb⟩ := hrel
    obtain ⟨hc0, hc1, hc2, hf0, hf1, hf2⟩ := cells3 hg
    by_cases hlt : k < rows.length
    · have C := grow_any n k rows wr Hok.out hlt
      simp only [gv] at C
      go_wp2_with fail
      refine C.mono ?_
      rintro e w1 ⟨A1, c1, rfl, r1, b1⟩
      replace hS := hS.step b1
      replace hg := hg.below b1 hg.lt
      replace hb := bstep hb b1
      clear C b1 hc0 hc1 hc2 hf0 hf1 hf2
      have hu : rows[k]? = some (rows[k]?.getD []) := by rw [List.getElem?_eq_getElem hlt]; rfl
      have Hu := Lib.hid hu
      have Hul := Lib.hid r1.1
      clear hu
      generalize rows[k]?.getD [] = us at *
      go_wp2_with fail
      refine (vof_any (vs := []) r1 Rd.nil (by omega) (by omega)).mono ?_
      rintro e w2 ⟨v2, rfl, r2, b2⟩
      replace hS := hS.step b2
      replace hg := hg.below b2 hg.lt
      replace hb := bstep hb b2
      clear b2 r1
      go_wp2_with fail
      refine (take_any hS r2 (by obtain ⟨E, _, _, _, e4, _⟩ := hSo.out; exact e4) Hul.out hn).mono ?_
      rintro e w3 ⟨x, hC, hgr, hcase⟩
      have HC := Lib.hid hC
      replace hb := hb.grown hgr (by have := hb.size; omega) (by intro k hk; injection hk with hk; omega)
      replace hg : Blk w3 w.heap.size 26 _ := hg.grown hgr (by simp)
      clear hgr hC hS r2
      obtain ⟨hc0, hc1, hc2, hf0, hf1, hf2⟩ := cells3 hg
      rcases hcase with ⟨hneg, rfl, hS⟩ | ⟨i, hi, hin, hst, rfl, hS⟩
      · have HN := Lib.hid (hSo.out.no Hu.out Hul.out HC.out hneg)
        clear hneg
        go_wp2_with fail
        go_roundw
        case rel => exact ⟨k + 1, r, st, by omega, by go_num, rfl, by omega, HN, hS, hg, hb⟩
        case measure => simp [intOf]; omega
      · have HN := Lib.hid (hSo.out.yes Hu.out Hul.out HC.out hi hst)
        clear hi hst
        go_wp2_with fail
        go_roundw
        case rel => exact ⟨k + 1, r + 1, _, by omega, by go_num, by go_num, by omega, HN, hS, hg, hb⟩
        case measure => simp [intOf]; omega
    · have HR := Lib.hid (hSo.out.rank (by omega))
      go_wp2_with fail
      go_ret
      exact ⟨r, rfl, HR.out, hb⟩
end Go.Proofs.Ytaidbcppecoenaa

