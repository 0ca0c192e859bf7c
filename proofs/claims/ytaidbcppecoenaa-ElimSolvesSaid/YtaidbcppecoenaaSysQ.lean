import Derived.Test.YtaidbcppecoenaaSysO
import Derived.Test.YtaidbcppecoenaaL08E
import Derived.Test.YtaidbcppecoenaaL07D
import Derived.Test.YtaidbcppecoenaaElimH
import Derived.Test.YtaidbcppecoenaaR07E
import Derived.Test.YtaidbcppecoenaaElimC
import Derived.Test.YtaidbcppecoenaaL08I
import Derived.Test.YtaidbcppecoenaaGridF
/- Equations that symbols solve: they never clash, their rank is their vectors', in any order there are the same rows, and of full rank they tell the symbols. -/
namespace Go.Proofs.Ytaidbcppecoenaa
open Go.RowKit
open Pt (less)
set_option linter.unusedVariables false
set_option maxRecDepth 100000

/-- These rows came of these equations. -/
def Taken (k t : Nat) (L ps : List RowL) : Prop := Good k t L ∧ Red (ledE L) ∧ ∀ y, Span (pts (ledE L)) y ↔ Span (ps.map pt) y
theorem Taken.nil (k t : Nat) : Taken k t [] [] := ⟨Good.nil _ _, ⟨Ech.nil, fun e he => by simp [ledE] at he⟩, fun y => Iff.rfl⟩
/-- What a point carries is what the symbols combine to. -/
def Told (fit : List (List UInt8)) (k : Nat) (m : Pt) : Prop := ∀ j, m.d j = xs (fun i => gm (m.v i) (fn (fit[i]?.getD []) j)) k
theorem told_sub (fit : List (List UInt8)) (k : Nat) : Sub (Told fit k) := by
  refine ⟨fun j => ?_, fun m c o h1 h2 j => ?_⟩
  · rw [xs_zero fun i _ => by show gm 0 _ = 0; exact gm_zero_left _]
    rfl
  · show m.d j ^^^ gm c (o.d j) = xs (fun i => gm (m.v i ^^^ gm c (o.v i)) (fn (fit[i]?.getD []) j)) k
    rw [h1 j, h2 j, ← xs_mul, ← xs_add]
    exact xs_congr fun i _ => by rw [gm_xor_left, gm_assoc]
theorem row_told {fit : List (List UInt8)} {k n : Nat} {cs : List UInt8} (hf : lenB n fit = true) (hk : k ≤ fit.length) : Told fit k (pt (cs, combTo cs fit (nulls n) k)) := fun j => by
  show fn (combTo cs fit (nulls n) k) j = _
  rw [fn_combTo hf k hk]
  rfl
theorem zeroB_of {us : List UInt8} (h : ∀ j, fn us j = 0) : zeroB us = true := by
  unfold zeroB
  rw [List.all_eq_true]
  intro u hu
  obtain ⟨j, hj, rfl⟩ := List.getElem_of_mem hu
  have := h j
  unfold fn at this
  rw [List.getElem?_eq_getElem hj, Option.getD_some] at this
  simpa using this
theorem Taken.put {k t : Nat} {L ps : List RowL} {r : RowL} {fit : List (List UInt8)} (h : Taken k t L ps) (h1 : r.1.length = k) (h2 : r.2.length = t) (hr : Told fit k (pt r)) (hP : ∀ p ∈ ps, Told fit k (pt p)) :
    Taken k t (putL L r).1 (ps ++ [r]) ∧ ((putL L r).2 = 0 ∧ (putL L r).1.length = L.length + 1 ∨ (putL L r).2 = 1 ∧ (putL L r).1.length = L.length) := by
  obtain ⟨g1, g2, g3⟩ := h
  unfold putL
  by_cases h0 : 0 ≤ leadI (restL L r).1
  · obtain ⟨i, hi⟩ : ∃ i : Nat, leadI (restL L r).1 = (i : Int) := ⟨_, (Int.toNat_of_nonneg h0).symm⟩
    have hc := comes_of g1 g2 h1 h2 hi
    obtain ⟨q1, q2, q3⟩ := growL_good g1 g2 hc
    rw [if_pos h0]
    refine ⟨⟨q1, q2, fun y => ?_⟩, .inl ⟨rfl, ?_⟩⟩
    · rw [q3, List.map_append, List.map_cons, List.map_nil, span_snoc, pt_norm hi, pt_rest g1.1 h1 h2]
      refine Iff.trans (put_span (E := ledE L) (m := pt r) (ginv_ne ?_)) (span_cons_congr g3)
      rw [← pt_rest g1.1 h1 h2]
      exact (lead_fn_ne hi).1
    · unfold growL
      simp only [List.length_append, List.length_take, List.length_drop, List.length_singleton]
      have := place_le (lessL (normR (restL L r)) L) (leadI (normR (restL L r)).1)
      have e : (lessL (normR (restL L r)) L).length = L.length := by simp [lessL]
      omega
  · have hv : ∀ j, (pt (restL L r)).v j = 0 := lead_fn_none (by omega)
    have hS : Told fit k (pt (restL L r)) := by
      rw [pt_rest g1.1 h1 h2]
      refine clr_in (told_sub fit k) (fun e he => ?_) hr
      refine Span.least (told_sub fit k) (fun a ha => ?_) ((g3 _).1 (pts_mem he))
      obtain ⟨p, hp, rfl⟩ := List.mem_map.1 ha
      exact hP p hp
    have hd : ∀ j, (pt (restL L r)).d j = 0 := fun j => by
      rw [hS j]
      exact xs_zero fun i _ => by rw [hv i]; exact gm_zero_left _
    have hz : zeroB (restL L r).2 = true := zeroB_of hd
    rw [if_neg h0, if_pos hz]
    refine ⟨⟨g1, g2, fun y => ?_⟩, .inr ⟨rfl, rfl⟩⟩
    rw [List.map_append, List.map_cons, List.map_nil, span_snoc, ← span_cons_congr g3]
    refine (spare_span ?_).symm
    rw [← pt_rest g1.1 h1 h2]
    exact Pt.eqI hv hd
theorem Taken.rank {k t : Nat} {L ps : List RowL} (h : Taken k t L ps) : Rk (ps.map pt) L.length := ⟨ledE L, h.1.ech, by simp [ledE], h.2.2⟩
theorem Taken.vectors {k t r : Nat} {L ps : List RowL} (h : Taken k t L ps) (hr : Rk ((ps.map (·.1)).map pt0) r) : r = L.length := by
  refine Nat.le_antisymm (hr.le h.rank fun a ha => ?_) (h.rank.le hr fun a ha => ?_)
  · obtain ⟨v, hv, rfl⟩ := List.mem_map.1 ha
    obtain ⟨p, hp, rfl⟩ := List.mem_map.1 hv
    exact ⟨pt p, Span.mem (List.mem_map_of_mem hp), rfl⟩
  · obtain ⟨p, hp, rfl⟩ := List.mem_map.1 ha
    exact ⟨pt0 p.1, Span.mem (List.mem_map_of_mem (List.mem_map_of_mem hp)), rfl⟩
theorem Taken.same {k t : Nat} {A B ps : List RowL} (h : Taken k t A ps) (h' : Taken k t B ps.reverse) : A = B :=
  red_same h.1 h'.1 h.2.1 h'.2.1 fun y => (h.2.2 y).trans ((Span.perm (by rw [List.map_reverse]; exact (List.reverse_perm _).symm)).trans (h'.2.2 y).symm)
theorem Taken.solved {k t i : Nat} {L ps : List RowL} {fit : List (List UInt8)} (h : Taken k t L ps) (hP : ∀ p ∈ ps, Told fit k (pt p)) (hl : L.length = k) (hi : i < k) (hf : (fit[i]?.getD []).length = t) : (L[i]?.getD ([], [])).2 = fit[i]?.getD [] := by
  obtain ⟨g1, g2, g3⟩ := h
  have hil : i < L.length := by omega
  have hlead := full_lead g1 hl hi
  obtain ⟨z1, z2, _⟩ := suit_at g1.1 hil
  have e1 : ((leadI (L[i]?.getD ([], [])).1).toNat, pt (L[i]?.getD ([], []))) ∈ ledE L := led_mem.2 ⟨_, by rw [List.getElem?_eq_getElem hil]; exact List.getElem_mem hil, rfl⟩
  have hS : Told fit k (pt (L[i]?.getD ([], []))) := Span.least (told_sub fit k) (fun a ha => by
    obtain ⟨p, hp, rfl⟩ := List.mem_map.1 ha
    exact hP p hp) ((g3 _).1 (pts_mem e1))
  have h1 : (pt (L[i]?.getD ([], []))).v i = 1 := by
    have := (g2.1.1 _ e1).1
    simpa only [hlead, Int.toNat_natCast] using this
  have h0 : ∀ j, j < k → j ≠ i → (pt (L[i]?.getD ([], []))).v j = 0 := fun j hj hne => by
    have hjl : j < L.length := by omega
    have hlj := full_lead g1 hl hj
    have e2 : ((leadI (L[j]?.getD ([], [])).1).toNat, pt (L[j]?.getD ([], []))) ∈ ledE L := led_mem.2 ⟨_, by rw [List.getElem?_eq_getElem hjl]; exact List.getElem_mem hjl, rfl⟩
    have := g2.2 _ e1 _ e2 (by simp only [hlead, hlj, Int.toNat_natCast]; omega)
    simpa only [hlj, Int.toNat_natCast] using this
  refine fn_inj (z2.trans hf.symm) ?_
  funext j
  have := hS j
  rw [xs_single hi fun m hm hne => by rw [h0 m hm hne]; exact gm_zero_left _, h1, gm_one_left] at this
  exact this
end Go.Proofs.Ytaidbcppecoenaa

/- Lists of the call's own, whose blocks hold no bytes, the room behind them neither: what is read as bytes stays where they grow. -/
namespace Go.Proofs.Ytaidbcppecoenaa
open Go.RowKit
set_option linter.unusedVariables false
set_option maxRecDepth 100000

def NoB (cs : List Value) : Prop := ∀ u ∈ cs, ∀ b, u ≠ .int .u8 (bv b)
/-- The block of its own holds no byte. -/
def BareB (w : World) (v : Value) : Prop := Byteless w fun g => some g = v.ownBlock
theorem BareB.of {w : World} {v : Value} {g : Nat} {T : TypeId} {cur : Array Value} (h : Blk w g T cur) (hv : v.ownBlock = some g) (hn : NoB cur.toList) : BareB w v := by
  intro q hq i u hu
  rw [hv] at hq
  injection hq with hq
  subst hq
  rw [h.cell, ← Array.getElem?_toList] at hu
  exact hn _ (List.mem_of_getElem? hu) u rfl
theorem BareB.noB {w : World} {v : Value} {g : Nat} {T : TypeId} {cur : Array Value} (h : BareB w v) (hb : Blk w g T cur) (hv : v.ownBlock = some g) : NoB cur.toList := by
  intro u hu b e
  obtain ⟨i, hi⟩ := List.getElem?_of_mem hu
  refine h g hv.symm i b ?_
  rw [hb.cell, ← Array.getElem?_toList, hi, e]
theorem noB_zero {z : Array Value} (h : NoB z.toList) (n : Nat) : NoB (Builtin.zeroCells z n).toList := by
  intro u hu b e
  unfold Builtin.zeroCells at hu
  simp only [Array.toList_map, Array.toList_range, List.mem_map, List.mem_range] at hu
  obtain ⟨i, hi, rfl⟩ := hu
  by_cases hz : z.size = 0
  · rw [hz] at hi; omega
  · have hlt : i % z.size < z.size := Nat.mod_lt _ (by omega)
    rw [getElem!_pos z _ hlt] at e
    exact h _ (Array.mem_toList_iff.2 (Array.getElem_mem hlt)) b e
theorem NoB.app {a b : List Value} (h : NoB a) (k : NoB b) : NoB (a ++ b) := fun u hu => by
  rcases List.mem_append.1 hu with hu | hu
  · exact h u hu
  · exact k u hu
section
variable {P : Program} (w : World)
theorem run_append_nb (base : Nat) (t ty e : TypeId) (i : TypeInfo) (z : Value) (size bytes : Nat) (ht : P.underlying t = some (.slice e)) (hi : P.info? e = some i) (hz : i.zero = some z)
    (hsize : i.size = size) (hby : i.bytes = bytes) (hzs : z.cells.size = size) (hsz : 0 < size)
    (v : Value) (n : Nat) (xs : List Value) (hown : w.ownsRow base e size v n xs)
    (a : Addr) (c : Nat) (news : List Value) (hl : news.length = 1 * size) (hnews : ∀ j u, news[j]? = some u → w.cell? (a.add j) = some u) (h1 : ∀ u ∈ news, u.oneCell' = true)
    (h63 : n + 1 ≤ maxLen) (hbytes : (n + 1) * bytes ≤ 140737488355328) (hbase : base ≤ w.heap.size) (hz0 : NoB z.cells.toList) (hn0 : NoB news) (hb0 : BareB w v) :
    ∃ v' w', (Builtin.append_ #[t, t] ty #[v, .slice (some a) 1 c]).run P w = .ok v' w' ∧ w'.ownsRow base e size v' (n + 1) (xs ++ news) ∧ w.grownBy w' v.ownBlock ∧ BareB w' v' := by
  obtain ⟨v', w', hr, h2, h3, _⟩ := run_append_own (P := P) w base t ty e i z size bytes ht hi hz hsize hby hzs hsz v n xs hown a 1 c news hl hnews h1 h63 hbytes hbase
  refine ⟨v', w', hr, h2, h3, ?_⟩
  subst hsize
  subst hby
  have hsmall : n + 1 ≤ 9223372036854775807 := by simp only [maxLen] at h63; omega
  rcases hown.2 with ⟨rfl, rfl⟩ | ⟨g, cap, cur, rfl, hbg, hg, hnc, hcm, hcs, htake⟩
  · have hr2 := _root_.Go.run_append_nil (P := P) w t ty e i z ht hi hz a 1 c news hl hnews (by omega) (by omega) (by have hb := hbytes; simp only [Nat.zero_add] at hb; omega)
    have := hr.symm.trans hr2
    injection this with e1 e2
    subst e1 e2
    refine BareB.of (heap_alloc_new w.drew _) rfl ?_
    rw [Array.toList_append]
    exact hn0.app (noB_zero hz0 _)
  · have hc0 : NoB cur.toList := hb0.noB hg rfl
    by_cases hroom : n + 1 ≤ cap
    · have hfit : n * i.size + news.length ≤ cur.size := by rw [hl, hcs, ← Nat.add_mul]; exact Nat.mul_le_mul_right _ hroom
      have hr2 := run_append_room (P := P) w t ty e i ht hi g n cap cur hg a 1 c news hl hnews h1 hroom hfit
      have := hr.symm.trans hr2
      injection this with e1 e2
      subst e1 e2
      refine BareB.of (setRow_heap w g cur _ e _ hg) rfl ?_
      exact (NoB.app (fun u hu => hc0 u (List.mem_of_mem_take hu)) hn0).app fun u hu => hc0 u (List.mem_of_mem_drop hu)
    · have holds : ∀ j u, xs[j]? = some u → w.cell? ((⟨g, 0, none⟩ : Addr).add j) = some u := hown.cells (g := g) rfl
      have hr2 := run_append_grow (P := P) w t ty e i z ht hi hz ⟨g, 0, none⟩ n cap xs hown.1 holds a 1 c news hl hnews (by omega) (by omega) (growslice_fits (by omega) hbytes)
      have := hr.symm.trans hr2
      injection this with e1 e2
      subst e1 e2
      refine BareB.of (heap_alloc_new w.drew _) rfl ?_
      rw [Array.toList_append, Array.toList_append]
      refine (NoB.app (fun u hu => ?_) hn0).app (noB_zero hz0 _)
      rw [← htake] at hu
      exact hc0 u (List.mem_of_mem_take hu)
theorem wpList_append_nb {ops : Array Oper} {rest : List Oper} {o : Oper} {a : Act} {Q : Exit → Act → World → Prop} (hgd : o.guard = none) (s x : Operand) (t : TypeId)
    (ho : o.op = .call { callee := .builtin .append, args := #[s, x], argTypes := #[t, t] })
    (base : Nat) (e : TypeId) (i : TypeInfo) (z : Value) (size bytes : Nat) (ht : P.underlying t = some (.slice e)) (hi : P.info? e = some i) (hz : i.zero = some z)
    (hsize : i.size = size) (hby : i.bytes = bytes) (hzs : z.cells.size = size) (hsz : 0 < size)
    (v : Value) (n : Nat) (xs : List Value) (hs : a.eval s = v) (hown : w.ownsRow base e size v n xs)
    (ad : Addr) (c : Nat) (news : List Value) (hx : a.eval x = .slice (some ad) 1 c) (hl : news.length = 1 * size) (hnews : ∀ j u, news[j]? = some u → w.cell? (ad.add j) = some u) (h1 : ∀ u ∈ news, u.oneCell' = true)
    (h63 : n + 1 ≤ maxLen) (hbytes : (n + 1) * bytes ≤ 140737488355328) (hbase : base ≤ w.heap.size) (hz0 : NoB z.cells.toList) (hn0 : NoB news) (hb0 : BareB w v)
    (h : ∀ v' w', w'.ownsRow base e size v' (n + 1) (xs ++ news) → w.grownBy w' v.ownBlock → BareB w' v' → wpList P ops Q rest (a.put o.dst v') w') : wpList P ops Q (o :: rest) a w := by
  refine wpList_plain hgd fun K hK => ?_
  obtain ⟨v', w', hr, h2, h3, h4⟩ := run_append_nb (P := P) w base t o.type e i z size bytes ht hi hz hsize hby hzs hsz v n xs hown ad c news hl hnews h1 h63 hbytes hbase hz0 hn0 hb0
  unfold Oper.wp execOp
  simp only [ho, resolve, invoke, builtin, Sem.run_bind, Sem.run_pure, Result.andThen_ok, List.map_toArray, List.map_cons, List.map_nil, hs, hx, hr]
  exact hK _ _ (h v' w' h2 h3 h4)
end
theorem chg_grown {w w' : World} {v : Value} (h : w.grownBy w' v.ownBlock) : Chg (fun g => some g = v.ownBlock) w w' := ⟨h.os, h.tape, h.output, h.size, fun g hg hn => h.block g hg hn⟩
section
variable {w w' : World} {B B0 size n : Nat} {e : TypeId} {v : Value} {xs : List Value} {P : Nat → Prop}
theorem own_chg (h : w.ownsRow B e size v n xs) (hc : Chg P w w') (hd : ∀ g, some g = v.ownBlock → ¬ P g) : w'.ownsRow B e size v n xs := by
  refine ⟨h.1, ?_⟩
  rcases h.2 with h4 | ⟨g, cap, cur, rfl, hg, hh, h5⟩
  · exact .inl h4
  · exact .inr ⟨g, cap, cur, rfl, hg, (hc.block g (Blk.lt hh) (hd g rfl)).trans hh, h5⟩
theorem BareB.chg (h : BareB w v) (ho : w.ownsRow B e size v n xs) (hc : Chg P w w') (hd : ∀ g, some g = v.ownBlock → ¬ P g) : BareB w' v := fun g hg i u hu => by
  have hlt := (ho.lt g hg.symm).2
  rw [cell_chg (p := ⟨g, i, none⟩) hc hlt (hd g hg)] at hu
  exact h g hg i u hu
theorem BareB.step (h : BareB w v) (ho : w.ownsRow B e size v n xs) (hb : Below w.heap.size w w') : BareB w' v := h.chg ho (P := fun _ => False) (Chg.of_below hb) fun _ _ => id
/-- Its block is no block of a system's. -/
theorem Sys.far {p k t : Nat} {L : List RowL} {sv : Value} (h : Sys w p k t L sv) (ho : w.ownsRow B e size v n xs) (h1 : e ≠ 99) (h2 : e ≠ 102) : ∀ g, some g = v.ownBlock → ¬ Its p sv g := by
  intro g hg hI
  obtain ⟨k1, ⟨ys, k2, _⟩, _⟩ := h
  rcases ho.2 with ⟨rfl, _⟩ | ⟨g2, cap, cur, rfl, _, hh, _⟩
  · simp [Value.ownBlock] at hg
  · simp [Value.ownBlock] at hg
    subst hg
    rcases hI with rfl | hI
    · have k1' : w.heap[g]? = _ := k1
      rw [hh] at k1'
      injection k1' with h3
      injection h3 with _ h3
      exact h1 h3
    · rcases k2.2.2 with ⟨rfl, _⟩ | ⟨R, cap2, rfl, _, _, h5⟩
      · simp [Value.ownBlock] at hI
      · simp [Value.ownBlock] at hI
        subst hI
        have h5' : w.heap[g]? = _ := h5
        rw [hh] at h5'
        injection h5' with h3
        injection h3 with _ h3
        exact h2 h3
end
/-- Rows of bytes of the call's own. -/
def OwnB (w : World) (B : Nat) (v : Value) (rows : List (List UInt8)) : Prop := ∃ xs, w.ownsRow B 52 1 v rows.length xs ∧ BareB w v ∧ ∀ (i : Nat) (us : List UInt8), rows[i]? = some us → ∃ A n c, xs[i]? = some (.slice A n c) ∧ Rd w w.heap.size A n us
/-- Equations of the call's own. -/
def OwnV (w : World) (B : Nat) (v : Value) (L : List RowL) : Prop := ∃ xs, w.ownsRow B 58 2 v L.length xs ∧ BareB w v ∧ CellsOf w L xs
section
variable {w w' : World} {B : Nat} {v : Value} {rows : List (List UInt8)} {L : List RowL} {P : Nat → Prop}
theorem bareB_nil (w : World) : BareB w (.slice none 0 0) := fun g hg => by simp [Value.ownBlock] at hg
theorem OwnB.nil (w : World) (B : Nat) : OwnB w B (.slice none 0 0) [] := ⟨[], World.ownsRow_nil _ _ _ _, bareB_nil w, fun i us h => by simp at h⟩
theorem OwnV.nil (w : World) (B : Nat) : OwnV w B (.slice none 0 0) [] := ⟨[], World.ownsRow_nil _ _ _ _, bareB_nil w, CellsOf.nil _⟩
theorem CellsOf.chg {xs : List Value} (h : CellsOf w L xs) (hc : Chg P w w') (hp : Byteless w P) : CellsOf w' L xs := ⟨h.1, fun i r hi => by
  obtain ⟨A1, n1, c1, A2, n2, c2, e0, e1, hr⟩ := h.2 i r hi
  exact ⟨A1, n1, c1, A2, n2, c2, e0, e1, hr.chg hc hp⟩⟩
theorem OwnB.chg (h : OwnB w B v rows) (hc : Chg P w w') (hp : Byteless w P) (hd : ∀ g, some g = v.ownBlock → ¬ P g) : OwnB w' B v rows := by
  obtain ⟨xs, h1, h2, h3⟩ := h
  refine ⟨xs, own_chg h1 hc hd, h2.chg h1 hc hd, fun i us hu => ?_⟩
  obtain ⟨A, n, c, e1, r⟩ := h3 i us hu
  exact ⟨A, n, c, e1, r.chg hc hp⟩
theorem OwnV.chg (h : OwnV w B v L) (hc : Chg P w w') (hp : Byteless w P) (hd : ∀ g, some g = v.ownBlock → ¬ P g) : OwnV w' B v L := by
  obtain ⟨xs, h1, h2, h3⟩ := h
  exact ⟨xs, own_chg h1 hc hd, h2.chg h1 hc hd, h3.chg hc hp⟩
theorem none_bare (w : World) : Byteless w fun _ => False := fun _ h => h.elim
theorem OwnB.step (h : OwnB w B v rows) (hb : Below w.heap.size w w') : OwnB w' B v rows := h.chg (P := fun _ => False) (Chg.of_below hb) (none_bare w) fun _ _ => id
theorem OwnV.step (h : OwnV w B v L) (hb : Below w.heap.size w w') : OwnV w' B v L := h.chg (P := fun _ => False) (Chg.of_below hb) (none_bare w) fun _ _ => id
theorem OwnB.rds (h : OwnB w B v rows) : ∃ A c, v = .slice A rows.length c ∧ Rds w w.heap.size A rows.length rows ∧ rows.length ≤ c ∧ c ≤ 9223372036854775807 := by
  obtain ⟨xs, h1, h2, h3⟩ := h
  rcases h1.2 with ⟨rfl, h0⟩ | ⟨g, cap, cur, rfl, hg, hh, hn, hm, hs, ht⟩
  · exact ⟨none, 0, by rw [h0], ⟨rfl, fun h => absurd h (by omega)⟩, by omega, by omega⟩
  · have hB : Blk w g 52 cur := hh
    refine ⟨_, cap, rfl, ⟨rfl, fun _ => ⟨g, 0, rfl, hB.lt, fun i us hu => ?_⟩⟩, hn, by unfold maxLen at hm; exact hm⟩
    have hi : i < rows.length := (List.getElem?_eq_some_iff.1 hu).1
    obtain ⟨A, n, c, e1, r⟩ := h3 i us hu
    obtain rfl := r.1
    refine ⟨A, c, ?_, r⟩
    rw [hB.cell, ← Array.getElem?_toList, ← e1, ← ht, List.getElem?_take, if_pos (by omega)]; congr 1; omega
theorem OwnV.rl (h : OwnV w B v L) : ∃ A c, v = .slice A L.length c ∧ RL w w.heap.size A L.length L := by
  obtain ⟨xs, h1, h2, h3⟩ := h
  rcases h1.2 with ⟨rfl, h0⟩ | ⟨g, cap, cur, rfl, hg, hh, hn, hm, hs, ht⟩
  · have : L = [] := List.eq_nil_of_length_eq_zero h0
    subst this
    exact ⟨none, 0, rfl, RL.nil⟩
  · have hB : Blk w g 58 cur := hh
    refine ⟨_, cap, rfl, ⟨rfl, fun h0 => ⟨g, 0, rfl, hB.lt, hB.lt, fun i r hi => ?_⟩⟩⟩
    obtain ⟨A1, n1, c1, A2, n2, c2, e0, e1, hr⟩ := h3.2 i r hi
    have hlt := (List.getElem?_eq_some_iff.1 hi).1
    refine ⟨A1, n1, c1, A2, n2, c2, ?_, ?_, hr⟩
    · rw [hB.cell, ← Array.getElem?_toList, ← e0, ← ht, List.getElem?_take, if_pos (by omega)]; congr 1; omega
    · rw [hB.cell, ← Array.getElem?_toList, ← e1, ← ht, List.getElem?_take, if_pos (by omega)]; congr 1; omega
end
theorem sl_noB (A : Option Addr) (n c : Nat) : NoB [.slice A n c] := fun u hu b e => by
  simp only [List.mem_singleton] at hu
  subst hu
  cases e
theorem push_b {ops : Array Oper} {rest : List Oper} {o : Oper} {a : Act} {Q : Exit → Act → World → Prop} {w : World} (hgd : o.guard = none) (s x : Operand)
    (ho : o.op = .call { callee := .builtin .append, args := #[s, x], argTypes := #[22, 22] })
    (B : Nat) (v : Value) (rows : List (List UInt8)) (k n c cx : Nat) (A : Option Addr) (us : List UInt8) (hs : a.eval s = v) (hown : OwnB w B v rows) (hk : rows.length = k) (hr : Rd w w.heap.size A n us)
    (g : Nat) (hx : a.eval x = .slice (some ⟨g, 0, none⟩) 1 cx) (hc : w.cell? ⟨g, 0, none⟩ = some (.slice A n c)) (hn : k ≤ 65536) (hB : B ≤ w.heap.size)
    (h : ∀ v' w', OwnB w' B v' (rows ++ [us]) → Chg (fun g => some g = v.ownBlock) w w' → Below B w w' → wpList Try.prog ops Q rest (a.put o.dst v') w') : wpList Try.prog ops Q (o :: rest) a w := by
  subst hk
  obtain ⟨i0, hi0, hz0, hz1, hz2⟩ := info_parts row_info
  obtain ⟨xs, h1, h2, h3⟩ := hown
  refine wpList_append_nb w hgd s x _ ho B 52 i0 _ 1 24 Try.underlying22 hi0 hz0 hz1 hz2 rfl (by omega) v rows.length xs hs h1 ⟨g, 0, none⟩ cx [.slice A n c] hx rfl (cells_one hc) (by simp; rfl) (by unfold maxLen; omega) (by omega) hB (sl_noB none 0 0) (sl_noB A n c) h2 ?_
  intro v' w' k1 k2 k3
  have hC := chg_grown k2
  refine h v' w' ⟨_, by simpa using k1, k3, fun i us' hu => ?_⟩ hC (own_grown_below h1 k2 hB)
  have hl : xs.length = rows.length := by simpa using h1.1
  by_cases hlt : i < rows.length
  · rw [List.getElem?_append_left hlt] at hu
    obtain ⟨A', n', c', h4, h5⟩ := h3 i us' hu
    exact ⟨A', n', c', by rw [List.getElem?_append_left (by omega)]; exact h4, h5.chg hC h2⟩
  · rw [List.getElem?_append_right (by omega)] at hu
    have hi0 : i - rows.length = 0 := by
      have := (List.getElem?_eq_some_iff.1 hu).1
      simp at this; omega
    rw [hi0] at hu
    simp at hu
    subst hu
    exact ⟨A, n, c, by rw [List.getElem?_append_right (by omega), hl, hi0]; rfl, hr.chg hC h2⟩
theorem vrow_parts : (Try.prog.info? 58).map (fun i => (i.zero, i.size, i.bytes)) = some (some (.agg #[.slice none 0 0, .slice none 0 0]), 2, 48) := by kernel_rfl
theorem push_v {ops : Array Oper} {rest : List Oper} {o : Oper} {a : Act} {Q : Exit → Act → World → Prop} {w : World} (hgd : o.guard = none) (s x : Operand)
    (ho : o.op = .call { callee := .builtin .append, args := #[s, x], argTypes := #[76, 76] })
    (B : Nat) (v : Value) (L : List RowL) (k n1 c1 n2 c2 cx : Nat) (A1 A2 : Option Addr) (r : RowL) (hs : a.eval s = v) (hown : OwnV w B v L) (hk : L.length = k) (hr : RowIs w r (.agg #[.slice A1 n1 c1, .slice A2 n2 c2]))
    (g : Nat) (hx : a.eval x = .slice (some ⟨g, 0, none⟩) 1 cx) (hc0 : w.cell? ⟨g, 0, none⟩ = some (.slice A1 n1 c1)) (hc1 : w.cell? ⟨g, 1, none⟩ = some (.slice A2 n2 c2)) (hn : k ≤ 65536) (hB : B ≤ w.heap.size)
    (h : ∀ v' w', OwnV w' B v' (L ++ [r]) → Chg (fun g => some g = v.ownBlock) w w' → Below B w w' → wpList Try.prog ops Q rest (a.put o.dst v') w') : wpList Try.prog ops Q (o :: rest) a w := by
  subst hk
  obtain ⟨i0, hi0, hz0, hz1, hz2⟩ := info_parts vrow_parts
  obtain ⟨xs, h1, h2, h3⟩ := hown
  have hM : CellsOf w [r] [.slice A1 n1 c1, .slice A2 n2 c2] := ⟨rfl, fun i q hq => by
    match i, hq with
    | 0, hq =>
      simp at hq
      subst hq
      exact ⟨A1, n1, c1, A2, n2, c2, rfl, rfl, hr⟩⟩
  refine wpList_append_nb w hgd s x _ ho B 58 i0 _ 2 48 Try.underlying76 hi0 hz0 hz1 hz2 rfl (by omega) v L.length xs hs h1 ⟨g, 0, none⟩ cx [.slice A1 n1 c1, .slice A2 n2 c2] hx rfl (fun j u hu => ?_) hM.oneCell (by unfold maxLen; omega) (by omega) hB ((sl_noB none 0 0).app (sl_noB none 0 0)) ((sl_noB A1 n1 c1).app (sl_noB A2 n2 c2)) h2 ?_
  · rw [addr_add]
    match j, hu with
    | 0, hu => simp at hu; subst hu; exact hc0
    | 1, hu => simp at hu; subst hu; exact hc1
  intro v' w' k1 k2 k3
  have hC := chg_grown k2
  exact h v' w' ⟨_, by rw [List.length_append]; exact k1, k3, (h3.chg hC h2).append (hM.chg hC h2)⟩ hC (own_grown_below h1 k2 hB)
end Go.Proofs.Ytaidbcppecoenaa

/- ElimSolves: what goes along with its rounds. -/
namespace Go.Proofs.Ytaidbcppecoenaa
open Go.RowKit
set_option linter.unusedVariables false
set_option maxRecDepth 100000

/-- What goes along while equations are put: the system, the one that waits, the equations, their vectors. -/
def BunS (b : World) (p pu k n : Nat) (L : List RowL) (sv lv : Value) (ps : List RowL) (vv : Value) (vs : List (List UInt8)) (W : World) : Prop :=
  Sys W p k n L sv ∧ Sys W pu k n [] (.slice none 0 0) ∧ OwnV W b.heap.size lv ps ∧ OwnB W b.heap.size vv vs ∧ Below b.heap.size b W ∧ (∀ q, Its p sv q → b.heap.size ≤ q ∧ q ≠ pu) ∧ b.heap.size ≤ pu
section
variable {b W W' : World} {p pu k n : Nat} {L L' ps : List RowL} {sv sv' lv lv' vv vv' : Value} {vs : List (List UInt8)} {r : RowL} {us : List UInt8}
theorem BunS.step (h : BunS b p pu k n L sv lv ps vv vs W) (hb : Below W.heap.size W W') : BunS b p pu k n L sv lv ps vv vs W' := by
  obtain ⟨h1, h2, h3, h4, h5, h6, h7⟩ := h
  exact ⟨h1.step hb, h2.step hb, h3.step hb, h4.step hb, bstep h5 hb, h6, h7⟩
theorem its_nil {pu q : Nat} (h : Its pu (.slice none 0 0) q) : q = pu := by
  rcases h with h | h
  · exact h
  · simp [Value.ownBlock] at h
theorem OwnV.far (h : OwnV W b.heap.size lv ps) (hs : Sys W p k n L sv) : ∀ g, some g = lv.ownBlock → ¬ Its p sv g := by
  obtain ⟨xs, h1, _⟩ := h
  exact hs.far h1 (by decide) (by decide)
theorem OwnB.far (h : OwnB W b.heap.size vv vs) (hs : Sys W p k n L sv) : ∀ g, some g = vv.ownBlock → ¬ Its p sv g := by
  obtain ⟨xs, h1, _⟩ := h
  exact hs.far h1 (by decide) (by decide)
theorem OwnV.apart {B B2 : Nat} (h : OwnV W B lv ps) (h2 : OwnB W B2 vv vs) : ∀ g, some g = lv.ownBlock → ¬ some g = vv.ownBlock := by
  obtain ⟨xs, h1, _⟩ := h
  obtain ⟨ys, k1, _⟩ := h2
  intro g hg hg2
  rcases own_types h1 k1 (by decide) with e | e
  · rw [e] at hg; cases hg
  · exact e (hg.symm.trans hg2)
theorem OwnV.bare {B : Nat} (h : OwnV W B lv ps) : Byteless W fun g => some g = lv.ownBlock := by
  obtain ⟨xs, _, h2, _⟩ := h
  exact h2
theorem OwnB.bare {B : Nat} (h : OwnB W B vv vs) : Byteless W fun g => some g = vv.ownBlock := by
  obtain ⟨xs, _, h2, _⟩ := h
  exact h2
theorem OwnV.low {B : Nat} (h : OwnV W B lv ps) : ∀ g, some g = lv.ownBlock → B ≤ g ∧ g < W.heap.size := by
  obtain ⟨xs, h1, _⟩ := h
  exact fun g hg => h1.lt g hg.symm
theorem OwnB.low {B : Nat} (h : OwnB W B vv vs) : ∀ g, some g = vv.ownBlock → B ≤ g ∧ g < W.heap.size := by
  obtain ⟨xs, h1, _⟩ := h
  exact fun g hg => h1.lt g hg.symm
/-- An equation is put. -/
theorem BunS.put (h : BunS b p pu k n L sv lv ps vv vs W) (hs : Sys W' p k n L' sv') (hi : ∀ g, Its p sv' g → Its p sv g ∨ W.heap.size ≤ g) (hc : Chg (Its p sv) W W') : BunS b p pu k n L' sv' lv ps vv vs W' := by
  obtain ⟨h1, h2, h3, h4, h5, h6, h7⟩ := h
  have hp := h1.byteless
  have hz := h5.size
  have hpu := h2.1.lt
  refine ⟨hs, h2.chg hc hp fun q hq hI => (h6 q hI).2 (its_nil hq), h3.chg hc hp (h3.far h1), h4.chg hc hp (h4.far h1), h5.trans (hc.below hz fun q hq => (h6 q hq).1), fun q hq => ?_, h7⟩
  rcases hi q hq with h8 | h8
  · exact h6 q h8
  · exact ⟨by omega, by omega⟩
/-- The equations grow. -/
theorem BunS.more (h : BunS b p pu k n L sv lv ps vv vs W) (hn : OwnV W' b.heap.size lv' (ps ++ [r])) (hc : Chg (fun g => some g = lv.ownBlock) W W') : BunS b p pu k n L sv lv' (ps ++ [r]) vv vs W' := by
  obtain ⟨h1, h2, h3, h4, h5, h6, h7⟩ := h
  have hp := h3.bare
  refine ⟨h1.chg hc hp fun q hq e => h3.far h1 q e hq, h2.chg hc hp fun q hq e => h3.far h2 q e hq, hn, h4.chg hc hp fun g hg e => h3.apart h4 g e hg, h5.trans (hc.below h5.size fun q hq => (h3.low q hq).1), h6, h7⟩
/-- The vectors grow. -/
theorem BunS.wide (h : BunS b p pu k n L sv lv ps vv vs W) (hn : OwnB W' b.heap.size vv' (vs ++ [us])) (hc : Chg (fun g => some g = vv.ownBlock) W W') : BunS b p pu k n L sv lv ps vv' (vs ++ [us]) W' := by
  obtain ⟨h1, h2, h3, h4, h5, h6, h7⟩ := h
  have hp := h4.bare
  refine ⟨h1.chg hc hp fun q hq e => h4.far h1 q e hq, h2.chg hc hp fun q hq e => h4.far h2 q e hq, h3.chg hc hp fun g hg e => h3.apart h4 g hg e, hn, h5.trans (hc.below h5.size fun q hq => (h4.low q hq).1), h6, h7⟩
end
/-- What goes along while they are put the other way round. -/
def BunU (b c : World) (p pu k n : Nat) (L M : List RowL) (sv uv lv : Value) (ps : List RowL) (W : World) : Prop :=
  Sys W p k n L sv ∧ Sys W pu k n M uv ∧ OwnV W b.heap.size lv ps ∧ Below b.heap.size b W ∧ (∀ q, Its p sv q → q ≠ pu ∧ q < c.heap.size) ∧ (∀ q, Its pu uv q → q = pu ∨ c.heap.size ≤ q) ∧ b.heap.size ≤ pu ∧ b.heap.size ≤ c.heap.size ∧ c.heap.size ≤ W.heap.size
section
variable {b c W W' : World} {p pu k n : Nat} {L M M' ps : List RowL} {sv uv uv' lv vv : Value} {vs : List (List UInt8)}
theorem BunU.of (h : BunS b p pu k n L sv lv ps vv vs c) : BunU b c p pu k n L [] sv (.slice none 0 0) lv ps c := by
  obtain ⟨h1, h2, h3, h4, h5, h6, h7⟩ := h
  refine ⟨h1, h2, h3, h5, fun q hq => ⟨(h6 q hq).2, ?_⟩, fun q hq => .inl (its_nil hq), h7, h5.size, Nat.le_refl _⟩
  exact h1.lt q hq
theorem BunU.step (h : BunU b c p pu k n L M sv uv lv ps W) (hb : Below W.heap.size W W') : BunU b c p pu k n L M sv uv lv ps W' := by
  obtain ⟨h1, h2, h3, h4, h5, h6, h7, h8, h9⟩ := h
  exact ⟨h1.step hb, h2.step hb, h3.step hb, bstep h4 hb, h5, h6, h7, h8, Nat.le_trans h9 hb.size⟩
theorem BunU.put (h : BunU b c p pu k n L M sv uv lv ps W) (hs : Sys W' pu k n M' uv') (hi : ∀ g, Its pu uv' g → Its pu uv g ∨ W.heap.size ≤ g) (hc : Chg (Its pu uv) W W') : BunU b c p pu k n L M' sv uv' lv ps W' := by
  obtain ⟨h1, h2, h3, h4, h5, h6, h7, h8, h9⟩ := h
  have hp := h2.byteless
  refine ⟨h1.chg hc hp fun q hq hI => ?_, hs, h3.chg hc hp (h3.far h2), h4.trans (hc.below h4.size fun q hq => ?_), h5, fun q hq => ?_, h7, h8, Nat.le_trans h9 hc.size⟩
  · obtain ⟨a1, a2⟩ := h5 q hq
    rcases h6 q hI with e | e
    · exact a1 e
    · omega
  · rcases h6 q hq with e | e <;> omega
  · rcases hi q hq with e | e
    · exact h6 q e
    · exact .inr (by omega)
end
/-- The vectors' equations. -/
def eqL (fit : List (List UInt8)) (k n : Nat) (v : List UInt8) : RowL := (cutTo k v, combTo (cutTo k v) fit (nulls n) k)
theorem eqL_len (fit : List (List UInt8)) (k n : Nat) (v : List UInt8) : (eqL fit k n v).1.length = k ∧ (eqL fit k n v).2.length = n := ⟨cutTo_len _ _, comb_len _ _ _ _⟩
theorem eqs_told {fit vectors : List (List UInt8)} {k n : Nat} (hf : lenB n fit = true) (hk : fit.length = k) : ∀ p ∈ vectors.map (eqL fit k n), Told fit k (pt p) := fun p hp => by
  obtain ⟨v, _, rfl⟩ := List.mem_map.1 hp
  exact row_told hf (by omega)
theorem fits_len (n : Nat) (rows : List (List UInt8)) : lenB n (rows.map (cutTo n)) = true := by
  unfold lenB
  simp [cutTo_len]
theorem grid_fits {k m : Nat} {rows : List (List UInt8)} (hk : k ≤ 20) (hm : rows.length ≤ 30) : gofR (k : Int) (rows.map (cutTo k)) = (gv k (rows.map (cutTo k)), 0) ∧ GridOk k (rows.map (cutTo k)) := by
  have h1 := fits_len k rows
  have h2 : (rows.map (cutTo k)).length * k ≤ 600 := by
    rw [List.length_map]
    exact Nat.le_trans (Nat.mul_le_mul hm hk) (by omega)
  have h3 : (rows.map (cutTo k)).length ≤ 30 := by rw [List.length_map]; exact hm
  refine ⟨?_, h1, by omega, by omega, by omega⟩
  unfold gofR
  rw [if_neg (by omega), if_neg (by simp [fitB]; simp at h2; omega), if_neg (by rw [Int.toNat_natCast, h1]; simp), Int.toNat_natCast]
end Go.Proofs.Ytaidbcppecoenaa

