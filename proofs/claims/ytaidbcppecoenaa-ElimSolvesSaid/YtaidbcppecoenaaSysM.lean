import Derived.Test.YtaidbcppecoenaaR07D
/- Lists of rows that lead at rising places, as vectors. -/
namespace Go.Proofs.Ytaidbcppecoenaa
open Go.RowKit
set_option linter.unusedVariables false
set_option maxRecDepth 100000

theorem norm_neg {r : RowL} : leadI (normR r).1 < 0 ↔ leadI r.1 < 0 := by
  constructor
  · intro h
    rcases Int.lt_or_le (leadI r.1) 0 with h0 | h0
    · exact h0
    · obtain ⟨i, hi⟩ : ∃ i : Nat, leadI r.1 = (i : Int) := ⟨_, (Int.toNat_of_nonneg h0).symm⟩
      have := (normed hi).1
      omega
  · intro h
    unfold normR
    rwa [if_pos h]
def ledE (L : List RowL) : List (Nat × Pt) := L.map fun r => ((leadI r.1).toNat, pt r)
theorem led_mem {L : List RowL} {e : Nat × Pt} : e ∈ ledE L ↔ ∃ r ∈ L, e = ((leadI r.1).toNat, pt r) := by simp [ledE, eq_comm]
theorem led_pts (L : List RowL) : pts (ledE L) = L.map pt := by simp [ledE, pts]
theorem led_append (A B : List RowL) : ledE (A ++ B) = ledE A ++ ledE B := by simp [ledE]
/-- Rows of one size that lead with a 1, at rising places. -/
def Good (n m : Nat) (L : List RowL) : Prop := Suit n m L ∧ (∀ o ∈ L, o.1[(leadI o.1).toNat]?.getD 0 = 1) ∧ Rising (ledE L)
theorem Good.nil (n m : Nat) : Good n m [] := ⟨fun o h => by simp at h, fun o h => by simp at h, by simp [Rising, ledE, leads]⟩
theorem Good.ech {n m : Nat} {L : List RowL} (h : Good n m L) : Ech (ledE L) := by
  refine ⟨fun e he => ?_, rising_nodup h.2.2⟩
  obtain ⟨r, hr, rfl⟩ := led_mem.1 he
  obtain ⟨_, _, h0⟩ := h.1 r hr
  have hi : leadI r.1 = ((leadI r.1).toNat : Int) := by omega
  exact ⟨h.2.1 r hr, (lead_fn_ne hi).2.1⟩
theorem pt_rest {n m : Nat} {L : List RowL} (h : Suit n m L) : ∀ {x : RowL}, x.1.length = n → x.2.length = m → pt (restL L x) = clr (ledE L) (pt x) := by
  induction L with
  | nil => intro x _ _; rfl
  | cons o L ih =>
    intro x h1 h2
    obtain ⟨z1, z2, z3⟩ := h o (by simp)
    obtain ⟨i, hi⟩ : ∃ i : Nat, leadI o.1 = (i : Int) := ⟨_, (Int.toNat_of_nonneg z3).symm⟩
    have h3 := lessAt_len (i := leadI o.1) (show o.1.length = x.1.length by omega) (show o.2.length = x.2.length by omega)
    show pt (restL L (lessAt x o (leadI o.1))) = clr (ledE L) (Pt.less (pt x) ((pt x).v (leadI o.1).toNat) (pt o))
    rw [ih (fun o ho => h o (by simp [ho])) (h3.1.trans h1) (h3.2.trans h2)]
    congr 1
    rw [hi]
    unfold lessAt
    rw [pt_less _ (z1.trans h1.symm) (z2.trans h2.symm), atB_fn, Int.toNat_natCast]
    rfl
theorem place_take {L : List RowL} {j : Int} : ∀ o ∈ L.take (placeL L j), leadI o.1 < j := by
  induction L with
  | nil => intro o h; simp [placeL] at h
  | cons a L ih =>
    intro o h
    unfold placeL at h
    split at h
    · rename_i h0
      rw [List.take_succ_cons] at h
      rcases List.mem_cons.1 h with rfl | h
      · exact h0
      · exact ih o h
    · simp at h
theorem place_drop {L : List RowL} {j : Int} (h0 : ∀ o ∈ L, 0 ≤ leadI o.1) (hr : Rising (ledE L)) : ∀ o ∈ L.drop (placeL L j), j ≤ leadI o.1 := by
  induction L with
  | nil => intro o h; simp at h
  | cons a L ih =>
    intro o h
    have hr' : ((leadI a.1).toNat :: leads (ledE L)).Pairwise (· < ·) := hr
    obtain ⟨hr1, hr2⟩ := List.pairwise_cons.1 hr'
    unfold placeL at h
    split at h
    · rw [List.drop_succ_cons] at h
      exact ih (fun o ho => h0 o (by simp [ho])) hr2 o h
    · rename_i h1
      rw [List.drop_zero] at h
      rcases List.mem_cons.1 h with rfl | h
      · omega
      · have h2 := hr1 (leadI o.1).toNat (mem_leads.2 ⟨_, led_mem.2 ⟨o, h, rfl⟩, rfl⟩)
        have h3 := h0 a (by simp)
        have h4 := h0 o (by simp [h])
        omega
/-- What is left of a row leads where no row does. -/
theorem rest_new {n m i : Nat} {L : List RowL} {x : RowL} (h : Good n m L) (h1 : x.1.length = n) (h2 : x.2.length = m) (hi : leadI (restL L x).1 = (i : Int)) : i ∉ leads (ledE L) := by
  intro hm
  have h3 := h.ech.clr_zero h.2.2 (m := pt x) i hm
  rw [← pt_rest h.1 h1 h2] at h3
  exact (lead_fn_ne hi).1 h3
theorem ins_no {L : List RowL} {x : RowL} (hi : leadI (restL L x).1 < 0) : insL L x = L := by
  unfold insL
  rw [if_pos (norm_neg.2 hi)]
theorem ins_yes {n m i : Nat} {L : List RowL} {x : RowL} (h : Good n m L) (h1 : x.1.length = n) (h2 : x.2.length = m) (hi : leadI (restL L x).1 = (i : Int)) :
    insL L x = L.take (placeL L i) ++ [normR (restL L x)] ++ L.drop (placeL L i) ∧ Good n m (insL L x) ∧ ∀ y, Span (pts (ledE (insL L x))) y ↔ Span (pt x :: pts (ledE L)) y := by
  obtain ⟨k1, k2⟩ := normed hi
  have e : insL L x = L.take (placeL L i) ++ [normR (restL L x)] ++ L.drop (placeL L i) := by
    unfold insL
    rw [k1, if_neg (by omega)]
  have hnew := rest_new h h1 h2 hi
  refine ⟨e, ⟨ins_suit h.1 h1 h2, fun o ho => ?_, ?_⟩, fun y => ?_⟩
  · rw [e] at ho
    simp only [List.mem_append, List.mem_singleton] at ho
    rcases ho with (ho | rfl) | ho
    · exact h.2.1 o (List.mem_of_mem_take ho)
    · rw [k1, Int.toNat_natCast]; exact k2
    · exact h.2.1 o (List.mem_of_mem_drop ho)
  · rw [e, List.append_assoc, List.singleton_append, led_append]
    have e2 : ledE (normR (restL L x) :: L.drop (placeL L i)) = (i, pt (normR (restL L x))) :: ledE (L.drop (placeL L i)) := by simp [ledE, k1]
    rw [e2]
    refine rising_mid ?_ (fun f hf => ?_) (fun f hf => ?_)
    · rw [← led_append, List.take_append_drop]; exact h.2.2
    · obtain ⟨r, hr, rfl⟩ := led_mem.1 hf
      have h3 := place_take r hr
      have h4 := (h.1 r (List.mem_of_mem_take hr)).2.2
      simp only
      omega
    · obtain ⟨r, hr, rfl⟩ := led_mem.1 hf
      have h3 := place_drop (fun o ho => (h.1 o ho).2.2) h.2.2 r hr
      have h4 : (leadI r.1).toNat ≠ i := fun h5 => hnew (mem_leads.2 ⟨_, led_mem.2 ⟨r, List.mem_of_mem_drop hr, rfl⟩, h5⟩)
      simp only
      omega
  · have gne : (pt (restL L x)).v i ≠ 0 := (lead_fn_ne hi).1
    have h3 : Span (pts (ledE (insL L x))) y ↔ Span (pt (normR (restL L x)) :: pts (ledE L)) y := by
      refine Span.perm ?_
      rw [e, led_pts, led_pts, List.append_assoc, List.singleton_append, List.map_append, List.map_cons]
      refine (mid_perm _ _ _).trans ?_
      rw [← List.map_append, List.take_append_drop]
    rw [h3, pt_norm hi, pt_rest h.1 h1 h2]
    refine put_span ?_
    rw [← pt_rest h.1 h1 h2]
    exact ginv_ne gne
/-- The rows so far lead, and span what came. -/
def RefSo (n k : Nat) (L : List RowL) (rows : List (List UInt8)) : Prop := Good n 0 L ∧ L.length ≤ k ∧ ∀ y, Span (pts (ledE L)) y ↔ Span ((rows.take k).map pt0) y
theorem RefSo.start (n : Nat) (rows : List (List UInt8)) : RefSo n 0 [] rows := ⟨Good.nil n 0, by simp, fun y => Iff.rfl⟩
theorem RefSo.step {n k : Nat} {L : List RowL} {rows : List (List UInt8)} {us : List UInt8} (h : RefSo n k L rows) (hu : rows[k]? = some us) (h1 : us.length = n) : RefSo n (k + 1) (insL L (us, [])) rows := by
  obtain ⟨e1, e2, e3⟩ := h
  have e5 : (insL L (us, [])).length ≤ k + 1 := Nat.le_trans (ins_len L (us, [])) (by omega)
  rcases Int.lt_or_le (leadI (restL L (us, [])).1) 0 with hi | hi
  · rw [ins_no hi]
    refine ⟨e1, by omega, fun y => ?_⟩
    rw [take_snoc hu, List.map_append, List.map_cons, List.map_nil, span_snoc, ← span_cons_congr e3]
    have h0 : clr (ledE L) (pt0 us) = Pt.zero := by
      have := pt_rest e1.1 (x := (us, [])) h1 rfl
      refine this.symm.trans (Pt.eqI (fun k => lead_fn_none hi k) fun k => ?_)
      have h4 : (restL L (us, [])).2 = [] := List.eq_nil_of_length_eq_zero (rest_len e1.1 (us, []) h1 rfl).2
      rw [pt, h4]; rfl
    exact (spare_span h0).symm
  · obtain ⟨i, hi⟩ : ∃ i : Nat, leadI (restL L (us, [])).1 = (i : Int) := ⟨_, (Int.toNat_of_nonneg hi).symm⟩
    obtain ⟨_, f2, f3⟩ := ins_yes e1 h1 rfl hi
    refine ⟨f2, e5, fun y => ?_⟩
    rw [f3, take_snoc hu, List.map_append, List.map_cons, List.map_nil, span_snoc, ← span_cons_congr e3]
    rfl
theorem RefSo.rank {n k : Nat} {L : List RowL} {rows : List (List UInt8)} (h : RefSo n k L rows) (hk : rows.length ≤ k) : Rk (rows.map pt0) L.length := by
  obtain ⟨e1, e2, e3⟩ := h
  rw [List.take_of_length_le hk] at e3
  exact ⟨ledE L, e1.ech, by simp [ledE], e3⟩
end Go.Proofs.Ytaidbcppecoenaa

/- A system's rows, one more. -/
namespace Go.Proofs.Ytaidbcppecoenaa
open Go.RowKit
set_option linter.unusedVariables false
set_option maxRecDepth 100000

/-- Each row less as much of a new one as it has where that leads. -/
def lessL (r : RowL) (L : List RowL) : List RowL := L.map fun o => lessAt o r (leadI r.1)
/-- A row more. -/
def growL (r : RowL) (L : List RowL) : List RowL := (lessL r L).take (placeL (lessL r L) (leadI r.1)) ++ [r] ++ (lessL r L).drop (placeL (lessL r L) (leadI r.1))
/-- A row that may come to these: it leads with a 1, where they have nothing, and has nothing where they lead. -/
def Comes (n m : Nat) (L : List RowL) (r : RowL) (i : Nat) : Prop := r.1.length = n ∧ r.2.length = m ∧ leadI r.1 = (i : Int) ∧ r.1[i]?.getD 0 = 1 ∧ ∀ j ∈ leads (ledE L), (pt r).v j = 0
theorem pt_lessAt {n m i : Nat} {o r : RowL} (h1 : o.1.length = n) (h2 : o.2.length = m) (h3 : r.1.length = n) (h4 : r.2.length = m) (hi : leadI r.1 = (i : Int)) : pt (lessAt o r (leadI r.1)) = Pt.less (pt o) ((pt o).v i) (pt r) := by
  rw [hi]
  unfold lessAt
  rw [pt_less _ (h3.trans h1.symm) (h4.trans h2.symm), atB_fn]
  rfl
theorem keeps_lead {n m i : Nat} {L : List RowL} {o r : RowL} (h : Good n m L) (ho : o ∈ L) (hr : Comes n m L r i) : leadI (lessAt o r (leadI r.1)).1 = leadI o.1 := by
  obtain ⟨r1, r2, r3, r4, r5⟩ := hr
  obtain ⟨o1, o2, o3⟩ := h.1 o ho
  obtain ⟨l, hl⟩ : ∃ l : Nat, leadI o.1 = (l : Int) := ⟨_, (Int.toNat_of_nonneg o3).symm⟩
  have hp := pt_lessAt o1 o2 r1 r2 r3
  obtain ⟨g1, g2, _⟩ := lead_fn_ne hl
  obtain ⟨k1, k2, _⟩ := lead_fn_ne r3
  have hz := r5 l (mem_leads.2 ⟨_, led_mem.2 ⟨o, ho, rfl⟩, by simp [hl]⟩)
  have hv : ∀ j, fn (lessAt o r (leadI r.1)).1 j = fn o.1 j ^^^ gm (fn o.1 i) (fn r.1 j) := fun j => by
    have := congrArg (fun q => q.v j) hp
    exact this
  rw [hl]
  refine lead_of_fn ?_ fun j hj => ?_
  · rw [hv, show fn r.1 l = 0 from hz, gm_zero_right, UInt8.xor_zero]
    exact g1
  · rw [hv, g2 j hj]
    by_cases hlt : i < l
    · rw [g2 i hlt, gm_zero_left]; rfl
    · rw [k2 j (by omega), gm_zero_right]; rfl
theorem led_lessL {n m i : Nat} {L : List RowL} {r : RowL} (h : Good n m L) (hr : Comes n m L r i) : ledE (lessL r L) = lessAll i (pt r) (ledE L) := by
  unfold ledE lessL lessAll
  rw [List.map_map, List.map_map]
  apply List.map_congr_left
  intro o ho
  obtain ⟨o1, o2, o3⟩ := h.1 o ho
  simp only [Function.comp_apply]
  rw [keeps_lead h ho hr, pt_lessAt o1 o2 hr.1 hr.2.1 hr.2.2.1]
theorem lessL_good {n m i : Nat} {L : List RowL} {r : RowL} (h : Good n m L) (hR : Red (ledE L)) (hr : Comes n m L r i) : Good n m (lessL r L) ∧ Red (ledE (lessL r L)) := by
  have hg := hR.grow (a := pt r) hr.2.2.2.2 (show (pt r).v i = 1 from hr.2.2.2.1) (fun j hj => (lead_fn_ne hr.2.2.1).2.1 j hj)
  have hE : Red (ledE (lessL r L)) := by
    rw [led_lessL h hr]
    exact ⟨hg.1.tail, fun e he f hf hne => hg.2 e (List.mem_cons_of_mem _ he) f (List.mem_cons_of_mem _ hf) hne⟩
  refine ⟨⟨fun o ho => ?_, fun o ho => ?_, ?_⟩, hE⟩
  · obtain ⟨q, hq, rfl⟩ := List.mem_map.1 ho
    obtain ⟨o1, o2, o3⟩ := h.1 q hq
    obtain ⟨z1, z2⟩ := lessAt_len (r := q) (o := r) (i := leadI r.1) (by rw [hr.1, o1]) (by rw [hr.2.1, o2])
    exact ⟨z1.trans o1, z2.trans o2, by rw [keeps_lead h hq hr]; exact o3⟩
  · exact (hE.1.1 _ (led_mem.2 ⟨o, ho, rfl⟩)).1
  · unfold Rising
    rw [led_lessL h hr, lessAll_leads]
    exact h.2.2
theorem growL_good {n m i : Nat} {L : List RowL} {r : RowL} (h : Good n m L) (hR : Red (ledE L)) (hr : Comes n m L r i) : Good n m (growL r L) ∧ Red (ledE (growL r L)) ∧ ∀ y, Span (pts (ledE (growL r L))) y ↔ Span (pt r :: pts (ledE L)) y := by
  obtain ⟨h1, h2⟩ := lessL_good h hR hr
  have hg := hR.grow (a := pt r) hr.2.2.2.2 (show (pt r).v i = 1 from hr.2.2.2.1) (fun j hj => (lead_fn_ne hr.2.2.1).2.1 j hj)
  have hnew : i ∉ leads (ledE L) := fun hi => by
    have := hr.2.2.2.2 i hi
    rw [show (pt r).v i = 1 from hr.2.2.2.1] at this
    exact one_ne this
  have hnew' : i ∉ leads (ledE (lessL r L)) := by rw [led_lessL h hr, lessAll_leads]; exact hnew
  have e2 : ∀ M : List RowL, ledE (r :: M) = (i, pt r) :: ledE M := fun M => by simp [ledE, hr.2.2.1]
  have eg : ledE (growL r L) = ledE ((lessL r L).take (placeL (lessL r L) i)) ++ (i, pt r) :: ledE ((lessL r L).drop (placeL (lessL r L) i)) := by
    unfold growL
    rw [hr.2.2.1, List.append_assoc, List.singleton_append, led_append, e2]
  have hperm : (ledE (growL r L)).Perm ((i, pt r) :: lessAll i (pt r) (ledE L)) := by
    rw [eg]
    refine (mid_perm _ _ _).trans ?_
    rw [← led_append, List.take_append_drop, led_lessL h hr]
  have hRed : Red (ledE (growL r L)) := hg.perm hperm.symm
  refine ⟨⟨fun o ho => ?_, fun o ho => (hRed.1.1 _ (led_mem.2 ⟨o, ho, rfl⟩)).1, ?_⟩, hRed, fun y => ?_⟩
  · unfold growL at ho
    simp only [List.mem_append, List.mem_singleton] at ho
    rcases ho with (ho | rfl) | ho
    · exact h1.1 o (List.mem_of_mem_take ho)
    · exact ⟨hr.1, hr.2.1, by rw [hr.2.2.1]; omega⟩
    · exact h1.1 o (List.mem_of_mem_drop ho)
  · rw [eg]
    refine rising_mid ?_ (fun f hf => ?_) (fun f hf => ?_)
    · rw [← led_append, List.take_append_drop]; exact h1.2.2
    · obtain ⟨q, hq, rfl⟩ := led_mem.1 hf
      have h3 := place_take q hq
      have h4 := (h1.1 q (List.mem_of_mem_take hq)).2.2
      simp only
      omega
    · obtain ⟨q, hq, rfl⟩ := led_mem.1 hf
      have h3 := place_drop (fun o ho => (h1.1 o ho).2.2) h1.2.2 q hq
      have h4 : (leadI q.1).toNat ≠ i := fun h5 => hnew' (mem_leads.2 ⟨_, led_mem.2 ⟨q, List.mem_of_mem_drop hq, rfl⟩, h5⟩)
      simp only
      omega
  · have hpp : Span (pts (ledE (growL r L))) y ↔ Span (pts ((i, pt r) :: lessAll i (pt r) (ledE L))) y := Span.perm (hperm.map _)
    rw [hpp, grow_span]
end Go.Proofs.Ytaidbcppecoenaa

