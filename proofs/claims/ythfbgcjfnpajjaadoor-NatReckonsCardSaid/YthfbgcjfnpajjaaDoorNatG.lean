import Derived.Test.YthfbgcjfnpajjaaDoorNatF
/- nat.Add, nat.Mul, nat.Pow. -/
namespace Go.Proofs.YthfbgcjfnpajjaaDoor
open Go.RowKit
set_option linter.unusedVariables false
set_option maxRecDepth 100000

/-- The slice '.slice A n c' of numbers reads as these; all of it lies below block B. -/
def Nats (w : World) (B : Nat) (A : Option Addr) (n : Nat) (Ns : List Nat) : Prop :=
  Ns.length = n ∧ (0 < n → ∃ b off, A = some ⟨b, off, none⟩ ∧ b < B ∧ ∀ i N, Ns[i]? = some N → ∃ Ai ni ci, w.cell? ⟨b, off + i, none⟩ = some (.slice Ai ni ci) ∧ NatIs w B (.agg #[.slice Ai ni ci]) N)
theorem Nats.at_ {w : World} {B n : Nat} {A : Option Addr} {Ns : List Nat} (h : Nats w B A n Ns) {k : Nat} (hk : k < n) :
    ∃ b off Ai ni ci, A = some ⟨b, off, none⟩ ∧ b < B ∧ w.cell? ⟨b, off + k, none⟩ = some (.slice Ai ni ci) ∧ NatIs w B (.agg #[.slice Ai ni ci]) (dg Ns k) := by
  obtain ⟨b, off, e, hb, hc⟩ := h.2 (by omega)
  obtain ⟨Ai, ni, ci, h1, h2⟩ := hc k _ (dg_some (by have := h.1; omega))
  exact ⟨b, off, Ai, ni, ci, e, hb, h1, h2⟩
theorem Nats.below {w w' : World} {B n : Nat} {A : Option Addr} {Ns : List Nat} (h : Nats w B A n Ns) (hb : Below B w w') : Nats w' B A n Ns :=
  ⟨h.1, fun hn => by
    obtain ⟨b, off, e, hB, hc⟩ := h.2 hn
    refine ⟨b, off, e, hB, fun j N hN => ?_⟩
    obtain ⟨Ai, ni, ci, h1, h2⟩ := hc j N hN
    exact ⟨Ai, ni, ci, (hb.cell (p := ⟨b, off + j, none⟩) hB).trans h1, h2.below hb⟩⟩
/-- One number more, if what comes is not too great. -/
def opF (op : Nat → Nat → Nat) (acc : Option Nat) (N : Nat) : Option Nat := acc.bind fun s => if op s N < BD then some (op s N) else none
def opAll (op : Nat → Nat → Nat) (s : Nat) (Ns : List Nat) : Option Nat := Ns.foldl (opF op) (some s)
theorem opF_none (op : Nat → Nat → Nat) (Ns : List Nat) : Ns.foldl (opF op) none = none := by
  induction Ns with
  | nil => rfl
  | cons N Ns ih => rw [List.foldl_cons]; exact ih
theorem opAll_take {op : Nat → Nat → Nat} {s0 s k : Nat} {Ns : List Nat} (h : opAll op s0 (Ns.take k) = some s) (hk : k < Ns.length) : opAll op s0 (Ns.take (k + 1)) = if op s (dg Ns k) < BD then some (op s (dg Ns k)) else none := by
  unfold opAll at h ⊢
  rw [List.take_add_one, List.foldl_append, h, dg_some hk]
  simp only [Option.toList_some, List.foldl_cons, List.foldl_nil, opF, Option.bind_some]
theorem opAll_stop {op : Nat → Nat → Nat} {s0 k : Nat} {Ns : List Nat} (h : opAll op s0 (Ns.take k) = none) : opAll op s0 Ns = none := by
  have e : Ns = Ns.take k ++ Ns.drop k := (List.take_append_drop k Ns).symm
  unfold opAll at h ⊢
  rw [e, List.foldl_append, h, opF_none]
/-- A number, or that it is too great. -/
def GivesOpt (r : Option Nat) (w : World) (e : Ending) (w' : World) : Prop :=
  match r with
  | some N => GivesPair N w e w'
  | none => GivesErr 16 w e w'
theorem GivesOpt.some_ {r : Option Nat} {N : Nat} {w w' : World} {e : Ending} (hr : r = some N) (h : GivesPair N w e w') : GivesOpt r w e w' := by subst hr; exact h
theorem GivesOpt.none_ {r : Option Nat} {w w' : World} {e : Ending} (hr : r = none) (h : GivesErr 16 w e w') : GivesOpt r w e w' := by subst hr; exact h
/-- A sum, or a product, of two, and whether it is too great. -/
theorem sum_of {B B2 : Nat} {A A2 : Option Addr} {n n2 c c2 N M : Nat} {w : World} (h : NatIs w B (.agg #[.slice A n c]) N) (h2 : NatIs w B2 (.agg #[.slice A2 n2 c2]) M) (hB : B ≤ w.heap.size) (hB2 : B2 ≤ w.heap.size) :
    Calls Tryd.prog 35 #[.agg #[.slice A n c], .agg #[.slice A2 n2 c2]] w fun e w' => (∃ g m R, e = .returned (.slice (some ⟨g, 0, none⟩) m m) ∧ Wd w' w'.heap.size (some ⟨g, 0, none⟩) m R ∧ m ≤ 1024 ∧ num W64 R = N + M) ∧ Below w.heap.size w w' := by
  obtain ⟨A', n', c', ws, e, w1, w2, rfl, w4⟩ := h
  injection e with e; injection e with e; injection e with e _; injection e with e1 e2 e3; subst e1 e2 e3
  obtain ⟨A', n', c', ws2, e, y1, y2, rfl, y4⟩ := h2
  injection e with e; injection e with e; injection e with e _; injection e with e1 e2 e3; subst e1 e2 e3
  obtain ⟨m, hm, C⟩ := plus_any (c := c) (c2 := c2) w1 y1 hB hB2 w4 y4
  refine C.mono ?_
  rintro e w' ⟨g, R, rfl, p1, p2, p3, p4, p5⟩
  have h3 := (Wd.of_blk p1 p3).more (B' := w'.heap.size) p1.lt
  rw [p2] at h3
  exact ⟨⟨g, m + 1, R, rfl, h3, by omega, p4⟩, p5⟩
theorem product_of {B B2 : Nat} {A A2 : Option Addr} {n n2 c c2 N M : Nat} {w : World} (h : NatIs w B (.agg #[.slice A n c]) N) (h2 : NatIs w B2 (.agg #[.slice A2 n2 c2]) M) (hB : B ≤ w.heap.size) (hB2 : B2 ≤ w.heap.size) :
    Calls Tryd.prog 36 #[.agg #[.slice A n c], .agg #[.slice A2 n2 c2]] w fun e w' => (∃ g m R, e = .returned (.slice (some ⟨g, 0, none⟩) m m) ∧ Wd w' w'.heap.size (some ⟨g, 0, none⟩) m R ∧ m ≤ 1024 ∧ num W64 R = N * M) ∧ Below w.heap.size w w' := by
  obtain ⟨A', n', c', ws, e, w1, w2, rfl, w4⟩ := h
  injection e with e; injection e with e; injection e with e _; injection e with e1 e2 e3; subst e1 e2 e3
  obtain ⟨A', n', c', ws2, e, y1, y2, rfl, y4⟩ := h2
  injection e with e; injection e with e; injection e with e _; injection e with e1 e2 e3; subst e1 e2 e3
  refine (times_any (c := c) (c2 := c2) w1 y1 hB hB2 w4 y4).mono ?_
  rintro e w' ⟨g, R, rfl, p1, p2, p3, p4, p5⟩
  have h3 := (Wd.of_blk p1 p3).more (B' := w'.heap.size) p1.lt
  rw [p2] at h3
  exact ⟨⟨g, n + n2, R, rfl, h3, by omega, p4⟩, p5⟩
set_option maxHeartbeats 2000000 in
theorem addall_any {A : Option Addr} {n c : Nat} {Ns : List Nat} {w : World} (h : Nats w w.heap.size A n Ns) (hn : n ≤ 9223372036854775807) :
    Calls Tryd.prog 20 #[.slice A n c] w (GivesOpt (opAll (fun s N => s + N) 0 Ns) w) := by
  have Hl := Lib.hid h.1
  have b0 := balloc w (.cells #[.slice none 0 0] 27)
  have gR0 := Blk.new w 27 #[.slice none 0 0]
  have C0 := of_any 0 (by decide) (w.alloc (.cells #[.slice none 0 0] 27))
  rw [show uv 0 = 0 from rfl] at C0
  have hS0 : Hid (opAll (fun s N => s + N) 0 (Ns.take 0) = some 0) := Lib.hid rfl
  go_enter Tryd.func20, Tryd.ntmps20
  go_wp2_with fail
  refine C0.mono ?_
  rintro e w1 ⟨v, rfl, hv, b1⟩
  have k1 := bstep b0 b1
  obtain ⟨A1, n1, c1, ws1, rfl, hv1⟩ := hv
  have hv : NatIs w1 w1.heap.size (.agg #[.slice A1 n1 c1]) 0 := ⟨A1, n1, c1, ws1, rfl, hv1⟩
  have gR1 := blk_size gR0 b1
  have hR1 := gR1.lt
  have HV := Lib.hid (hv.step (balloc w1 (.cells #[.slice A1 n1 c1] 27)))
  have HG := Lib.hid (Blk.new w1 27 #[.slice A1 n1 c1])
  have HR := Lib.hid (gR1.alloc (.cells #[.slice A1 n1 c1] 27))
  have k2 := bstep k1 (balloc w1 (.cells #[.slice A1 n1 c1] 27))
  clear C0 hv hv1 gR0 gR1 b0 b1 k1
  go_wp2_with fail
  generalize w1.alloc (.cells #[.slice A1 n1 c1] 27) = W0 at *
  generalize w1.heap.size = g at *
  go_loopw [12] (fun k wr => ∃ i s As ns cs, i ≤ n ∧ k = .int .i64 ((i : Nat) : Int) ∧ Hid (opAll (fun s N => s + N) 0 (Ns.take i) = some s) ∧ Hid (NatIs wr wr.heap.size (.agg #[.slice As ns cs]) s) ∧ Hid (Blk wr w.heap.size 27 #[.slice none 0 0]) ∧ Hid (Blk wr g 27 #[.slice As ns cs]) ∧ Below w.heap.size w wr) (fun k _ => n - (intOf k).toNat)
  case atStart => exact ⟨0, 0, A1, n1, c1, by omega, rfl, hS0, HV, HR, HG, k2⟩
  case round =>
    clear HV HR HG k2 hS0
    obtain ⟨i, s, As, ns, cs, hi, rfl, HS, HV, HR, HG, kb⟩ := hrel
    have hgl := HG.out.lt
    have hRl := HR.out.lt
    by_cases hlt : i < n
    · obtain ⟨b1, o1, Ai, ni, ci, rfl, hb1, hc1, hN⟩ := (h.below kb).at_ hlt
      have HT := Lib.hid (opAll_take HS.out (by rw [Hl.out]; exact hlt))
      have bA := balloc wr (.cells #[.slice Ai ni ci] 27)
      have gA := Blk.new wr 27 #[.slice Ai ni ci]
      have gG := HG.out.alloc (.cells #[.slice Ai ni ci] 27)
      have gR := HR.out.alloc (.cells #[.slice Ai ni ci] 27)
      have hV := HV.out.step bA
      have hN1 := hN.below ((Below.refl w.heap.size wr).alloc kb.size (.cells #[.slice Ai ni ci] 27))
      have kA := bstep kb bA
      have C1 := sum_of hV hN1 (Nat.le_refl _) kA.size
      have hcb : b1 < wr.heap.size := Nat.lt_of_lt_of_le hb1 kb.size
      have z1 := (blk_cell gG).1
      have z2 := (blk_cell gA).1
      clear hN hN1 hV
      generalize dg Ns i = N at *
      go_wp2_with fail
      refine C1.mono ?_
      rintro e w2 ⟨⟨g2, m2, R2, rfl, hW, hm2, hnum⟩, b2⟩
      have HNum := Lib.hid hnum
      have gG2 := blk_size gG b2
      have gR2 := blk_size gR b2
      have kB := bstep kA b2
      clear C1 z1 z2 gA gG gR hnum
      by_cases hok : (fun s N => s + N) s N < BD
      · have C2 := bounded_ok (c := m2) hW (Nat.le_refl _) (Nat.le_refl _) (by omega) (by rw [HNum.out]; exact hok)
        rw [HNum.out] at C2
        have HT2 := HT.out
        rw [if_pos hok] at HT2
        have HTk := Lib.hid HT2
        clear HT2 hok
        go_wp2_with fail
        refine C2.mono ?_
        rintro e w3 ⟨v3, rfl, hv3, b3⟩
        obtain ⟨A3, n3, c3, ws3, rfl, hv4⟩ := hv3
        have hv3 : NatIs w3 w3.heap.size (.agg #[.slice A3 n3 c3]) ((fun s N => s + N) s N) := ⟨A3, n3, c3, ws3, rfl, hv4⟩
        have gG3 := blk_size gG2 b3
        have gR3 := blk_size gR2 b3
        have hG3 := gG3.lt
        have hR3 := gR3.lt
        have kC := bstep kB b3
        obtain ⟨z1, z2⟩ := blk_cell gG3
        clear C2 hv4
        go_wp2_with fail
        have hV4 := hv3.set (y := .slice A3 n3 c3) gG3
        rw [← size_setCell' w3 ⟨g, 0, none⟩ (.slice A3 n3 c3)] at hV4
        have HV4 := Lib.hid (hV4.step (balloc _ (.cells #[.slice A3 n3 c3] 27)))
        have HG4 := Lib.hid ((blk_one (y := .slice A3 n3 c3) gG3).alloc (.cells #[.slice A3 n3 c3] 27))
        have HR4 := Lib.hid ((gR3.far (p := ⟨g, 0, none⟩) (by simp; omega) (.slice A3 n3 c3)).alloc (.cells #[.slice A3 n3 c3] 27))
        have k4 := bstep (kC.setCell (p := ⟨g, 0, none⟩) (by simp; omega) (.slice A3 n3 c3)) (balloc _ (.cells #[.slice A3 n3 c3] 27))
        clear gG3 gR3 hv3 gG2 gR2 kC kB kA hV4
        go_roundw
        case rel => exact ⟨i + 1, (fun s N => s + N) s N, A3, n3, c3, by omega, by go_num, HTk, HV4, HR4, HG4, k4⟩
        case measure => simp [intOf]; omega
      · have C2 := bounded_long (c := m2) hW (Nat.le_refl _) (Nat.le_refl _) (by omega) (by rw [HNum.out]; exact Nat.le_of_not_lt hok)
        have HT2 := HT.out
        rw [if_neg hok] at HT2
        have HTk := Lib.hid (opAll_stop HT2)
        clear HT2 hok
        go_wp2_with fail
        refine C2.mono ?_
        rintro e w3 ⟨rfl, b3⟩
        have gR3 := blk_size gR2 b3
        have hR3 := gR3.lt
        have kC := bstep kB b3
        obtain ⟨z1, z2⟩ := blk_cell gR3
        clear C2
        go_wp2_with fail
        have gR4 := (blk_one (y := .slice none 0 0) gR3).alloc (.cells #[.slice none 0 0] 27)
        obtain ⟨y0, y1⟩ := blk_cell gR4
        refine bodyPost_ret (v := .tuple #[.agg #[.slice none 0 0], .int .i64 16]) (by simp [results, Tryd.results20, go_sem, y0]) rfl ?_
        exact GivesOpt.none_ HTk.out ⟨rfl, bstep (kC.setCell (p := ⟨w.heap.size, 0, none⟩) (by simp) (.slice none 0 0)) (balloc _ _)⟩
    · obtain rfl : n = i := by omega
      have hS := HS.out
      rw [List.take_of_length_le (by rw [Hl.out]; omega)] at hS
      have HS2 := Lib.hid hS
      obtain ⟨z1, z2⟩ := blk_cell HG.out
      obtain ⟨z3, z4⟩ := blk_cell HR.out
      clear hS
      go_wp2_with fail
      have gR4 := blk_one (y := .slice As ns cs) HR.out
      obtain ⟨y0, y1⟩ := blk_cell gR4
      refine bodyPost_ret (v := .tuple #[.agg #[.slice As ns cs], .int .i64 0]) (by simp [results, Tryd.results20, go_sem, y0]) rfl ?_
      exact GivesOpt.some_ HS2.out ⟨_, rfl, (HV.out.set HR.out).more (by rw [size_setCell']; exact Nat.le_refl _), kb.setCell (Nat.le_refl _) _⟩
set_option maxHeartbeats 2000000 in
theorem mulall_any {A : Option Addr} {n c : Nat} {Ns : List Nat} {w : World} (h : Nats w w.heap.size A n Ns) (hn : n ≤ 9223372036854775807) :
    Calls Tryd.prog 21 #[.slice A n c] w (GivesOpt (opAll (fun s N => s * N) 1 Ns) w) := by
  have Hl := Lib.hid h.1
  have b0 := balloc w (.cells #[.slice none 0 0] 27)
  have gR0 := Blk.new w 27 #[.slice none 0 0]
  have C0 := of_any 1 (by decide) (w.alloc (.cells #[.slice none 0 0] 27))
  rw [show uv 1 = 1 from rfl] at C0
  have hS0 : Hid (opAll (fun s N => s * N) 1 (Ns.take 0) = some 1) := Lib.hid rfl
  go_enter Tryd.func21, Tryd.ntmps21
  go_wp2_with fail
  refine C0.mono ?_
  rintro e w1 ⟨v, rfl, hv, b1⟩
  have k1 := bstep b0 b1
  obtain ⟨A1, n1, c1, ws1, rfl, hv1⟩ := hv
  have hv : NatIs w1 w1.heap.size (.agg #[.slice A1 n1 c1]) 1 := ⟨A1, n1, c1, ws1, rfl, hv1⟩
  have gR1 := blk_size gR0 b1
  have hR1 := gR1.lt
  have HV := Lib.hid (hv.step (balloc w1 (.cells #[.slice A1 n1 c1] 27)))
  have HG := Lib.hid (Blk.new w1 27 #[.slice A1 n1 c1])
  have HR := Lib.hid (gR1.alloc (.cells #[.slice A1 n1 c1] 27))
  have k2 := bstep k1 (balloc w1 (.cells #[.slice A1 n1 c1] 27))
  clear C0 hv hv1 gR0 gR1 b0 b1 k1
  go_wp2_with fail
  generalize w1.alloc (.cells #[.slice A1 n1 c1] 27) = W0 at *
  generalize w1.heap.size = g at *
  go_loopw [12] (fun k wr => ∃ i s As ns cs, i ≤ n ∧ k = .int .i64 ((i : Nat) : Int) ∧ Hid (opAll (fun s N => s * N) 1 (Ns.take i) = some s) ∧ Hid (NatIs wr wr.heap.size (.agg #[.slice As ns cs]) s) ∧ Hid (Blk wr w.heap.size 27 #[.slice none 0 0]) ∧ Hid (Blk wr g 27 #[.slice As ns cs]) ∧ Below w.heap.size w wr) (fun k _ => n - (intOf k).toNat)
  case atStart => exact ⟨0, 1, A1, n1, c1, by omega, rfl, hS0, HV, HR, HG, k2⟩
  case round =>
    clear HV HR HG k2 hS0
    obtain ⟨i, s, As, ns, cs, hi, rfl, HS, HV, HR, HG, kb⟩ := hrel
    have hgl := HG.out.lt
    have hRl := HR.out.lt
    by_cases hlt : i < n
    · obtain ⟨b1, o1, Ai, ni, ci, rfl, hb1, hc1, hN⟩ := (h.below kb).at_ hlt
      have HT := Lib.hid (opAll_take HS.out (by rw [Hl.out]; exact hlt))
      have bA := balloc wr (.cells #[.slice Ai ni ci] 27)
      have gA := Blk.new wr 27 #[.slice Ai ni ci]
      have gG := HG.out.alloc (.cells #[.slice Ai ni ci] 27)
      have gR := HR.out.alloc (.cells #[.slice Ai ni ci] 27)
      have hV := HV.out.step bA
      have hN1 := hN.below ((Below.refl w.heap.size wr).alloc kb.size (.cells #[.slice Ai ni ci] 27))
      have kA := bstep kb bA
      have C1 := product_of hV hN1 (Nat.le_refl _) kA.size
      have hcb : b1 < wr.heap.size := Nat.lt_of_lt_of_le hb1 kb.size
      have z1 := (blk_cell gG).1
      have z2 := (blk_cell gA).1
      clear hN hN1 hV
      generalize dg Ns i = N at *
      go_wp2_with fail
      refine C1.mono ?_
      rintro e w2 ⟨⟨g2, m2, R2, rfl, hW, hm2, hnum⟩, b2⟩
      have HNum := Lib.hid hnum
      have gG2 := blk_size gG b2
      have gR2 := blk_size gR b2
      have kB := bstep kA b2
      clear C1 z1 z2 gA gG gR hnum
      by_cases hok : (fun s N => s * N) s N < BD
      · have C2 := bounded_ok (c := m2) hW (Nat.le_refl _) (Nat.le_refl _) (by omega) (by rw [HNum.out]; exact hok)
        rw [HNum.out] at C2
        have HT2 := HT.out
        rw [if_pos hok] at HT2
        have HTk := Lib.hid HT2
        clear HT2 hok
        go_wp2_with fail
        refine C2.mono ?_
        rintro e w3 ⟨v3, rfl, hv3, b3⟩
        obtain ⟨A3, n3, c3, ws3, rfl, hv4⟩ := hv3
        have hv3 : NatIs w3 w3.heap.size (.agg #[.slice A3 n3 c3]) ((fun s N => s * N) s N) := ⟨A3, n3, c3, ws3, rfl, hv4⟩
        have gG3 := blk_size gG2 b3
        have gR3 := blk_size gR2 b3
        have hG3 := gG3.lt
        have hR3 := gR3.lt
        have kC := bstep kB b3
        obtain ⟨z1, z2⟩ := blk_cell gG3
        clear C2 hv4
        go_wp2_with fail
        have hV4 := hv3.set (y := .slice A3 n3 c3) gG3
        rw [← size_setCell' w3 ⟨g, 0, none⟩ (.slice A3 n3 c3)] at hV4
        have HV4 := Lib.hid (hV4.step (balloc _ (.cells #[.slice A3 n3 c3] 27)))
        have HG4 := Lib.hid ((blk_one (y := .slice A3 n3 c3) gG3).alloc (.cells #[.slice A3 n3 c3] 27))
        have HR4 := Lib.hid ((gR3.far (p := ⟨g, 0, none⟩) (by simp; omega) (.slice A3 n3 c3)).alloc (.cells #[.slice A3 n3 c3] 27))
        have k4 := bstep (kC.setCell (p := ⟨g, 0, none⟩) (by simp; omega) (.slice A3 n3 c3)) (balloc _ (.cells #[.slice A3 n3 c3] 27))
        clear gG3 gR3 hv3 gG2 gR2 kC kB kA hV4
        go_roundw
        case rel => exact ⟨i + 1, (fun s N => s * N) s N, A3, n3, c3, by omega, by go_num, HTk, HV4, HR4, HG4, k4⟩
        case measure => simp [intOf]; omega
      · have C2 := bounded_long (c := m2) hW (Nat.le_refl _) (Nat.le_refl _) (by omega) (by rw [HNum.out]; exact Nat.le_of_not_lt hok)
        have HT2 := HT.out
        rw [if_neg hok] at HT2
        have HTk := Lib.hid (opAll_stop HT2)
        clear HT2 hok
        go_wp2_with fail
        refine C2.mono ?_
        rintro e w3 ⟨rfl, b3⟩
        have gR3 := blk_size gR2 b3
        have hR3 := gR3.lt
        have kC := bstep kB b3
        obtain ⟨z1, z2⟩ := blk_cell gR3
        clear C2
        go_wp2_with fail
        have gR4 := (blk_one (y := .slice none 0 0) gR3).alloc (.cells #[.slice none 0 0] 27)
        obtain ⟨y0, y1⟩ := blk_cell gR4
        refine bodyPost_ret (v := .tuple #[.agg #[.slice none 0 0], .int .i64 16]) (by simp [results, Tryd.results21, go_sem, y0]) rfl ?_
        exact GivesOpt.none_ HTk.out ⟨rfl, bstep (kC.setCell (p := ⟨w.heap.size, 0, none⟩) (by simp) (.slice none 0 0)) (balloc _ _)⟩
    · obtain rfl : n = i := by omega
      have hS := HS.out
      rw [List.take_of_length_le (by rw [Hl.out]; omega)] at hS
      have HS2 := Lib.hid hS
      obtain ⟨z1, z2⟩ := blk_cell HG.out
      obtain ⟨z3, z4⟩ := blk_cell HR.out
      clear hS
      go_wp2_with fail
      have gR4 := blk_one (y := .slice As ns cs) HR.out
      obtain ⟨y0, y1⟩ := blk_cell gR4
      refine bodyPost_ret (v := .tuple #[.agg #[.slice As ns cs], .int .i64 0]) (by simp [results, Tryd.results21, go_sem, y0]) rfl ?_
      exact GivesOpt.some_ HS2.out ⟨_, rfl, (HV.out.set HR.out).more (by rw [size_setCell']; exact Nat.le_refl _), kb.setCell (Nat.le_refl _) _⟩
end Go.Proofs.YthfbgcjfnpajjaaDoor
