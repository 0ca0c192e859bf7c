import Derived.Test.YtaidbcppecoenaaL08D
import Derived.Test.YtaidbcppecoenaaR08D
import Derived.RegionTactic
import Derived.ChangeAlike
/- The statements of layer 8: Same. -/
namespace Go.Proofs.Ytaidbcppecoenaa
open Go.RowKit
set_option linter.unusedVariables false
set_option maxRecDepth 100000

def same8 (L M : List RowL) : Bool := decide (L = M)
theorem same8_no {L M : List RowL} {k : Nat} (h : sameR (L[k]?.getD ([], [])) (M[k]?.getD ([], [])) = false) : same8 L M = false := by
  unfold same8
  rw [decide_eq_false_iff_not]
  rintro rfl
  simp [sameR] at h
theorem same8_yes {L M : List RowL} {n : Nat} (h1 : L.length = n) (h2 : M.length = n) (h : L.take n = M.take n) : same8 L M = true := by
  rw [List.take_of_length_le (by omega), List.take_of_length_le (by omega)] at h
  simp [same8, h]
set_option maxHeartbeats 1000000 in
theorem same8_any {A A2 : Option Addr} {n c n2 c2 : Nat} {L M : List RowL} {w : World} (h : RL w w.heap.size A n L) (h2 : RL w w.heap.size A2 n2 M) (hn : n ≤ 140737488355327) :
    Calls Try.prog 42 #[.slice A n c, .slice A2 n2 c2] w fun e w' => e = .returned (.bool (same8 L M)) ∧ Below w.heap.size w w' := by
  by_cases hl : n = n2
  · subst hl
    have H1 := Lib.hid h.1.symm
    have H2 := Lib.hid h2.1.symm
    go_enter Try.func42, Try.ntmps42
    go_wp2_with fail
    go_loopw [13] (fun i wr => ∃ k : Nat, k ≤ n ∧ i = .int .i64 k ∧ Hid (L.take k = M.take k) ∧ Below w.heap.size w wr) (fun i _ => n - (intOf i).toNat)
    case atStart => exact ⟨0, by omega, rfl, Lib.hid rfl, Below.refl _ _⟩
    case round =>
      obtain ⟨k, hk, rfl, hp, hb⟩ := hrel
      by_cases hlt : k < n
      · obtain ⟨g, o, B1, m1, d1, B2, m2, d2, rfl, k0, k1, r⟩ := (h.step hb).at_ hlt
        obtain ⟨g', o', B3, m3, d3, B4, m4, d4, rfl, y0, y1, r'⟩ := (h2.step hb).at_ hlt
        have hkz : (k : Int) < (n : Int) := by omega
        have Hs1 : Hid (L.take (k + 1) = L.take k ++ [L[k]?.getD ([], [])]) := Lib.hid (take_get _ (by rw [H1.out]; exact hlt)).symm
        have Hs2 : Hid (M.take (k + 1) = M.take k ++ [M[k]?.getD ([], [])]) := Lib.hid (take_get _ (by rw [H2.out]; exact hlt)).symm
        have HD : sameR (L[k]?.getD ([], [])) (M[k]?.getD ([], [])) = false → Hid (same8 L M = false) := fun h => Lib.hid (same8_no h)
        have hgl : g < wr.heap.size := cell_lt k0
        have hgl' : g' < wr.heap.size := cell_lt y0
        generalize L[k]?.getD ([], []) = x at *
        generalize M[k]?.getD ([], []) = y at *
        have hS : Hid (∀ w', Below wr.heap.size wr w' → (Below wr.heap.size wr w' ∧ w'.cell? ⟨g, o + k * 2, none⟩ = some (.slice B1 m1 d1) ∧ w'.cell? ⟨g, o + k * 2 + 1, none⟩ = some (.slice B2 m2 d2) ∧ w'.cell? ⟨g', o' + k * 2, none⟩ = some (.slice B3 m3 d3) ∧ w'.cell? ⟨g', o' + k * 2 + 1, none⟩ = some (.slice B4 m4 d4))) := Lib.hid fun w' hb' =>
          ⟨hb', (hb'.cell (p := ⟨g, o + k * 2, none⟩) hgl).trans k0, (hb'.cell (p := ⟨g, o + k * 2 + 1, none⟩) hgl).trans k1, (hb'.cell (p := ⟨g', o' + k * 2, none⟩) hgl').trans y0, (hb'.cell (p := ⟨g', o' + k * 2 + 1, none⟩) hgl').trans y1⟩
        have HC := Lib.hid fun W (hW : Below wr.heap.size wr W) => c_of (r.step hW)
        have HC2 := Lib.hid fun W z (hW : Below wr.heap.size wr W) (hz : RowIs W x z) => c_refsame hz (r'.step hW)
        clear k0 k1 y0 y1
        cases hq : sameR x y
        · have HF := HD hq
          have Hq := Lib.hid hq
          clear HD hq
          go_wp2_with fail
          go_region_held3 (fun w' => Below wr.heap.size wr w' ∧ w'.cell? ⟨g, o + k * 2, none⟩ = some (.slice B1 m1 d1) ∧ w'.cell? ⟨g, o + k * 2 + 1, none⟩ = some (.slice B2 m2 d2) ∧ w'.cell? ⟨g', o' + k * 2, none⟩ = some (.slice B3 m3 d3) ∧ w'.cell? ⟨g', o' + k * 2 + 1, none⟩ = some (.slice B4 m4 d4))
            ((refine hS.out _ ?_; first | exact (Below.refl _ _).drew | assumption))
            (first
              | (go_at_call 38; (with_reducible refine (HC.out _ (And.left ‹Below wr.heap.size wr _ ∧ _›)).mono ?_); rintro e w7 ⟨x7, rfl, r7, b7⟩; have kB7 := bstep (And.left ‹Below wr.heap.size wr _ ∧ _›) b7)
              | (go_at_call 37; (with_reducible refine (HC2.out _ _ kB7 r7).mono ?_); rintro e w8 ⟨rfl, b8⟩; have kB8 := bstep kB7 b8; rw [Hq.out]))
          go_wp2_with fail
          go_ret
          exact ⟨ret_bool HF.out.symm, bstep hb kB8⟩
        · have HF : Hid (L.take (k + 1) = M.take (k + 1)) := Lib.hid (by
            rw [Hs1.out, Hs2.out, hp.out]
            simp [sameR] at hq
            rw [Prod.ext hq.1 hq.2])
          have Hq := Lib.hid hq
          clear HD hq
          go_wp2_with fail
          go_region_held3 (fun w' => Below wr.heap.size wr w' ∧ w'.cell? ⟨g, o + k * 2, none⟩ = some (.slice B1 m1 d1) ∧ w'.cell? ⟨g, o + k * 2 + 1, none⟩ = some (.slice B2 m2 d2) ∧ w'.cell? ⟨g', o' + k * 2, none⟩ = some (.slice B3 m3 d3) ∧ w'.cell? ⟨g', o' + k * 2 + 1, none⟩ = some (.slice B4 m4 d4))
            ((refine hS.out _ ?_; first | exact (Below.refl _ _).drew | assumption))
            (first
              | (go_at_call 38; (with_reducible refine (HC.out _ (And.left ‹Below wr.heap.size wr _ ∧ _›)).mono ?_); rintro e w7 ⟨x7, rfl, r7, b7⟩; have kB7 := bstep (And.left ‹Below wr.heap.size wr _ ∧ _›) b7)
              | (go_at_call 37; (with_reducible refine (HC2.out _ _ kB7 r7).mono ?_); rintro e w8 ⟨rfl, b8⟩; have kB8 := bstep kB7 b8; rw [Hq.out]))
          go_wp2_with fail
          go_roundw
          case rel => exact ⟨k + 1, by omega, by go_num, HF, bstep hb kB8⟩
          case measure => simp [intOf]; omega
      · obtain rfl : k = n := by omega
        have HF := Lib.hid (same8_yes H1.out H2.out hp.out)
        go_wp2_with fail
        go_ret
        exact ⟨ret_bool HF.out.symm, hb⟩
  · have e : same8 L M = false := by
      unfold same8
      rw [decide_eq_false_iff_not]
      rintro rfl
      exact hl (h.1.trans h2.1.symm)
    have t : ((n : Int) != (n2 : Int)) = true := by rw [bne_iff_ne]; omega
    rw [e]
    clear e
    go_enter Try.func42, Try.ntmps42
    go_wp2_with fail
    go_ret
    exact ⟨rfl, Below.refl _ _⟩
end Go.Proofs.Ytaidbcppecoenaa

/- The statements of layer 8: Fit. -/
namespace Go.Proofs.Ytaidbcppecoenaa
open Go.RowKit
set_option linter.unusedVariables false
set_option maxRecDepth 100000

theorem copy_chg {ops : Array Oper} {rest : List Oper} {o : Oper} {a : Act} {Q : Exit → Act → World → Prop} {w : World} (hgd : o.guard = none) (d s : Operand)
    (ho : o.op = .call { callee := .builtin .copy, args := #[d, s], argTypes := #[52, 52] }) (g n m c : Nat) (A : Option Addr) (us : List UInt8)
    (hd : a.eval d = .slice (some ⟨g, 0, none⟩) n n) (hs : a.eval s = .slice A m c) (hg : Blk w g 5 (bvs (nulls n)).toArray) {B : Nat} (hr : Rd w B A m us)
    (h : ∀ w', Blk w' g 5 (bvs (cutTo n us)).toArray → Chg (fun q => q = g) w w' → wpList Try.prog ops Q rest (a.put o.dst (goInt (Nat.min m n))) w') : wpList Try.prog ops Q (o :: rest) a w := by
  have hl : (bvs (us.take n)).length = Nat.min m n := by rw [bvs_length, List.length_take, hr.1]; exact Nat.min_comm _ _
  have hmn : Nat.min m n ≤ n := Nat.min_le_right _ _
  have hmm : Nat.min m n ≤ m := Nat.min_le_left _ _
  have e2 : (bvs (nulls n)).take 0 ++ (bvs (us.take n) ++ (bvs (nulls n)).drop (0 + (bvs (us.take n)).length)) = bvs (cutTo n us) := by
    have hm := hr.1
    have e3 : (bvs (nulls n)).drop (Nat.min m n) = bvs (nulls (n - us.length)) := by
      have e4 : n - Nat.min m n = n - us.length := by rw [hm]; show n - min m n = n - m; omega
      simp only [bvs, nulls, List.map_replicate, List.drop_replicate, e4]
    rw [hl, Nat.zero_add, e3]
    unfold cutTo
    simp [bvs]
  by_cases h0 : Nat.min m n = 0
  · refine wpList_copy_nothing hgd d s _ _ ho 5 Try.underlying52 (by kernel_rfl) (some ⟨g, 0, none⟩) A n n m c hd hs h0 ?_
    rw [h0] at h hl
    refine h w ?_ (Chg.refl _ _)
    have : bvs (us.take n) = [] := List.eq_nil_of_length_eq_zero hl
    rw [this] at e2
    have e5 : bvs (nulls n) = bvs (cutTo n us) := by simpa using e2
    rw [← e5]
    exact hg
  · obtain ⟨ad, rfl, hc⟩ := hr.adds (show 0 < m by omega)
    refine wpList_copy_own hgd d s _ _ ho 5 Try.underlying52 (by kernel_rfl) g 0 n n ad m c hd hs _ 5 hg (bvs (us.take n)) hl (fun j v hv => hc j v ?_) (by simp only [List.size_toArray, hl, bvs_length, nulls_length]; omega) (bvs_one _) ?_
    · simp only [bvs, List.map_take, List.getElem?_take] at hv
      split at hv
      · exact hv
      · cases hv
    · rw [hl]
      refine h _ ?_ (chg_setRow (by rfl) _)
      rw [← e2, hl]
      exact setRow_heap w g _ _ _ _ hg
def fitR (k t : Nat) (r : RowL) : RowL := (cutTo k r.1, cutTo t r.2)
theorem fitR_len (k t : Nat) (r : RowL) : (fitR k t r).1.length = k ∧ (fitR k t r).2.length = t := ⟨cutTo_len _ _, cutTo_len _ _⟩
set_option maxHeartbeats 1000000 in
theorem fit_any {w : World} {r : RowL} {x : Value} {k t : Nat} (hx : RowIs w r x) (hk : k ≤ 140737488355327) (ht : t ≤ 140737488355327) :
    Calls Try.prog 33 #[x, .int .i64 (k : Int), .int .i64 (t : Int)] w (RowEnds (fitR k t r) w) := by
  obtain ⟨A1, n1, c1, A2, n2, c2, rfl, p1, p2, l1, l2⟩ := hx
  obtain ⟨hb0, b3, b4⟩ := two_alloc (w := w) (T := 54) (T2 := 54) (cs := #[.slice A1 n1 c1, .slice A2 n2 c2]) (cs2 := #[.slice none 0 0, .slice none 0 0])
  have p1' := p1.step hb0
  have p2' := p2.step hb0
  have mk1 := fun W => make_bytes k (by omega) W
  have mk2 := fun W => make_bytes t (by omega) W
  clear p1 p2
  go_enter Try.func33, Try.ntmps33
  go_wp2_with fail
  generalize (w.alloc (.cells #[.slice A1 n1 c1, .slice A2 n2 c2] 54)).alloc (.cells #[.slice none 0 0, .slice none 0 0] 54) = V at *
  go_region
  · have hY : Below V.heap.size V ((V.alloc (.cells (bvs (nulls k)).toArray 5)).alloc (.cells (bvs (nulls t)).toArray 5)).drew := (((Below.refl _ _).alloc (Nat.le_refl _) _).alloc (by simp) _).drew
    have hA := ((Blk.new V 5 (bvs (nulls k)).toArray).alloc (.cells (bvs (nulls t)).toArray 5)).drew
    have hB := (Blk.new (V.alloc (.cells (bvs (nulls k)).toArray 5)) 5 (bvs (nulls t)).toArray).drew
    rw [World.size_alloc] at hB
    generalize ((V.alloc (.cells (bvs (nulls k)).toArray 5)).alloc (.cells (bvs (nulls t)).toArray 5)).drew = Y at *
    have hYz := hY.size
    have r1 := p1'.below hY
    obtain ⟨a0, a1, _, _⟩ := cells2 (b3.below hY b3.lt)
    have hltV := b4.lt
    have hltV3 := b3.lt
    clear mk1 mk2
    go_wp2_with ((with_reducible refine at_copy ?_); refine copy_chg (B := V.heap.size) rfl (.tmp 13) (.tmp 15) rfl (V.heap.size) k n1 c1 A1 r.1 rfl rfl ?c1 ?c2 ?_)
    any_goals first | with_reducible exact hA | with_reducible exact r1
    intro w1 hK hC1
    have bc1 : Below V.heap.size V w1 := hY.trans (hC1.below hYz (fun q hq => by subst hq; omega))
    have eT := hB.chg hC1 (by omega)
    have r2 := p2'.below bc1
    obtain ⟨x0, x1, _, _⟩ := cells2 (b3.below bc1 b3.lt)
    have hz1 := bc1.size
    clear r1 a0 a1 hA hB hC1 hY
    go_wp2_with ((with_reducible refine at_copy ?_); refine copy_chg (B := V.heap.size) rfl (.tmp 17) (.tmp 19) rfl (V.heap.size + 1) t n2 c2 A2 r.2 rfl rfl ?c3 ?c4 ?_)
    any_goals first | with_reducible exact eT | with_reducible exact r2
    intro w2 hT hC2
    have bc2 : Below V.heap.size V w2 := bc1.trans (hC2.below hz1 (fun q hq => by subst hq; omega))
    have hK2 := hK.chg hC2 (by omega)
    have d4 := b4.below bc2 b4.lt
    have rK := (Rd.of_blk hK2).more hK2.lt
    have rT := (Rd.of_blk hT).more hT.lt
    rw [cutTo_len] at rK rT
    have hb2 := bstep hb0 bc2
    obtain ⟨y0, y1, f0, f1⟩ := cells2 d4
    clear x0 x1 eT r2 hC2 hK hK2 hT bc1 bc2
    go_wp2_with fail
    refine end_row (v := .agg #[.slice (some ⟨V.heap.size, 0, none⟩) k k, .slice (some ⟨V.heap.size + 1, 0, none⟩) t t]) d4 (by intro W e0 e1; simp [results, Try.results33, go_sem, e0, e1]) rfl fun W hl => ?_
    exact RowEnds.mk (hl.row rK d4 NoBytes.two) (hl.row rT d4 NoBytes.two) hk ht (hl.below _ _ (by omega) hb2)
  · have hY : Below V.heap.size V ((V.alloc (.cells (bvs (nulls t)).toArray 5)).alloc (.cells (bvs (nulls k)).toArray 5)).drew := (((Below.refl _ _).alloc (Nat.le_refl _) _).alloc (by simp) _).drew
    have hA := ((Blk.new V 5 (bvs (nulls t)).toArray).alloc (.cells (bvs (nulls k)).toArray 5)).drew
    have hB := (Blk.new (V.alloc (.cells (bvs (nulls t)).toArray 5)) 5 (bvs (nulls k)).toArray).drew
    rw [World.size_alloc] at hB
    generalize ((V.alloc (.cells (bvs (nulls t)).toArray 5)).alloc (.cells (bvs (nulls k)).toArray 5)).drew = Y at *
    have hYz := hY.size
    have r1 := p1'.below hY
    obtain ⟨a0, a1, _, _⟩ := cells2 (b3.below hY b3.lt)
    have hltV := b4.lt
    have hltV3 := b3.lt
    clear mk1 mk2
    go_wp2_with ((with_reducible refine at_copy ?_); refine copy_chg (B := V.heap.size) rfl (.tmp 13) (.tmp 15) rfl (V.heap.size + 1) k n1 c1 A1 r.1 rfl rfl ?d1 ?d2 ?_)
    any_goals first | with_reducible exact hB | with_reducible exact r1
    intro w1 hK hC1
    have bc1 : Below V.heap.size V w1 := hY.trans (hC1.below hYz (fun q hq => by subst hq; omega))
    have eT := hA.chg hC1 (by omega)
    have r2 := p2'.below bc1
    obtain ⟨x0, x1, _, _⟩ := cells2 (b3.below bc1 b3.lt)
    have hz1 := bc1.size
    clear r1 a0 a1 hA hB hC1 hY
    go_wp2_with ((with_reducible refine at_copy ?_); refine copy_chg (B := V.heap.size) rfl (.tmp 17) (.tmp 19) rfl (V.heap.size) t n2 c2 A2 r.2 rfl rfl ?d3 ?d4 ?_)
    any_goals first | with_reducible exact eT | with_reducible exact r2
    intro w2 hT hC2
    have bc2 : Below V.heap.size V w2 := bc1.trans (hC2.below hz1 (fun q hq => by subst hq; omega))
    have hK2 := hK.chg hC2 (by omega)
    have d4 := b4.below bc2 b4.lt
    have rK := (Rd.of_blk hK2).more hK2.lt
    have rT := (Rd.of_blk hT).more hT.lt
    rw [cutTo_len] at rK rT
    have hb2 := bstep hb0 bc2
    obtain ⟨y0, y1, f0, f1⟩ := cells2 d4
    clear x0 x1 eT r2 hC2 hK hK2 hT bc1 bc2
    go_wp2_with fail
    refine end_row (v := .agg #[.slice (some ⟨V.heap.size + 1, 0, none⟩) k k, .slice (some ⟨V.heap.size, 0, none⟩) t t]) d4 (by intro W e0 e1; simp [results, Try.results33, go_sem, e0, e1]) rfl fun W hl => ?_
    exact RowEnds.mk (hl.row rK d4 NoBytes.two) (hl.row rT d4 NoBytes.two) hk ht (hl.below _ _ (by omega) hb2)
end Go.Proofs.Ytaidbcppecoenaa

/- ElimPuts: what goes along with a round. -/
namespace Go.Proofs.Ytaidbcppecoenaa
open Go.RowKit
set_option linter.unusedVariables false
set_option maxRecDepth 100000

theorem OwnR.chg {P : Nat → Prop} {w w' : World} {B : Nat} {v : Value} {L : List RowL} (h : OwnR w B v L) (hc : Chg P w w') (hp : Byteless w P) (hd : ∀ g, some g = v.ownBlock → ¬ P g) : OwnR w' B v L := by
  obtain ⟨xs, h1, h2, h3⟩ := h
  refine ⟨xs, ⟨h1.1, ?_⟩, h2, fun i r hi => ?_⟩
  · rcases h1.2 with h4 | ⟨g, cap, cur, rfl, hg, hh, h5⟩
    · exact .inl h4
    · exact .inr ⟨g, cap, cur, rfl, hg, (hc.block g (Blk.lt hh) (hd g rfl)).trans hh, h5⟩
  · obtain ⟨A1, n1, c1, A2, n2, c2, e0, e1, hr⟩ := h3 i r hi
    exact ⟨A1, n1, c1, A2, n2, c2, e0, e1, hr.chg hc hp⟩
theorem Sys.not_row {w : World} {p k t B : Nat} {L d : List RowL} {v dv : Value} (h : Sys w p k t L v) (ho : OwnR w B dv d) : ∀ g, some g = dv.ownBlock → ¬ Its p v g := by
  intro g hg hI
  obtain ⟨h1, ⟨xs, h2, _⟩, _⟩ := h
  obtain ⟨ys, o1, _⟩ := ho
  rcases o1.2 with ⟨rfl, _⟩ | ⟨g2, cap, cur, rfl, _, hh, _⟩
  · simp [Value.ownBlock] at hg
  · simp [Value.ownBlock] at hg
    subst hg
    rcases hI with rfl | hI
    · have h1' : w.heap[g]? = _ := h1
      rw [hh] at h1'
      injection h1' with h3
      injection h3 with _ h3
      exact absurd h3 (by decide)
    · rcases h2.2.2 with ⟨rfl, _⟩ | ⟨R, cap2, rfl, _, _, h5⟩
      · simp [Value.ownBlock] at hI
      · simp [Value.ownBlock] at hI
        subst hI
        have h5' : w.heap[g]? = _ := h5
        rw [hh] at h5'
        injection h5' with h3
        injection h3 with _ h3
        exact absurd h3 (by decide)
/-- What goes along with a round: the system, the document's equations, the equation at hand. -/
def Bun (w : World) (p k t : Nat) (L : List RowL) (v dv : Value) (d : List RowL) (xb : Nat) (A1 : Option Addr) (n1 c1 : Nat) (A2 : Option Addr) (n2 c2 : Nat) (x : RowL) (W : World) : Prop :=
  Sys W p k t L v ∧ OwnR W w.heap.size dv d ∧ Blk W xb 54 #[.slice A1 n1 c1, .slice A2 n2 c2] ∧ RowIs W x (.agg #[.slice A1 n1 c1, .slice A2 n2 c2]) ∧ Below w.heap.size w W
section
variable {w W W' : World} {p k t xb n1 c1 n2 c2 : Nat} {L d : List RowL} {v dv : Value} {A1 A2 : Option Addr} {x : RowL}
theorem Bun.step (h : Bun w p k t L v dv d xb A1 n1 c1 A2 n2 c2 x W) (hb : Below W.heap.size W W') : Bun w p k t L v dv d xb A1 n1 c1 A2 n2 c2 x W' := by
  obtain ⟨h1, h2, h3, h4, h5⟩ := h
  exact ⟨h1.step hb, h2.step hb, h3.below hb h3.lt, h4.step hb, bstep h5 hb⟩
/-- Something changes that is neither of the system nor of what goes along. -/
theorem Bun.other {P : Nat → Prop} (h : Bun w p k t L v dv d xb A1 n1 c1 A2 n2 c2 x W) (hc : Chg P W W') (hp : Byteless W P) (h1 : ∀ q, Its p v q → ¬ P q) (h2 : ∀ g, some g = dv.ownBlock → ¬ P g) (h3 : ¬ P xb) (h4 : ∀ q, P q → w.heap.size ≤ q) : Bun w p k t L v dv d xb A1 n1 c1 A2 n2 c2 x W' := by
  obtain ⟨k1, k2, k3, k4, k5⟩ := h
  exact ⟨k1.chg hc hp h1, k2.chg hc hp h2, k3.chg hc h3, k4.chg hc hp, k5.trans (hc.below k5.size h4)⟩
/-- An equation is put into the system. -/
theorem Bun.put {L' : List RowL} {v' : Value} (h : Bun w p k t L v dv d xb A1 n1 c1 A2 n2 c2 x W) (hs : Sys W' p k t L' v') (hc : Chg (Its p v) W W') (h3 : ¬ Its p v xb) (h4 : ∀ q, Its p v q → w.heap.size ≤ q) : Bun w p k t L' v' dv d xb A1 n1 c1 A2 n2 c2 x W' := by
  obtain ⟨k1, k2, k3, k4, k5⟩ := h
  have hp := k1.byteless
  exact ⟨hs, k2.chg hc hp (k1.not_row k2), k3.chg hc h3, k4.chg hc hp, k5.trans (hc.below k5.size h4)⟩
end
/-! ### A system of full rank -/
theorem rising_range {l : List Nat} {k : Nat} (h : l.Pairwise (· < ·)) (hl : l.length = k) (hb : ∀ i ∈ l, i < k) : l = List.range k := by
  refine rising_eq h List.pairwise_lt_range fun i => ⟨fun hi => List.mem_range.2 (hb i hi), fun hi => ?_⟩
  refine Classical.byContradiction fun hn => ?_
  have hk := List.mem_range.1 hi
  have h1 := List.Nodup.length_le_of_subset (l₂ := (List.range k).erase i) (rising_nodup h) fun j hj => by
    refine (List.mem_erase_of_ne ?_).2 (List.mem_range.2 (hb j hj))
    rintro rfl
    exact hn hj
  rw [List.length_erase_of_mem hi, List.length_range, hl] at h1
  omega
theorem full_lead {k t n : Nat} {L : List RowL} (h : Good k t L) (hl : L.length = k) (hn : n < k) : leadI (L[n]?.getD ([], [])).1 = (n : Int) := by
  have h1 := rising_range (k := k) h.2.2 (by simp [leads, ledE, hl]) fun i hi => by
    obtain ⟨e, he, rfl⟩ := mem_leads.1 hi
    obtain ⟨r, hr, rfl⟩ := led_mem.1 he
    obtain ⟨z1, _, z3⟩ := h.1 r hr
    have := lead_bounds r.1
    simp only
    omega
  have h2 := congrArg (fun l => l[n]?) h1
  simp only [List.getElem?_range hn] at h2
  have hnl : n < L.length := by omega
  obtain ⟨_, _, z3⟩ := h.1 L[n] (List.getElem_mem hnl)
  rw [List.getElem?_eq_getElem hnl, Option.getD_some]
  have h3 : (leads (ledE L))[n]? = some (leadI L[n].1).toNat := by
    simp [leads, ledE, hnl]
  rw [h3] at h2
  injection h2 with h2
  omega
theorem full_known {k t n : Nat} {L : List RowL} (h : Good k t L) (hR : Red (ledE L)) (hl : L.length = k) (hn : n < k) : knownL L (n : Int) = some (L[n]?.getD ([], [])).2 := by
  have hnl : n < L.length := by omega
  have hlead := full_lead h hl hn
  rw [known_same h]
  unfold knownD
  have ht : tells (n : Int) (L[n]?.getD ([], [])) = true := by
    unfold tells
    rw [hlead, beq_self_eq_true, Bool.and_true, cnt_one hlead]
    unfold zeroB
    rw [List.all_eq_true]
    intro u hu
    obtain ⟨j, hj, rfl⟩ := List.getElem_of_mem hu
    rw [List.length_drop] at hj
    obtain ⟨z1, z2, _⟩ := suit_at h.1 hnl
    have hm : n + 1 + j < k := by omega
    have hlm := full_lead h hl hm
    have e1 : ((leadI (L[n]?.getD ([], [])).1).toNat, pt (L[n]?.getD ([], []))) ∈ ledE L := led_mem.2 ⟨_, by rw [List.getElem?_eq_getElem hnl]; exact List.getElem_mem hnl, rfl⟩
    have hml : n + 1 + j < L.length := by omega
    have e2 : ((leadI (L[n + 1 + j]?.getD ([], [])).1).toNat, pt (L[n + 1 + j]?.getD ([], []))) ∈ ledE L := led_mem.2 ⟨_, by rw [List.getElem?_eq_getElem hml]; exact List.getElem_mem hml, rfl⟩
    have h0 := hR.2 _ e1 _ e2 (by simp only [hlead, hlm, Int.toNat_natCast]; omega)
    simp only [hlm, Int.toNat_natCast] at h0
    have h0' : (L[n]?.getD ([], [])).1[n + 1 + j]?.getD 0 = 0 := h0
    rw [List.getElem?_eq_getElem (by omega), Option.getD_some] at h0'
    simpa using h0'
  have hno : (L.take n).find? (tells (n : Int)) = none := by
    rw [List.find?_eq_none]
    intro o ho
    obtain ⟨j, hj, rfl⟩ := List.getElem_of_mem ho
    rw [List.length_take] at hj
    have hjk : j < k := by omega
    have := full_lead h hl hjk
    rw [List.getElem?_eq_getElem (by omega), Option.getD_some] at this
    simp [tells, List.getElem_take, this]
    omega
  rw [find_take_some hnl hno ht]
  rfl
end Go.Proofs.Ytaidbcppecoenaa

