import Derived.Test.YthfbgcjfnpajjaaDoorNatC
import Derived.Shelf.Spec.BitsCarry
/- nat.Sub. -/
namespace Go.Proofs.YthfbgcjfnpajjaaDoor
open Go.RowKit
set_option linter.unusedVariables false
set_option maxRecDepth 100000

def subD (x y r : Nat) : Nat := (x + W64 - y - r) % W64
def subB (x y r : Nat) : Nat := if x < y + r then 1 else 0
theorem run_sub (x y r : Nat) (hr : r ≤ 1) (w : World) : (callFunc 37 #[.int .u64 (uv x), .int .u64 (uv y), .int .u64 (uv r)]).run Tryd.prog w =
    .ok (.value (.tuple #[.int .u64 (uv (subD x y r)), .int .u64 (uv (subB x y r))])) w := by
  rw [run_callFunc_extern Tryd.func37 (by kernel_rfl) (by kernel_rfl) (by kernel_rfl) (e := sub64Entry) (by kernel_rfl)]
  unfold uv
  rw [run_sub64 x y r hr]
  rfl
theorem sub_law {x y r : Nat} (hx : x < W64) (hy : y < W64) (hr : r ≤ 1) : subD x y r < W64 ∧ subB x y r ≤ 1 ∧ subD x y r + y + r = x + subB x y r * W64 := by
  unfold subD subB
  have hp := W64_pos
  by_cases h : x < y + r
  · rw [if_pos h, Nat.mod_eq_of_lt (by omega)]; omega
  · rw [if_neg h, show x + W64 - y - r = (x - y - r) + W64 by omega, Nat.add_mod_right, Nat.mod_eq_of_lt (by omega)]; omega
/-- So far the words of a difference, and what is borrowed. -/
def SubTo (a b : List Nat) (i : Nat) (L : List Nat) (r : Nat) : Prop := L.length = i ∧ Below' W64 L ∧ r ≤ 1 ∧ num W64 L + num W64 (b.take i) = num W64 (a.take i) + r * W64 ^ i
theorem SubTo.start (a b : List Nat) : SubTo a b 0 [] 0 := ⟨rfl, (fun x hx => absurd hx (by simp)), by omega, by simp [num_nil]⟩
theorem SubTo.next {a b L : List Nat} {i r : Nat} (h : SubTo a b i L r) (ha : Below' W64 a) (hb : Below' W64 b) : SubTo a b (i + 1) (L ++ [subD (dg a i) (dg b i) r]) (subB (dg a i) (dg b i) r) := by
  obtain ⟨h1, h2, h3, h4⟩ := h
  obtain ⟨l1, l2, l3⟩ := sub_law (dg_lt W64_pos ha i) (dg_lt W64_pos hb i) h3
  refine ⟨by simp [h1], below_snoc h2 l1, l2, ?_⟩
  rw [num_snoc, num_take, num_take, h1, Nat.pow_succ]
  have e := congrArg (· * W64 ^ i) l3
  simp only [Nat.add_mul] at e
  rw [Nat.mul_assoc, Nat.mul_comm W64] at e
  omega
theorem SubTo.done {a b L : List Nat} {n r : Nat} (h : SubTo a b n L r) (ha : a.length = n) (hb : b.length ≤ n) (hle : num W64 b ≤ num W64 a) : num W64 L = num W64 a - num W64 b := by
  obtain ⟨h1, h2, h3, h4⟩ := h
  rw [num_all W64 (by omega), num_all W64 (by omega)] at h4
  have h5 := num_lt h2
  rw [h1] at h5
  have h6 : r = 0 ∨ r = 1 := by omega
  rcases h6 with rfl | rfl <;> omega
theorem len_le {a b : List Nat} (ha : Below' W64 a) (hb : Canon b) (h : num W64 b ≤ num W64 a) : b.length ≤ a.length := by
  refine Nat.le_of_not_lt fun hl => ?_
  have := len_lt W64_pos ha hb hl
  omega
/-- What is held of the world while a place of the difference is reckoned. -/
def SubHeld (wr : World) (S g i : Nat) (A A2 : Option Addr) (n n2 c c2 : Nat) (p : Addr) (x : Nat) (w' : World) : Prop :=
  wr.grownBy w' (some g) ∧ w'.cell? ⟨S, 0, none⟩ = some (.slice A n c) ∧ w'.cell? ⟨S + 1, 0, none⟩ = some (.slice A2 n2 c2) ∧ w'.cell? p = some (.int .u64 (uv x)) ∧ w'.cell? ⟨g, i, none⟩ = some (valAt w' ⟨g, i, none⟩) ∧ w'.frozen? ⟨g, i, none⟩ = false ∧ g < w'.heap.size
theorem blk_size {w w' : World} {g : Nat} {t : TypeId} {cs : Array Value} (h : Blk w g t cs) (hb : Below w.heap.size w w') : Blk w' g t cs := h.below hb h.lt
set_option maxHeartbeats 2000000 in
theorem sub_walk {A A2 : Option Addr} {n n2 c c2 : Nat} {a b : List Nat} {w : World} (h : Wd w w.heap.size A n a) (h2 : Wd w w.heap.size A2 n2 b) (ha : Canon a) (hb : Canon b) (hn : n ≤ 512) (hn2 : n2 ≤ 512) (hle : num W64 b ≤ num W64 a) :
    Calls Tryd.prog 22 #[.agg #[.slice A n c], .agg #[.slice A2 n2 c2]] w (GivesPair (num W64 a - num W64 b) w) := by
  have Hla := Lib.hid h.len
  have Hlb := Lib.hid h2.len
  have Hta := Lib.hid h.lts
  have Htb := Lib.hid h2.lts
  have hN : NatIs w w.heap.size (.agg #[.slice A n c]) (num W64 a) := ⟨A, n, c, a, rfl, h, ha, rfl, hn⟩
  have hM : NatIs w w.heap.size (.agg #[.slice A2 n2 c2]) (num W64 b) := ⟨A2, n2, c2, b, rfl, h2, hb, rfl, hn2⟩
  have Hlt := Lib.hid hN.lt
  have Hbl := Lib.hid (len_le Hta.out hb hle)
  have hA := balloc w (.cells #[.slice A n c] 27)
  have hAB := bstep hA (balloc _ (.cells #[.slice A2 n2 c2] 27))
  have hABR := bstep hAB (balloc _ (.cells #[.slice none 0 0] 27))
  have gA := ((Blk.new w 27 #[.slice A n c]).alloc (.cells #[.slice A2 n2 c2] 27)).alloc (.cells #[.slice none 0 0] 27)
  have gB := (Blk.new (w.alloc (.cells #[.slice A n c] 27)) 27 #[.slice A2 n2 c2]).alloc (.cells #[.slice none 0 0] 27)
  have gR := Blk.new ((w.alloc (.cells #[.slice A n c] 27)).alloc (.cells #[.slice A2 n2 c2] 27)) 27 #[.slice none 0 0]
  have hC := cmp_any (hN.step hABR) (hM.step hABR)
  have hcm : cmpN (num W64 a) (num W64 b) = 0 ∨ cmpN (num W64 a) (num W64 b) = 1 := by
    by_cases e : num W64 b = num W64 a
    · rw [e, cmpN_eq]; exact .inl rfl
    · rw [cmpN_gt (by omega)]; exact .inr rfl
  have hcm0 : 0 ≤ cmpN (num W64 a) (num W64 b) := by omega
  have hcm1 : cmpN (num W64 a) (num W64 b) ≤ 1 := by omega
  simp only [World.size_alloc] at gB gR
  have HGA := Lib.hid gA
  have HGB := Lib.hid gB
  have HGR := Lib.hid gR
  have HLE := Lib.hid hle
  clear hN hM hA hAB gA gB gR hcm ha hb hle
  generalize cmpN (num W64 a) (num W64 b) = cm at *
  go_enter Tryd.func22, Tryd.ntmps22
  go_wp2_with fail
  refine hC.mono ?_
  rintro e w1 ⟨rfl, b1⟩
  have k1 := bstep hABR b1
  have gA := HGA.out.below b1 HGA.out.lt
  have gB := HGB.out.below b1 HGB.out.lt
  have gR := HGR.out.below b1 HGR.out.lt
  have hsz := gR.lt
  have hszA := gA.lt
  have hszB := gB.lt
  obtain ⟨zA, _⟩ := blk_cell gA
  have hmk := make_words n (by omega) w1
  have HA := Lib.hid gA
  have HBB := Lib.hid gB
  have HR := Lib.hid gR
  clear hC hABR HGA HGB HGR b1 gA gB gR
  go_wp2_with fail
  clear hmk zA
  have hL := Lib.hid (Blk.new w1 22 (uvs (noughts n)).toArray)
  have HA0 := Lib.hid (HA.out.alloc (.cells (uvs (noughts n)).toArray 22))
  have HB0 := Lib.hid (HBB.out.alloc (.cells (uvs (noughts n)).toArray 22))
  have HR0 := Lib.hid (HR.out.alloc (.cells (uvs (noughts n)).toArray 22))
  have k0 := bstep k1 (balloc w1 (.cells (uvs (noughts n)).toArray 22))
  clear HA HBB HR k1
  generalize w1.alloc (.cells (uvs (noughts n)).toArray 22) = W0 at *
  generalize w1.heap.size = g at *
  have Hst := Lib.hid (SubTo.start a b)
  go_loopw [7, 21] (fun r k wr => ∃ i q L, i ≤ n ∧ k = .int .i64 ((i : Nat) : Int) ∧ r = .int .u64 (uv q) ∧ Hid (SubTo a b i L q) ∧ Hid (Blk wr w.heap.size 27 #[.slice A n c]) ∧ Hid (Blk wr (w.heap.size + 1) 27 #[.slice A2 n2 c2]) ∧ Hid (Blk wr (w.heap.size + 1 + 1) 27 #[.slice none 0 0]) ∧ Hid (Blk wr g 22 (uvs (L ++ noughts (n - i))).toArray) ∧ Below w.heap.size w wr) (fun _ k _ => n - (intOf k).toNat)
  case atStart => exact ⟨0, 0, [], by omega, rfl, rfl, Hst, HA0, HB0, HR0, hL, k0⟩
  case round =>
    clear HA0 HB0 HR0 hL k0 Hst
    obtain ⟨i, q, L, hi, rfl, rfl, HS, HA, HBB, HR, HL, hb⟩ := hrel
    have hgsz := HL.out.lt
    by_cases hlt2 : i < n
    · have hq := HS.out.2.2.1
      obtain ⟨b1, o1, rfl, hb1, hc1⟩ := (h.below hb).at_ hlt2
      have WB := fun X (hX : Below wr.heap.size wr X) => word_any (c := c2) i (h2.below (bstep hb hX)) (bstep hb hX).size (by omega) (by omega)
      have hsub := run_sub (dg a i) (dg b i) q hq
      have zA := (blk_cell HA.out).1
      have zB := (blk_cell HBB.out).1
      have hfz := HL.out.frozen i
      have hbi : (i : Int) < (n : Int) := by omega
      have hcl : wr.cell? ⟨g, i, none⟩ = some (.int .u64 (uv 0)) := by
        rw [HL.out.cell i]
        have hlen := HS.out.1
        have := uvs_get (L ++ noughts (n - i)) i 0 (by rw [List.getElem?_append_right (by omega), hlen, Nat.sub_self, noughts, List.getElem?_replicate, if_pos (by omega)])
        simpa using this
      have hnx := Lib.hid (HS.out.next Hta.out Htb.out)
      have hset := Lib.hid (fun y => noughts_set (L := L) (m := n) (k := i) y HS.out.1 (by omega))
      generalize hx0 : dg a i = x0 at *
      generalize subD x0 (dg b i) q = s at *
      generalize subB x0 (dg b i) q = q2 at *
      have hix : i < (uvs (L ++ noughts (n - i))).toArray.size := by
        have := HS.out.1
        simp [uvs_length, noughts_length]; omega
      have HK : Hid (∀ w', Below wr.heap.size wr w' → SubHeld wr w.heap.size g i (some ⟨b1, o1, none⟩) A2 n n2 c c2 ⟨b1, o1 + i, none⟩ x0 w') := Lib.hid fun w' hX =>
        ⟨grown_of_below hX _, (blk_cell (blk_size HA.out hX)).1, (blk_cell (blk_size HBB.out hX)).1, (hX.cell (p := ⟨b1, o1 + i, none⟩) (Nat.lt_of_lt_of_le hb1 hb.size)).trans hc1, valAt_of ((hX.cell (p := ⟨g, i, none⟩) hgsz).trans hcl), (blk_size HL.out hX).frozen i, (blk_size HL.out hX).lt⟩
      have HK2 : Hid (∀ w' y, Below wr.heap.size wr w' → SubHeld wr w.heap.size g i (some ⟨b1, o1, none⟩) A2 n n2 c c2 ⟨b1, o1 + i, none⟩ x0 (w'.setCell ⟨g, i, none⟩ y)) := Lib.hid fun w' y hX =>
        ⟨grown_setCell (grown_of_below hX _) _, (blk_cell ((blk_size HA.out hX).far (by simp; omega) _)).1, (blk_cell ((blk_size HBB.out hX).far (by simp; omega) _)).1, ((World.cell?_of_block (Below.heap_setCell w' ⟨g, i, none⟩ y b1 (by simp; omega))).trans (hX.cell (p := ⟨b1, o1 + i, none⟩) (Nat.lt_of_lt_of_le hb1 hb.size))).trans hc1, valAt_of (setCell_own (blk_size HL.out hX) hix _), ((blk_size HL.out hX).set i y).frozen i, by rw [size_setCell']; exact (blk_size HL.out hX).lt⟩
      unfold SubHeld at HK HK2
      clear hx0
      go_wp2_with fail
      go_region_held3 (fun w' => wr.grownBy w' (some g) ∧ w'.cell? ⟨w.heap.size, 0, none⟩ = some (.slice (some ⟨b1, o1, none⟩) n c) ∧ w'.cell? ⟨w.heap.size + 1, 0, none⟩ = some (.slice A2 n2 c2) ∧ w'.cell? ⟨b1, o1 + i, none⟩ = some (.int .u64 (uv x0)) ∧ w'.cell? ⟨g, i, none⟩ = some (valAt w' ⟨g, i, none⟩) ∧ w'.frozen? ⟨g, i, none⟩ = false ∧ g < w'.heap.size)
        ((first | exact HK.out _ (Below.refl _ _).drew | exact HK.out _ (And.left ‹Below wr.heap.size wr _ ∧ True›) | exact HK2.out _ _ (And.left ‹Below wr.heap.size wr _ ∧ True›)))
        (first
          | (go_at_call 38; (with_reducible refine (WB _ (Below.refl _ _).drew).mono ?_); rintro e w4 ⟨rfl, b4⟩; have kB := And.intro (bstep (Below.refl wr.heap.size wr).drew b4) trivial))
      have kE := (And.left ‹Below wr.heap.size wr w4 ∧ True›)
      have GA := Lib.hid ((blk_size HA.out kE).far (p := ⟨g, i, none⟩) (by simp; omega) (.int .u64 (uv s)))
      have GB := Lib.hid ((blk_size HBB.out kE).far (p := ⟨g, i, none⟩) (by simp; omega) (.int .u64 (uv s)))
      have GR := Lib.hid ((blk_size HR.out kE).far (p := ⟨g, i, none⟩) (by simp; omega) (.int .u64 (uv s)))
      have gL := (blk_size HL.out kE).set i (.int .u64 (uv s))
      rw [uvs_set, hset.out] at gL
      have GL := Lib.hid gL
      have kW := (bstep hb kE).setCell (p := ⟨g, i, none⟩) (by simp; omega) (.int .u64 (uv s))
      clear gL HK HK2 WB
      go_wp2_with fail
      go_roundw
      case rel => exact ⟨i + 1, q2, L ++ [s], by omega, by go_num, rfl, hnx, GA, GB, GR, GL, kW⟩
      case measure => simp [intOf]; omega
    · obtain rfl : n = i := by omega
      have hd := HS.out.done Hla.out (by have := Hbl.out; rw [Hla.out] at this; exact this) HLE.out
      have hW := Wd.of_blk HL.out (by
        intro x hx
        rcases List.mem_append.1 hx with h1 | h1
        · exact HS.out.2.1 x h1
        · exact noughts_lt _ x h1)
      have hnum : num W64 (L ++ noughts (n - n)) = num W64 a - num W64 b := by
        rw [Nat.sub_self, show noughts 0 = [] from rfl, List.append_nil, hd]
      have hlen : (L ++ noughts (n - n)).length = n := by rw [List.length_append, HS.out.1, noughts_length]; omega
      rw [hlen] at hW
      have C := bounded_ok (c := n) hW hgsz (Nat.le_refl _) (by omega) (by rw [hnum]; exact Nat.lt_of_le_of_lt (Nat.sub_le _ _) Hlt.out)
      rw [hnum] at C
      clear hd hW hnum hlen
      go_wp2_with fail
      refine C.mono ?_
      rintro e w2 ⟨v, rfl, hv, b2⟩
      have hR2 := blk_size HR.out b2
      have kb := bstep hb b2
      obtain ⟨A3, n3, c3, ws3, rfl, w3⟩ := hv
      obtain ⟨z0, z1⟩ := blk_cell hR2
      have hlt3 := hR2.lt
      clear C
      go_wp2_with fail
      have hR3 := blk_one (y := .slice A3 n3 c3) hR2
      obtain ⟨y0, y1⟩ := blk_cell hR3
      refine bodyPost_ret (v := .tuple #[.agg #[.slice A3 n3 c3], .int .i64 0]) (by simp [results, Tryd.results22, go_sem, y0]) rfl ?_
      have hv : NatIs w2 w2.heap.size (.agg #[.slice A3 n3 c3]) (num W64 a - num W64 b) := ⟨A3, n3, c3, ws3, rfl, w3⟩
      exact ⟨_, rfl, (hv.set hR2).more (by rw [size_setCell']; exact Nat.le_refl _), kb.setCell (by simp; omega) _⟩
end Go.Proofs.YthfbgcjfnpajjaaDoor
