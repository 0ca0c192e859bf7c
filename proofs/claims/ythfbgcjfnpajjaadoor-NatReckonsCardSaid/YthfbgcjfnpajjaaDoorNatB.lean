import Derived.Test.YthfbgcjfnpajjaaDoorNat
import Derived.Laws.Externs
import Derived.Deep.DeepCutAuto
import Derived.Deep.CutRange
/- nat.plus, nat.times, nat.Sub's words. -/
namespace Go.Proofs.YthfbgcjfnpajjaaDoor
open Go.RowKit
set_option linter.unusedVariables false
set_option maxRecDepth 100000

theorem noughts_set {L : List Nat} {m k : Nat} (y : Nat) (hL : L.length = k) (hk : k < m) : (L ++ noughts (m - k)).set k y = (L ++ [y]) ++ noughts (m - (k + 1)) := by
  subst hL
  rw [List.set_append_right _ _ (Nat.le_refl _), Nat.sub_self]
  obtain ⟨j, hj⟩ : ∃ j, m - L.length = j + 1 := ⟨m - L.length - 1, by omega⟩
  rw [hj, show m - (L.length + 1) = j by omega]
  simp [noughts, List.replicate_succ]
/-! ### bits.Add64, as the walk meets it -/
theorem run_add (x y c : Nat) (hc : c ≤ 1) (w : World) : (callFunc 47 #[.int .u64 (uv x), .int .u64 (uv y), .int .u64 (uv c)]).run Tryd.prog w =
    .ok (.value (.tuple #[.int .u64 (uv ((x + y + c) % W64)), .int .u64 (uv ((x + y + c) / W64))])) w := by
  rw [run_callFunc_extern Tryd.func47 (by kernel_rfl) (by kernel_rfl) (by kernel_rfl) (e := add64Entry) (by kernel_rfl)]
  unfold uv
  rw [run_add64 x y c (by omega) (by omega) (by omega) (by omega)]
  simp only [Result.andThen, W64]
  congr 5 <;> omega
/-- So far the words of a sum, and what is carried. -/
def SumTo (a b : List Nat) (i : Nat) (L : List Nat) (c : Nat) : Prop := L.length = i ∧ Below' W64 L ∧ c ≤ 1 ∧ num W64 L + c * W64 ^ i = num W64 (a.take i) + num W64 (b.take i)
theorem SumTo.start (a b : List Nat) : SumTo a b 0 [] 0 := ⟨rfl, (fun x hx => absurd hx (by simp)), by omega, by simp [num_nil]⟩
theorem carry_step (x y c β P : Nat) : (x + y + c) % β * P + (x + y + c) / β * (P * β) = x * P + y * P + c * P := by
  have h := Nat.mod_add_div (x + y + c) β
  rw [Nat.mul_comm P β, ← Nat.mul_assoc, ← Nat.add_mul, Nat.mul_comm _ β, h, Nat.add_mul, Nat.add_mul]
theorem SumTo.next {a b L : List Nat} {i c : Nat} (h : SumTo a b i L c) (ha : Below' W64 a) (hb : Below' W64 b) : SumTo a b (i + 1) (L ++ [(dg a i + dg b i + c) % W64]) ((dg a i + dg b i + c) / W64) := by
  obtain ⟨h1, h2, h3, h4⟩ := h
  have hx := dg_lt W64_pos ha i
  have hy := dg_lt W64_pos hb i
  refine ⟨by simp [h1], below_snoc h2 (Nat.mod_lt _ W64_pos), ?_, ?_⟩
  · have : (dg a i + dg b i + c) < W64 * 2 := by omega
    have := Nat.div_lt_of_lt_mul this
    omega
  · rw [num_snoc, num_take, num_take, h1, Nat.pow_succ]
    have := carry_step (dg a i) (dg b i) c W64 (W64 ^ i)
    omega
/-- What a cell holds. (Behind a name, so that the walk leaves it as it stands.) -/
def valAt (w : World) (p : Addr) : Value := (w.cell? p).getD undef
theorem valAt_of {w : World} {p : Addr} {v : Value} (h : w.cell? p = some v) : w.cell? p = some (valAt w p) := by unfold valAt; rw [h]; rfl
theorem setCell_own {w : World} {g i : Nat} {t : TypeId} {cs : Array Value} (h : Blk w g t cs) (hi : i < cs.size) (y : Value) : (w.setCell ⟨g, i, none⟩ y).cell? ⟨g, i, none⟩ = some y := by
  rw [(h.set i y).cell i]
  simp [hi]
/-- What is held of the world while a place of the sum is reckoned. -/
def PlusHeld (wr : World) (B i : Nat) (A A2 : Option Addr) (n n2 c c2 : Nat) (w' : World) : Prop :=
  wr.grownBy w' (some (B + 1 + 1)) ∧ w'.cell? ⟨B, 0, none⟩ = some (.slice A n c) ∧ w'.cell? ⟨B + 1, 0, none⟩ = some (.slice A2 n2 c2) ∧ w'.cell? ⟨B + 1 + 1, i, none⟩ = some (valAt w' ⟨B + 1 + 1, i, none⟩) ∧ w'.frozen? ⟨B + 1 + 1, i, none⟩ = false ∧ B + 1 + 1 < w'.heap.size
/-- What 'plus' gives: the words of a sum, one more than the longer one has. -/
def PlusSays (a b : List Nat) (m : Nat) (w : World) (e : Ending) (w' : World) : Prop :=
  ∃ g R, e = .returned (.slice (some ⟨g, 0, none⟩) (m + 1) (m + 1)) ∧ Blk w' g 22 (uvs R).toArray ∧ R.length = m + 1 ∧ Below' W64 R ∧ num W64 R = num W64 a + num W64 b ∧ Below w.heap.size w w'
set_option maxHeartbeats 1000000 in
theorem plus_less {B B2 : Nat} {A A2 : Option Addr} {n c c2 : Nat} {a b : List Nat} {w : World} (m : Nat) (h : Wd w B A n a) (h2 : Wd w B2 A2 m b) (hB : B ≤ w.heap.size) (hB2 : B2 ≤ w.heap.size) (hm3 : m ≤ 512) (hlt : n < m) :
    Calls Tryd.prog 35 #[.agg #[.slice A n c], .agg #[.slice A2 m c2]] w (PlusSays a b m w) := by
  have Ha := Lib.hid h.lts
  have Hb := Lib.hid h2.lts
  have Hla := Lib.hid h.len
  have Hlb := Lib.hid h2.len
  have hA := balloc w (.cells #[.slice A n c] 27)
  have hAB := bstep hA (balloc _ (.cells #[.slice A2 m c2] 27))
  have gA := (Blk.new w 27 #[.slice A n c]).alloc (.cells #[.slice A2 m c2] 27)
  have gB := Blk.new (w.alloc (.cells #[.slice A n c] 27)) 27 #[.slice A2 m c2]
  rw [World.size_alloc] at gB
  have hmk := fun X => make_words (m + 1) (by omega) X
  have e1 : ((m + 1 : Nat) : Int) = (m : Int) + 1 := by omega
  rw [e1] at hmk
  clear e1
  replace hmk := hmk ((w.alloc (.cells #[.slice A n c] 27)).alloc (.cells #[.slice A2 m c2] 27))
  have hL := Blk.new ((w.alloc (.cells #[.slice A n c] 27)).alloc (.cells #[.slice A2 m c2] 27)) 22 (uvs (noughts (m + 1))).toArray
  have gA' := gA.alloc (.cells (uvs (noughts (m + 1))).toArray 22)
  have gB' := gB.alloc (.cells (uvs (noughts (m + 1))).toArray 22)
  have hbel := bstep hAB (balloc _ (.cells (uvs (noughts (m + 1))).toArray 22))
  simp only [World.size_alloc] at hmk hL
  have HA := Lib.hid gA'
  have HBB := Lib.hid gB'
  have HL := Lib.hid hL
  clear gA gB gA' gB' hL hA hAB
  go_enter Tryd.func35, Tryd.ntmps35
  go_wp2_with fail
  clear hmk
  generalize ((w.alloc (.cells #[.slice A n c] 27)).alloc (.cells #[.slice A2 m c2] 27)).alloc (.cells (uvs (noughts (m + 1))).toArray 22) = W0 at *
  have Hst := Lib.hid (SumTo.start a b)
  go_loopw [7, 20] (fun r k wr => ∃ i q L, i ≤ m ∧ k = .int .i64 ((i : Nat) : Int) ∧ r = .int .u64 (uv q) ∧ Hid (SumTo a b i L q) ∧ Hid (Blk wr w.heap.size 27 #[.slice A n c]) ∧ Hid (Blk wr (w.heap.size + 1) 27 #[.slice A2 m c2]) ∧ Hid (Blk wr (w.heap.size + 1 + 1) 22 (uvs (L ++ noughts (m + 1 - i))).toArray) ∧ Below w.heap.size w wr) (fun _ k _ => m - (intOf k).toNat)
  case atStart => exact ⟨0, 0, [], by omega, rfl, rfl, Hst, HA, HBB, HL, hbel⟩
  case round =>
    clear HA HBB HL hbel Hst
    obtain ⟨i, q, L, hi, rfl, rfl, HS, HA, HBB, HL, hb⟩ := hrel
    have hsz := HL.out.lt
    by_cases hlt2 : i < m
    · have hq := HS.out.2.2.1
      have WA := fun X (hX : Below wr.heap.size wr X) => word_any (c := c) i (h.below ((bstep hb hX).mono hB)) (Nat.le_trans hB (bstep hb hX).size) (by omega) (by omega)
      have WB := fun X (hX : Below wr.heap.size wr X) => word_any (c := c2) i (h2.below ((bstep hb hX).mono hB2)) (Nat.le_trans hB2 (bstep hb hX).size) (by omega) (by omega)
      have hadd := run_add (dg a i) (dg b i) q hq
      have zA := (blk_cell HA.out).1
      have zB := (blk_cell HBB.out).1
      have hfz := HL.out.frozen i
      have hcl : wr.cell? ⟨w.heap.size + 1 + 1, i, none⟩ = some (.int .u64 (uv 0)) := by
        rw [HL.out.cell i]
        have hlen := HS.out.1
        have := uvs_get (L ++ noughts (m + 1 - i)) i 0 (by rw [List.getElem?_append_right (by omega), hlen, Nat.sub_self, noughts, List.getElem?_replicate, if_pos (by omega)])
        simpa using this
      have hnx := Lib.hid (HS.out.next Ha.out Hb.out)
      have hset := Lib.hid (fun y => noughts_set (L := L) (m := m + 1) (k := i) y HS.out.1 (by omega))
      generalize (dg a i + dg b i + q) % W64 = s at *
      generalize (dg a i + dg b i + q) / W64 = q2 at *
      have hix : i < (uvs (L ++ noughts (m + 1 - i))).toArray.size := by
        have := HS.out.1
        simp [uvs_length, noughts_length]; omega
      have HK : Hid (∀ w', Below wr.heap.size wr w' → PlusHeld wr w.heap.size i A A2 n m c c2 w') := Lib.hid fun w' hX =>
        ⟨grown_of_below hX _, (blk_cell (HA.out.below hX HA.out.lt)).1, (blk_cell (HBB.out.below hX HBB.out.lt)).1, valAt_of ((hX.cell (p := ⟨w.heap.size + 1 + 1, i, none⟩) HL.out.lt).trans hcl), (HL.out.below hX HL.out.lt).frozen i, (HL.out.below hX HL.out.lt).lt⟩
      have HK2 : Hid (∀ w' y, Below wr.heap.size wr w' → PlusHeld wr w.heap.size i A A2 n m c c2 (w'.setCell ⟨w.heap.size + 1 + 1, i, none⟩ y)) := Lib.hid fun w' y hX =>
        ⟨grown_setCell (grown_of_below hX _) _, (blk_cell ((HA.out.below hX HA.out.lt).far (by simp; omega) _)).1, (blk_cell ((HBB.out.below hX HBB.out.lt).far (by simp) _)).1, valAt_of (setCell_own (HL.out.below hX HL.out.lt) hix _), ((HL.out.below hX HL.out.lt).set i y).frozen i, by rw [size_setCell']; exact (HL.out.below hX HL.out.lt).lt⟩
      unfold PlusHeld at HK HK2
      have hbi : (i : Int) < (m : Int) + 1 := by omega
      go_wp2_with fail
      go_region_held3 (fun w' => wr.grownBy w' (some (w.heap.size + 1 + 1)) ∧ w'.cell? ⟨w.heap.size, 0, none⟩ = some (.slice A n c) ∧ w'.cell? ⟨w.heap.size + 1, 0, none⟩ = some (.slice A2 m c2) ∧ w'.cell? ⟨w.heap.size + 1 + 1, i, none⟩ = some (valAt w' ⟨w.heap.size + 1 + 1, i, none⟩) ∧ w'.frozen? ⟨w.heap.size + 1 + 1, i, none⟩ = false ∧ w.heap.size + 1 + 1 < w'.heap.size)
        ((first | exact HK.out _ (Below.refl _ _).drew | exact HK.out _ (And.left ‹Below wr.heap.size wr _ ∧ True›) | exact HK2.out _ _ (And.left ‹Below wr.heap.size wr _ ∧ True›)))
        (first
          | (go_at_call 38; (with_reducible refine (WA _ (Below.refl _ _).drew).mono ?_); rintro e w4 ⟨rfl, b4⟩; have kB := And.intro (bstep (Below.refl wr.heap.size wr).drew b4) trivial)
          | (go_at_call 38; (with_reducible refine (WB _ (And.left ‹Below wr.heap.size wr _ ∧ True›)).mono ?_); rintro e w4 ⟨rfl, b4⟩; have kB := And.intro (bstep (And.left ‹Below wr.heap.size wr _ ∧ True›) b4) trivial))
      have kE := (And.left ‹Below wr.heap.size wr w4 ∧ True›)
      have gA := HA.out.below kE HA.out.lt
      have gB := HBB.out.below kE HBB.out.lt
      have gL := (HL.out.below kE HL.out.lt).set i (.int .u64 (uv s))
      rw [uvs_set, hset.out] at gL
      have GA := Lib.hid (gA.far (p := ⟨w.heap.size + 1 + 1, i, none⟩) (by simp; omega) (.int .u64 (uv s)))
      have GB := Lib.hid (gB.far (p := ⟨w.heap.size + 1 + 1, i, none⟩) (by simp) (.int .u64 (uv s)))
      have GL := Lib.hid gL
      have kW := (bstep hb kE).setCell (p := ⟨w.heap.size + 1 + 1, i, none⟩) (by simp; omega) (.int .u64 (uv s))
      clear gA gB gL HK HK2 WA WB
      go_wp2_with fail
      go_roundw
      case rel => exact ⟨i + 1, q2, L ++ [s], by omega, by go_num, rfl, hnx, GA, GB, GL, kW⟩
      case measure => simp [intOf]; omega
    · obtain rfl : i = m := by omega
      have hfz := HL.out.frozen i
      have hlen := HS.out.1
      have hcl : wr.cell? ⟨w.heap.size + 1 + 1, i, none⟩ = some (.int .u64 (uv 0)) := by
        rw [HL.out.cell i]
        have := uvs_get (L ++ noughts (i + 1 - i)) i 0 (by rw [List.getElem?_append_right (by omega), hlen, Nat.sub_self, noughts, List.getElem?_replicate, if_pos (by omega)])
        simpa using this
      clear hlen
      go_wp2_with fail
      go_ret
      refine ⟨w.heap.size + 1 + 1, L ++ [q], rfl, ?_, ?_, ?_, ?_, hb.setCell (by simp; omega) _⟩
      · have := HL.out.set i (.int .u64 (uv q))
        rw [uvs_set, noughts_set q HS.out.1 (by omega), Nat.sub_self] at this
        simpa [noughts] using this
      · simp [HS.out.1]
      · exact below_snoc HS.out.2.1 (by have := HS.out.2.2.1; unfold W64; omega)
      · have := HS.out.2.2.2
        rw [num_snoc, HS.out.1, this, num_all W64 (by rw [Hla.out]; omega), num_all W64 (by rw [Hlb.out]; omega)]
set_option maxHeartbeats 1000000 in
theorem plus_more {B B2 : Nat} {A A2 : Option Addr} {n2 c c2 : Nat} {a b : List Nat} {w : World} (m : Nat) (h : Wd w B A m a) (h2 : Wd w B2 A2 n2 b) (hB : B ≤ w.heap.size) (hB2 : B2 ≤ w.heap.size) (hm3 : m ≤ 512) (hlt : ¬ m < n2) :
    Calls Tryd.prog 35 #[.agg #[.slice A m c], .agg #[.slice A2 n2 c2]] w (PlusSays a b m w) := by
  have Ha := Lib.hid h.lts
  have Hb := Lib.hid h2.lts
  have Hla := Lib.hid h.len
  have Hlb := Lib.hid h2.len
  have hA := balloc w (.cells #[.slice A m c] 27)
  have hAB := bstep hA (balloc _ (.cells #[.slice A2 n2 c2] 27))
  have gA := (Blk.new w 27 #[.slice A m c]).alloc (.cells #[.slice A2 n2 c2] 27)
  have gB := Blk.new (w.alloc (.cells #[.slice A m c] 27)) 27 #[.slice A2 n2 c2]
  rw [World.size_alloc] at gB
  have hmk := fun X => make_words (m + 1) (by omega) X
  have e1 : ((m + 1 : Nat) : Int) = (m : Int) + 1 := by omega
  rw [e1] at hmk
  clear e1
  replace hmk := hmk ((w.alloc (.cells #[.slice A m c] 27)).alloc (.cells #[.slice A2 n2 c2] 27))
  have hL := Blk.new ((w.alloc (.cells #[.slice A m c] 27)).alloc (.cells #[.slice A2 n2 c2] 27)) 22 (uvs (noughts (m + 1))).toArray
  have gA' := gA.alloc (.cells (uvs (noughts (m + 1))).toArray 22)
  have gB' := gB.alloc (.cells (uvs (noughts (m + 1))).toArray 22)
  have hbel := bstep hAB (balloc _ (.cells (uvs (noughts (m + 1))).toArray 22))
  simp only [World.size_alloc] at hmk hL
  have HA := Lib.hid gA'
  have HBB := Lib.hid gB'
  have HL := Lib.hid hL
  clear gA gB gA' gB' hL hA hAB
  go_enter Tryd.func35, Tryd.ntmps35
  go_wp2_with fail
  clear hmk
  generalize ((w.alloc (.cells #[.slice A m c] 27)).alloc (.cells #[.slice A2 n2 c2] 27)).alloc (.cells (uvs (noughts (m + 1))).toArray 22) = W0 at *
  have Hst := Lib.hid (SumTo.start a b)
  go_loopw [7, 20] (fun r k wr => ∃ i q L, i ≤ m ∧ k = .int .i64 ((i : Nat) : Int) ∧ r = .int .u64 (uv q) ∧ Hid (SumTo a b i L q) ∧ Hid (Blk wr w.heap.size 27 #[.slice A m c]) ∧ Hid (Blk wr (w.heap.size + 1) 27 #[.slice A2 n2 c2]) ∧ Hid (Blk wr (w.heap.size + 1 + 1) 22 (uvs (L ++ noughts (m + 1 - i))).toArray) ∧ Below w.heap.size w wr) (fun _ k _ => m - (intOf k).toNat)
  case atStart => exact ⟨0, 0, [], by omega, rfl, rfl, Hst, HA, HBB, HL, hbel⟩
  case round =>
    clear HA HBB HL hbel Hst
    obtain ⟨i, q, L, hi, rfl, rfl, HS, HA, HBB, HL, hb⟩ := hrel
    have hsz := HL.out.lt
    by_cases hlt2 : i < m
    · have hq := HS.out.2.2.1
      have WA := fun X (hX : Below wr.heap.size wr X) => word_any (c := c) i (h.below ((bstep hb hX).mono hB)) (Nat.le_trans hB (bstep hb hX).size) (by omega) (by omega)
      have WB := fun X (hX : Below wr.heap.size wr X) => word_any (c := c2) i (h2.below ((bstep hb hX).mono hB2)) (Nat.le_trans hB2 (bstep hb hX).size) (by omega) (by omega)
      have hadd := run_add (dg a i) (dg b i) q hq
      have zA := (blk_cell HA.out).1
      have zB := (blk_cell HBB.out).1
      have hfz := HL.out.frozen i
      have hcl : wr.cell? ⟨w.heap.size + 1 + 1, i, none⟩ = some (.int .u64 (uv 0)) := by
        rw [HL.out.cell i]
        have hlen := HS.out.1
        have := uvs_get (L ++ noughts (m + 1 - i)) i 0 (by rw [List.getElem?_append_right (by omega), hlen, Nat.sub_self, noughts, List.getElem?_replicate, if_pos (by omega)])
        simpa using this
      have hnx := Lib.hid (HS.out.next Ha.out Hb.out)
      have hset := Lib.hid (fun y => noughts_set (L := L) (m := m + 1) (k := i) y HS.out.1 (by omega))
      generalize (dg a i + dg b i + q) % W64 = s at *
      generalize (dg a i + dg b i + q) / W64 = q2 at *
      have hix : i < (uvs (L ++ noughts (m + 1 - i))).toArray.size := by
        have := HS.out.1
        simp [uvs_length, noughts_length]; omega
      have HK : Hid (∀ w', Below wr.heap.size wr w' → PlusHeld wr w.heap.size i A A2 m n2 c c2 w') := Lib.hid fun w' hX =>
        ⟨grown_of_below hX _, (blk_cell (HA.out.below hX HA.out.lt)).1, (blk_cell (HBB.out.below hX HBB.out.lt)).1, valAt_of ((hX.cell (p := ⟨w.heap.size + 1 + 1, i, none⟩) HL.out.lt).trans hcl), (HL.out.below hX HL.out.lt).frozen i, (HL.out.below hX HL.out.lt).lt⟩
      have HK2 : Hid (∀ w' y, Below wr.heap.size wr w' → PlusHeld wr w.heap.size i A A2 m n2 c c2 (w'.setCell ⟨w.heap.size + 1 + 1, i, none⟩ y)) := Lib.hid fun w' y hX =>
        ⟨grown_setCell (grown_of_below hX _) _, (blk_cell ((HA.out.below hX HA.out.lt).far (by simp; omega) _)).1, (blk_cell ((HBB.out.below hX HBB.out.lt).far (by simp) _)).1, valAt_of (setCell_own (HL.out.below hX HL.out.lt) hix _), ((HL.out.below hX HL.out.lt).set i y).frozen i, by rw [size_setCell']; exact (HL.out.below hX HL.out.lt).lt⟩
      unfold PlusHeld at HK HK2
      have hbi : (i : Int) < (m : Int) + 1 := by omega
      go_wp2_with fail
      go_region_held3 (fun w' => wr.grownBy w' (some (w.heap.size + 1 + 1)) ∧ w'.cell? ⟨w.heap.size, 0, none⟩ = some (.slice A m c) ∧ w'.cell? ⟨w.heap.size + 1, 0, none⟩ = some (.slice A2 n2 c2) ∧ w'.cell? ⟨w.heap.size + 1 + 1, i, none⟩ = some (valAt w' ⟨w.heap.size + 1 + 1, i, none⟩) ∧ w'.frozen? ⟨w.heap.size + 1 + 1, i, none⟩ = false ∧ w.heap.size + 1 + 1 < w'.heap.size)
        ((first | exact HK.out _ (Below.refl _ _).drew | exact HK.out _ (And.left ‹Below wr.heap.size wr _ ∧ True›) | exact HK2.out _ _ (And.left ‹Below wr.heap.size wr _ ∧ True›)))
        (first
          | (go_at_call 38; (with_reducible refine (WA _ (Below.refl _ _).drew).mono ?_); rintro e w4 ⟨rfl, b4⟩; have kB := And.intro (bstep (Below.refl wr.heap.size wr).drew b4) trivial)
          | (go_at_call 38; (with_reducible refine (WB _ (And.left ‹Below wr.heap.size wr _ ∧ True›)).mono ?_); rintro e w4 ⟨rfl, b4⟩; have kB := And.intro (bstep (And.left ‹Below wr.heap.size wr _ ∧ True›) b4) trivial))
      have kE := (And.left ‹Below wr.heap.size wr w4 ∧ True›)
      have gA := HA.out.below kE HA.out.lt
      have gB := HBB.out.below kE HBB.out.lt
      have gL := (HL.out.below kE HL.out.lt).set i (.int .u64 (uv s))
      rw [uvs_set, hset.out] at gL
      have GA := Lib.hid (gA.far (p := ⟨w.heap.size + 1 + 1, i, none⟩) (by simp; omega) (.int .u64 (uv s)))
      have GB := Lib.hid (gB.far (p := ⟨w.heap.size + 1 + 1, i, none⟩) (by simp) (.int .u64 (uv s)))
      have GL := Lib.hid gL
      have kW := (bstep hb kE).setCell (p := ⟨w.heap.size + 1 + 1, i, none⟩) (by simp; omega) (.int .u64 (uv s))
      clear gA gB gL HK HK2 WA WB
      go_wp2_with fail
      go_roundw
      case rel => exact ⟨i + 1, q2, L ++ [s], by omega, by go_num, rfl, hnx, GA, GB, GL, kW⟩
      case measure => simp [intOf]; omega
    · obtain rfl : i = m := by omega
      have hfz := HL.out.frozen i
      have hlen := HS.out.1
      have hcl : wr.cell? ⟨w.heap.size + 1 + 1, i, none⟩ = some (.int .u64 (uv 0)) := by
        rw [HL.out.cell i]
        have := uvs_get (L ++ noughts (i + 1 - i)) i 0 (by rw [List.getElem?_append_right (by omega), hlen, Nat.sub_self, noughts, List.getElem?_replicate, if_pos (by omega)])
        simpa using this
      clear hlen
      go_wp2_with fail
      go_ret
      refine ⟨w.heap.size + 1 + 1, L ++ [q], rfl, ?_, ?_, ?_, ?_, hb.setCell (by simp; omega) _⟩
      · have := HL.out.set i (.int .u64 (uv q))
        rw [uvs_set, noughts_set q HS.out.1 (by omega), Nat.sub_self] at this
        simpa [noughts] using this
      · simp [HS.out.1]
      · exact below_snoc HS.out.2.1 (by have := HS.out.2.2.1; unfold W64; omega)
      · have := HS.out.2.2.2
        rw [num_snoc, HS.out.1, this, num_all W64 (by rw [Hla.out]; omega), num_all W64 (by rw [Hlb.out]; omega)]
theorem plus_any {B B2 : Nat} {A A2 : Option Addr} {n n2 c c2 : Nat} {a b : List Nat} {w : World} (h : Wd w B A n a) (h2 : Wd w B2 A2 n2 b) (hB : B ≤ w.heap.size) (hB2 : B2 ≤ w.heap.size) (hn : n ≤ 512) (hn2 : n2 ≤ 512) :
    ∃ m, m ≤ 512 ∧ Calls Tryd.prog 35 #[.agg #[.slice A n c], .agg #[.slice A2 n2 c2]] w (PlusSays a b m w) := by
  by_cases hlt : n < n2
  · exact ⟨n2, hn2, plus_less n2 h h2 hB hB2 hn2 hlt⟩
  · exact ⟨n, hn, plus_more n h h2 hB hB2 hn hlt⟩
end Go.Proofs.YthfbgcjfnpajjaaDoor
