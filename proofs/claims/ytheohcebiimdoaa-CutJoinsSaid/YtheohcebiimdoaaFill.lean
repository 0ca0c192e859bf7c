import Derived.Test.YtheohcebiimdoaaVecB
import Derived.Test.YtheohcebiimdoaaCaps
import Derived.Laws.IdiomStrings
import Derived.IntWalk
/- Rows made one by one, rows that are the same, and bytes copied. -/
namespace Go.Proofs.Ytheohcebiimdoaa
open Go.RowKit
set_option linter.unusedVariables false
set_option maxRecDepth 100000

def GridEnds (v : Value) (w : World) (e : Ending) (w' : World) : Prop := e = .returned v ∧ Below w.heap.size w w'
def IsSl (v : Value) : Prop := ∃ A n c, v = .slice A n c
/-- Block g holds n slices; the first ones read as these rows. -/
def Filled (w : World) (g n : Nat) (rows : List (List UInt8)) : Prop :=
  ∃ cs : List Value, cs.length = n ∧ Blk w g 25 cs.toArray ∧ (∀ v ∈ cs, IsSl v) ∧ rows.length ≤ n ∧ ∀ (i : Nat) us, rows[i]? = some us → ∃ A c, cs[i]? = some (.slice A us.length c) ∧ Rd w w.heap.size A us.length us
theorem NoBytes.sl {cs : List Value} (h : ∀ v ∈ cs, IsSl v) : NoBytes cs.toArray := by
  intro i v u hv e
  have hm : v ∈ cs := by
    have := Array.mem_of_getElem? hv
    simpa using this
  obtain ⟨A, n, c, rfl⟩ := h v hm
  cases e
theorem Filled.lt {w : World} {g n : Nat} {rows : List (List UInt8)} (h : Filled w g n rows) : g < w.heap.size := by
  obtain ⟨cs, _, h2, _⟩ := h
  exact h2.lt
theorem Filled.step {w w' : World} {g n : Nat} {rows : List (List UInt8)} (h : Filled w g n rows) (hb : Below w.heap.size w w') : Filled w' g n rows := by
  obtain ⟨cs, h1, h2, h3, h4, h5⟩ := h
  refine ⟨cs, h1, h2.below hb h2.lt, h3, h4, fun i us hu => ?_⟩
  obtain ⟨A, c, h6, h7⟩ := h5 i us hu
  exact ⟨A, c, h6, h7.step hb⟩
theorem Filled.cell {w : World} {g n k : Nat} {rows : List (List UInt8)} (h : Filled w g n rows) (hk : k < n) : (∃ A m c, w.cell? ⟨g, k, none⟩ = some (.slice A m c)) ∧ w.frozen? ⟨g, k, none⟩ = false := by
  obtain ⟨cs, h1, h2, h3, _⟩ := h
  refine ⟨?_, h2.frozen k⟩
  rw [h2.cell k]
  have hk' : k < cs.length := by omega
  obtain ⟨A, m, c, e⟩ := h3 cs[k] (List.getElem_mem hk')
  exact ⟨A, m, c, by simp [hk', e]⟩
theorem Filled.put {w : World} {g n c k m : Nat} {A : Option Addr} {us : List UInt8} {rows : List (List UInt8)} (h : Filled w g n rows) (hk : rows.length = k) (hkn : k < n) (hm : us.length = m) (hr : Rd w w.heap.size A m us) :
    Filled (w.setCell ⟨g, k, none⟩ (.slice A m c)) g n (rows ++ [us]) := by
  subst hm hk
  obtain ⟨cs, h1, h2, h3, h4, h5⟩ := h
  have hs : (w.setCell ⟨g, rows.length, none⟩ (.slice A us.length c)).heap.size = w.heap.size := by simp [World.setCell]
  have hset : Blk (w.setCell ⟨g, rows.length, none⟩ (.slice A us.length c)) g 25 (cs.set rows.length (.slice A us.length c)).toArray := by
    have := h2.set rows.length (.slice A us.length c)
    simpa using this
  refine ⟨cs.set rows.length (.slice A us.length c), by simpa using h1, hset, ?_, by simp; omega, fun i us' hu => ?_⟩
  · intro v hv
    rcases List.mem_or_eq_of_mem_set hv with hv | rfl
    · exact h3 v hv
    · exact ⟨_, _, _, rfl⟩
  · rw [hs]
    by_cases hi : i < rows.length
    · rw [List.getElem?_append_left hi] at hu
      obtain ⟨A', c', h6, h7⟩ := h5 i us' hu
      refine ⟨A', c', ?_, ?_⟩
      · rw [List.getElem?_set_ne (by omega)]; exact h6
      · exact h7.far h2 (NoBytes.sl h3) fun p hp => World.cell?_setCell_far _ _ _ _ (fun e => hp e.symm)
    · have hi' : i = rows.length := by
        have := (List.getElem?_eq_some_iff.1 hu).1
        simp at this; omega
      subst hi'
      rw [List.getElem?_append_right (by omega)] at hu
      simp at hu
      subst hu
      refine ⟨A, c, ?_, ?_⟩
      · rw [List.getElem?_set_self (by omega)]
      · exact hr.far h2 (NoBytes.sl h3) fun p hp => World.cell?_setCell_far _ _ _ _ (fun e => hp e.symm)
theorem Filled.rds {w : World} {g n : Nat} {rows : List (List UInt8)} (h : Filled w g n rows) (hn : rows.length = n) : Rds w w.heap.size (some ⟨g, 0, none⟩) n rows := by
  obtain ⟨cs, h1, h2, h3, h4, h5⟩ := h
  refine ⟨hn, fun hp => ⟨g, 0, rfl, h2.lt, fun i us hu => ?_⟩⟩
  obtain ⟨A, c, h6, h7⟩ := h5 i us hu
  refine ⟨A, c, ?_, h7⟩
  rw [Nat.zero_add, h2.cell i]
  simpa using h6
def nils (n : Nat) : List Value := List.replicate n (.slice none 0 0)
theorem Filled.new (w : World) (n : Nat) : Filled (w.alloc (.cells (nils n).toArray 25)) w.heap.size n [] := by
  refine ⟨nils n, by simp [nils], Blk.new _ _ _, ?_, by simp, fun i us h => by simp at h⟩
  intro v hv
  simp only [nils, List.mem_replicate] at hv
  exact ⟨_, _, _, hv.2⟩
theorem make_rows (n : Nat) (hn : n ≤ 5864062014805) (w : World) : (Instr.makeSlice 27 (.int .i64 (n : Int)) (.int .i64 (n : Int))).run Try.prog w =
    .ok (.slice (some ⟨w.heap.size, 0, none⟩) n n) (w.alloc (.cells (nils n).toArray 25)) := by
  obtain ⟨i0, hi0, hz0, hz1, hz2⟩ := info_parts row_info
  have h := run_make (P := Try.prog) w 27 25 i0 _ Try.underlying27 hi0 hz0 .i64 .i64 (n : Int) (n : Int) (by omega) (Int.le_refl _) (by rw [hz2]; omega) (by omega)
  rw [h]
  simp only [Int.toNat_natCast, hz1, Nat.mul_one]
  have e : madeCells (Value.slice none 0 0).cells n = (nils n).toArray := by
    apply Array.ext'
    have := toList_madeCells_one (.slice none 0 0) n
    simp only [Value.cells]
    rw [this]
    simp [nils]
  rw [e]
theorem ret_bool {a b : Bool} (h : a = b) : Ending.returned (.bool a) = .returned (.bool b) := by rw [h]
theorem take_get {α : Type} {l : List α} {k : Nat} (d : α) (h : k < l.length) : l.take k ++ [l[k]?.getD d] = l.take (k + 1) := by
  rw [List.take_succ_eq_append_getElem h, List.getElem?_eq_getElem h]; rfl
def sameRows (a b : List (List UInt8)) : Bool := decide (a = b)
theorem same_of_prefix {a b : List (List UInt8)} {n : Nat} (ha : a.length = n) (hb : b.length = n) (h : a.take n = b.take n) : sameRows a b = true := by
  rw [List.take_of_length_le (by omega), List.take_of_length_le (by omega)] at h
  simp [sameRows, h]
theorem differ {a b : List (List UInt8)} {k : Nat} (h : (a[k]?.getD [] == b[k]?.getD []) = false) : sameRows a b = false := by
  unfold sameRows
  rw [decide_eq_false_iff_not]
  rintro rfl
  simp at h
theorem refsame7_any {B B2 : Nat} {A A2 : Option Addr} {n c n2 c2 : Nat} {rows rows2 : List (List UInt8)} {w : World} (h : Rds w B A n rows) (h2 : Rds w B2 A2 n2 rows2) (hB : B ≤ w.heap.size) (hB2 : B2 ≤ w.heap.size) (hn : n ≤ 9223372036854775807) (hs : Short rows) :
    Calls Try.prog 11 #[.slice A n c, .slice A2 n2 c2] w fun e w' => e = .returned (.bool (sameRows rows rows2)) ∧ Below w.heap.size w w' := by
  by_cases hl : n = n2
  · subst hl
    have H1 := Lib.hid h.1
    have H2 := Lib.hid h2.1
    replace h := h.more hB
    replace h2 := h2.more hB2
    go_enter Try.func11, Try.ntmps11
    go_wp2_with fail
    go_loopw [13] (fun i wr => ∃ k : Nat, k ≤ n ∧ i = .int .i64 k ∧ Hid (rows.take k = rows2.take k) ∧ Below w.heap.size w wr) (fun i _ => n - (intOf i).toNat)
    case atStart => exact ⟨0, by omega, rfl, Lib.hid rfl, Below.refl _ _⟩
    case round =>
      obtain ⟨k, hk, rfl, hp, hb⟩ := hrel
      by_cases hlt : k < n
      · obtain ⟨b, off, Ak, ck, rfl, hbB, hc, hr⟩ := (h.below hb).at_ hlt
        obtain ⟨b2, off2, Ak2, ck2, rfl, hbB2, hc2, hr2⟩ := (h2.below hb).at_ hlt
        have Hs1 : Hid (rows.take (k + 1) = rows.take k ++ [rows[k]?.getD []]) := Lib.hid (take_get [] (by rw [H1.out]; exact hlt)).symm
        have Hs2 : Hid (rows2.take (k + 1) = rows2.take k ++ [rows2[k]?.getD []]) := Lib.hid (take_get [] (by rw [H2.out]; exact hlt)).symm
        have hsh : (rows[k]?.getD []).length ≤ 140737488355327 := by
          rw [List.getElem?_eq_getElem (by rw [H1.out]; exact hlt)]
          exact hs _ (List.getElem_mem _)
        have HD : (rows[k]?.getD [] == rows2[k]?.getD []) = false → Hid (sameRows rows rows2 = false) := fun h => Lib.hid (differ h)
        generalize rows[k]?.getD [] = us at *
        generalize rows2[k]?.getD [] = vs at *
        have hz := hb.size
        have hS : Hid (∀ w', Below wr.heap.size wr w' → (Below wr.heap.size wr w' ∧ w'.cell? ⟨b, off + k, none⟩ = some (.slice Ak us.length ck) ∧ w'.cell? ⟨b2, off2 + k, none⟩ = some (.slice Ak2 vs.length ck2))) := Lib.hid fun w' hb' => ⟨hb', (hb'.cell (p := ⟨b, off + k, none⟩) (by simp; omega)).trans hc, (hb'.cell (p := ⟨b2, off2 + k, none⟩) (by simp; omega)).trans hc2⟩
        replace hr := hr.more hz
        replace hr2 := hr2.more hz
        have hlen : us.length ≤ 9223372036854775807 := by omega
        cases hq : (us == vs)
        · have HF := HD hq
          have Hq := Lib.hid hq
          clear HD hq hsh
          go_wp2_with fail
          go_region_held3 (fun w' => Below wr.heap.size wr w' ∧ w'.cell? ⟨b, off + k, none⟩ = some (.slice Ak us.length ck) ∧ w'.cell? ⟨b2, off2 + k, none⟩ = some (.slice Ak2 vs.length ck2))
            ((refine hS.out _ ?_; first | exact (Below.refl _ _).drew | assumption))
            ((go_at_call 12; (with_reducible refine (same_any (hr.step (And.left ‹Below wr.heap.size wr _ ∧ _›)) (hr2.step (And.left ‹Below wr.heap.size wr _ ∧ _›)) (Nat.le_refl _) (Nat.le_refl _) hlen).mono ?_); rintro e w7 ⟨rfl, b7⟩; have kB7 := bstep (And.left ‹Below wr.heap.size wr _ ∧ _›) b7; rw [Hq.out]))
          go_wp2_with fail
          go_ret
          exact ⟨ret_bool HF.out.symm, bstep hb kB7⟩
        · have HF : Hid (rows.take (k + 1) = rows2.take (k + 1)) := Lib.hid (by rw [Hs1.out, Hs2.out, hp.out, eq_of_beq hq])
          have Hq := Lib.hid hq
          clear HD hq hsh
          go_wp2_with fail
          go_region_held3 (fun w' => Below wr.heap.size wr w' ∧ w'.cell? ⟨b, off + k, none⟩ = some (.slice Ak us.length ck) ∧ w'.cell? ⟨b2, off2 + k, none⟩ = some (.slice Ak2 vs.length ck2))
            ((refine hS.out _ ?_; first | exact (Below.refl _ _).drew | assumption))
            ((go_at_call 12; (with_reducible refine (same_any (hr.step (And.left ‹Below wr.heap.size wr _ ∧ _›)) (hr2.step (And.left ‹Below wr.heap.size wr _ ∧ _›)) (Nat.le_refl _) (Nat.le_refl _) hlen).mono ?_); rintro e w7 ⟨rfl, b7⟩; have kB7 := bstep (And.left ‹Below wr.heap.size wr _ ∧ _›) b7; rw [Hq.out]))
          go_wp2_with fail
          go_roundw
          case rel => exact ⟨k + 1, by omega, by go_num, HF, bstep hb kB7⟩
          case measure => simp [intOf]; omega
      · obtain rfl : k = n := by omega
        have HF := Lib.hid (same_of_prefix H1.out H2.out hp.out)
        go_wp2_with fail
        go_ret
        exact ⟨ret_bool HF.out.symm, hb⟩
  · have e : sameRows rows rows2 = false := by
      unfold sameRows
      rw [decide_eq_false_iff_not]
      rintro rfl
      exact hl (h.1.symm.trans h2.1)
    have t : ((n : Int) != (n2 : Int)) = true := by rw [bne_iff_ne]; omega
    rw [e]
    clear e
    go_enter Try.func11, Try.ntmps11
    go_wp2_with fail
    go_ret
    exact ⟨rfl, Below.refl _ _⟩
/-- The first n bytes of a row, with noughts behind. -/
def cutTo (n : Nat) (us : List UInt8) : List UInt8 := us.take n ++ nulls (n - us.length)
theorem cutTo_len (n : Nat) (us : List UInt8) : (cutTo n us).length = n := by simp [cutTo, nulls]; omega
theorem copy_some {ops : Array Oper} {rest : List Oper} {o : Oper} {a : Act} {Q : Exit → Act → World → Prop} {w : World} (hgd : o.guard = none) (d s : Operand)
    (ho : o.op = .call { callee := .builtin .copy, args := #[d, s], argTypes := #[25, 25] }) (g n m c : Nat) (A : Option Addr) (us : List UInt8)
    (hd : a.eval d = .slice (some ⟨g, 0, none⟩) n n) (hs : a.eval s = .slice A m c) (hg : Blk w g 5 (bvs (nulls n)).toArray) {B : Nat} (hr : Rd w B A m us)
    (B0 : Nat) (w0 : World) (hb : Below B0 w0 w) (hBg : B0 ≤ g)
    (h : ∀ w', Blk w' g 5 (bvs (cutTo n us)).toArray → Below B0 w0 w' → wpList Try.prog ops Q rest (a.put o.dst (goInt (Nat.min m n))) w') : wpList Try.prog ops Q (o :: rest) a w := by
  have hl : (bvs (us.take n)).length = Nat.min m n := by rw [bvs_length, List.length_take, hr.1]; exact Nat.min_comm _ _
  refine wpList_copy_splice hgd d s _ _ ho 5 Try.underlying25 (by kernel_rfl) (some ⟨g, 0, none⟩) A n n m c hd hs g 0 (bvs (nulls n)) 5 hg (bvs (us.take n)) hl (fun hp => ⟨rfl, ?_⟩) (by rw [hl, bvs_length]; simp [nulls]; exact Nat.min_le_right _ _) (bvs_one _) B0 w0 hb hBg ?_
  · obtain ⟨ad, e, hc⟩ := hr.adds (by rw [hl] at hp; exact Nat.lt_of_lt_of_le hp (Nat.min_le_left _ _))
    refine ⟨ad, e, fun j v hv => hc j v ?_⟩
    simp only [bvs, List.map_take, List.getElem?_take] at hv
    split at hv
    · exact hv
    · cases hv
  · intro w' hw' hb'
    have h2 := h w' (by
      have := hw'.out
      have e2 : splice (bvs (nulls n)) 0 (bvs (us.take n)) = bvs (cutTo n us) := by
        have hm := hr.1
        have e3 : (bvs (nulls n)).drop (Nat.min m n) = bvs (nulls (n - us.length)) := by
          have e4 : n - Nat.min m n = n - us.length := by rw [hm]; show n - min m n = n - m; omega
          simp only [bvs, nulls, List.map_replicate, List.drop_replicate, e4]
        unfold splice cutTo
        rw [hl, Nat.zero_add, e3]
        simp [bvs]
      rw [e2] at this
      exact this) hb'
    rwa [hl]
end Go.Proofs.Ytheohcebiimdoaa
