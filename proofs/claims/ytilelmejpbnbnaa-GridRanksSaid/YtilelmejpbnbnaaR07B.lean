import Derived.Test.YtilelmejpbnbnaaGridL
import Derived.Test.YtilelmejpbnbnaaRef7
import Derived.Test.YtilelmejpbnbnaaCaps
import Derived.Deep.DeepCutAuto
/- law07.Made: rows cut to one width, or with noughts behind. -/
namespace Go.Proofs.Ytilelmejpbnbnaa
open Go.RowKit
set_option linter.unusedVariables false
set_option maxRecDepth 100000

/-- The first n bytes of a row, with noughts behind. -/
def cutTo (n : Nat) (us : List UInt8) : List UInt8 := us.take n ++ nulls (n - us.length)
theorem cutTo_len (n : Nat) (us : List UInt8) : (cutTo n us).length = n := by simp [cutTo, nulls]; omega
def madeL (n : Nat) (rows : List (List UInt8)) : List (List UInt8) := rows.map (cutTo n)
theorem made_len (n : Nat) (rows : List (List UInt8)) : (madeL n rows).length = rows.length := by simp [madeL]
theorem made_fit (n : Nat) (rows : List (List UInt8)) : lenB n (madeL n rows) = true := by simp [lenB, madeL, cutTo_len]
theorem copy_some {ops : Array Oper} {rest : List Oper} {o : Oper} {a : Act} {Q : Exit → Act → World → Prop} {w : World} (hgd : o.guard = none) (d s : Operand)
    (ho : o.op = .call { callee := .builtin .copy, args := #[d, s], argTypes := #[52, 52] }) (g n m c : Nat) (A : Option Addr) (us : List UInt8)
    (hd : a.eval d = .slice (some ⟨g, 0, none⟩) n n) (hs : a.eval s = .slice A m c) (hg : Blk w g 5 (bvs (nulls n)).toArray) {B : Nat} (hr : Rd w B A m us)
    (B0 : Nat) (w0 : World) (hb : Below B0 w0 w) (hBg : B0 ≤ g)
    (h : ∀ w', Blk w' g 5 (bvs (cutTo n us)).toArray → Below B0 w0 w' → wpList Try.prog ops Q rest (a.put o.dst (goInt (Nat.min m n))) w') : wpList Try.prog ops Q (o :: rest) a w := by
  have hl : (bvs (us.take n)).length = Nat.min m n := by rw [bvs_length, List.length_take, hr.1]; exact Nat.min_comm _ _
  refine wpList_copy_splice hgd d s _ _ ho 5 Try.underlying52 (by kernel_rfl) (some ⟨g, 0, none⟩) A n n m c hd hs g 0 (bvs (nulls n)) 5 hg (bvs (us.take n)) hl (fun hp => ⟨rfl, ?_⟩) (by rw [hl, bvs_length]; simp [nulls]; exact Nat.min_le_right _ _) (bvs_one _) B0 w0 hb hBg ?_
  · obtain ⟨ad, e, hc⟩ := hr.adds (by rw [hl] at hp; exact Nat.lt_of_lt_of_le hp (Nat.min_le_left _ _))
    refine ⟨ad, e, fun j v hv => hc j v ?_⟩
    simp only [bvs, List.map_take, List.getElem?_take] at hv
    split at hv
    · exact hv
    · cases hv
  · intro w' hw' hb'
    have h2 := h w' (by
      have := hw'.out
      have e2 : splice (bvs (nulls n)) 0 (bvs (us.take n)) = bvs (cutTo n us) := by
        have hm := hr.1
        have e3 : (bvs (nulls n)).drop (Nat.min m n) = bvs (nulls (n - us.length)) := by
          have e4 : n - Nat.min m n = n - us.length := by rw [hm]; show n - min m n = n - m; omega
          simp only [bvs, nulls, List.map_replicate, List.drop_replicate, e4]
        unfold splice cutTo
        rw [hl, Nat.zero_add, e3]
        simp [bvs]
      rw [e2] at this
      exact this) hb'
    rwa [hl]
/-- What law07.Made hands back. -/
def MadeEnds (n : Nat) (rows : List (List UInt8)) (w : World) (e : Ending) (w' : World) : Prop := ∃ A m c, e = .returned (.tuple #[gv n (madeL n rows), .slice A m c, .int .i64 (n : Int)]) ∧ Rds w' w'.heap.size A m (madeL n rows) ∧ m ≤ c ∧ c ≤ 9223372036854775807 ∧ Caps w' w'.heap.size A m ∧ Below w.heap.size w w'
theorem Rds.far3 {w w' : World} {B n g : Nat} {A : Option Addr} {rows : List (List UInt8)} {T : TypeId} {cs : Array Value} (h : Rds w B A n rows) (hg : Blk w g T cs) (hn : NoBytes cs) (hs : ∀ (i : Nat) (x : Option Addr) (k c : Nat), cs[i]? ≠ some (.slice x k c)) (hk : ∀ p : Addr, p.block ≠ g → w'.cell? p = w.cell? p) : Rds w' B A n rows :=
  ⟨h.1, fun hp => by
    obtain ⟨b, off, e, hb, hc⟩ := h.2 hp
    refine ⟨b, off, e, hb, fun j us hu => ?_⟩
    obtain ⟨Ai, ci, h1, h2⟩ := hc j us hu
    refine ⟨Ai, ci, ?_, h2.far hg hn hk⟩
    rw [hk ⟨b, off + j, none⟩ ?_]
    · exact h1
    · intro e2
      have e3 : b = g := e2
      subst e3
      rw [hg.cell] at h1
      exact hs _ _ _ _ h1⟩
theorem noBytes_grid : NoBytes #[.int .i64 0, .int .i64 0, .string { data := #[] }] := by
  intro i v u h
  match i with
  | 0 => simp at h; subst h; intro e; cases e
  | 1 => simp at h; subst h; intro e; cases e
  | 2 => simp at h; subst h; intro e; cases e
  | i + 3 => simp at h
theorem noSlice_grid (i : Nat) (x : Option Addr) (k c : Nat) : (#[Value.int .i64 0, .int .i64 0, .string { data := #[] }] : Array Value)[i]? ≠ some (.slice x k c) := by
  intro h
  match i with
  | 0 => simp at h
  | 1 => simp at h
  | 2 => simp at h
  | i + 3 => simp at h
theorem made_wrap (u : UInt8) : wrap64 ((bv u).tmod 31) = ((u.toNat % 31 : Nat) : Int) := by
  unfold bv
  rw [Int.tmod_eq_emod_of_nonneg (by omega)]
  have : (u.toNat : Int) % 31 = ((u.toNat % 31 : Nat) : Int) := by omega
  rw [this]
  have h2 : u.toNat % 31 < 31 := Nat.mod_lt _ (by omega)
  unfold wrap64
  omega
theorem made_snoc (n : Nat) (rows : List (List UInt8)) (r : Nat) (h : r < rows.length) : (madeL n rows).take r ++ [cutTo n (rows[r]?.getD [])] = (madeL n rows).take (r + 1) := by
  rw [← take_get [] (by rw [made_len]; exact h)]
  congr 2
  simp [madeL, h]
theorem Was.caps {w : World} {base n c : Nat} {A : Option Addr} {rows : List (List UInt8)} (h : Was w base (.slice A n c) rows) : n ≤ c ∧ c ≤ 9223372036854775807 := by
  obtain ⟨xs, h1, _⟩ := h
  rcases h1.2 with ⟨e, _⟩ | ⟨g, cap, cur, e, _, _, hn, hm, _⟩
  · injection e with _ e1 e2; omega
  · injection e with _ e1 e2
    unfold maxLen at hm
    subst e2
    rw [e1]
    exact ⟨hn, hm⟩
set_option maxHeartbeats 600000 in
theorem made_any {B : Nat} {A : Option Addr} {m c : Nat} {u : UInt8} {rows : List (List UInt8)} {w : World} (h : Rds w B A m rows) (hB : B ≤ w.heap.size) (hm : m ≤ 30) :
    Calls Try.prog 10 #[.int .u8 (bv u), .slice A m c] w (MadeEnds (u.toNat % 31) rows w) := by
  have HL := Lib.hid h.1
  replace h := h.more hB
  have h2 : u.toNat % 31 < 31 := Nat.mod_lt _ (by omega)
  have hwr := made_wrap u
  go_enter Try.func10, Try.ntmps10
  go_wp2_with fail
  rw [hwr]
  clear hwr
  generalize u.toNat % 31 = n at *
  go_loopw [8, 19] (fun v x wr => ∃ r : Nat, r ≤ m ∧ x = .int .i64 r ∧ Was wr w.heap.size v ((madeL n rows).take r) ∧ Blk wr w.heap.size 26 #[.int .i64 0, .int .i64 0, .string { data := #[] }] ∧ Below w.heap.size w wr) (fun _ x _ => m - (intOf x).toNat)
  case atStart => exact ⟨0, by omega, rfl, Was.nil _ _, Blk.new _ _ _, balloc _ _⟩
  case round =>
    obtain ⟨wo, rfl⟩ : ∃ wo : World, wo = wr := ⟨_, rfl⟩
    obtain ⟨r, hr, rfl, hwas, hG, hb⟩ := hrel
    have hz := hb.size
    by_cases hrm : r < m
    · obtain ⟨b1, o1, Ar, cr, rfl, hb1, hc1, hr1⟩ := (h.below hb).at_ hrm
      have HR := Lib.hid (made_snoc n rows r (by rw [HL.out]; exact hrm))
      have Hk1 : Hid (((madeL n rows).take r).length = r) := Lib.hid (by rw [List.length_take, made_len, HL.out]; omega)
      generalize rows[r]?.getD [] = row at *
      have hmk := make_bytes n (by omega) wo
      have hg0 := Blk.new wo 5 (bvs (nulls n)).toArray
      have hB0 := balloc wo (.cells (bvs (nulls n)).toArray 5)
      have hr2 : Rd (wo.alloc (.cells (bvs (nulls n)).toArray 5)) w.heap.size Ar row.length row := hr1.below (hB0.mono hz)
      have Hk2 : Hid ((cutTo n row).length = n) := Lib.hid (cutTo_len n row)
      go_wp2_with (refine copy_some (o := ⟨some 27, _, _, _, _, _⟩) rfl (.tmp 25) (.tmp 26) rfl wo.heap.size n row.length cr Ar row rfl rfl hg0 hr2 wo.heap.size wo hB0 (Nat.le_refl _) ?_)
      intro w1 hg1 hb1
      have hz1 := hb1.size
      have hown := own_blk (base := w.heap.size) hg1 hz Hk2.out (by omega)
      have hwas2 := (hwas.below hb1).below (balloc w1 (.cells #[.slice (some ⟨wo.heap.size, 0, none⟩) n n] 52))
      have hG2 := (hG.below hb1 hG.lt).alloc (.cells #[.slice (some ⟨wo.heap.size, 0, none⟩) n n] 52)
      have hown2 := hown.alloc (.cells #[.slice (some ⟨wo.heap.size, 0, none⟩) n n] 52)
      have hb3 := (hb.trans (hb1.mono hz)).alloc (Nat.le_trans hz hz1) (.cells #[.slice (some ⟨wo.heap.size, 0, none⟩) n n] 52)
      have hbs : w.heap.size ≤ (w1.alloc (.cells #[.slice (some ⟨wo.heap.size, 0, none⟩) n n] 52)).heap.size := by simp; omega
      clear hown hwas hg1 hg0 hB0 hr2 hr1 hmk hc1 hG
      go_wp2_with (at_builtin; refine push_row rfl (.tmp 28) (.tmp 30) rfl w.heap.size _ _ r n _ (cutTo n row) rfl hwas2 Hk1.out Hk2.out hown2 w1.heap.size 1 rfl ?d1 ?d2 hbs ?_)
      case d1 => go_simp
      case d2 => omega
      intro v1 w2 hw2 hg2 hb2
      rw [HR.out] at hw2
      have hG3 := hG2.rowsGrown hwas2 hg2 (by decide)
      have hb4 := hb3.trans hb2
      clear hb3 hb2 hg2 hown2 hwas2 hG2
      go_wp2_with fail
      go_roundw
      case rel => exact ⟨r + 1, by omega, by go_num, hw2, hG3, hb4⟩
      case measure => simp [intOf]; omega
    · obtain rfl : r = m := by omega
      have e : (madeL n rows).take r = madeL n rows := List.take_of_length_le (by rw [made_len, HL.out]; exact Nat.le_refl _)
      rw [e] at hwas
      obtain ⟨A7, c7, rfl, hrd⟩ := hwas.rds
      obtain ⟨hq1, hq2⟩ := hwas.caps
      have hcp := hwas.capsOf rfl
      clear e
      go_wp2_with fail
      refine (gof_any hrd (Nat.le_refl _) hq1 hq2 (by omega) (by omega)).mono ?_
      rintro e w1 ⟨rfl, b1⟩
      have eg : gofR (n : Int) (madeL n rows) = (gv n (madeL n rows), 0) := by
        have h3 : fitB (madeL n rows).length n = true := by
          have h5 : (madeL n rows).length ≤ 30 := by rw [made_len, HL.out]; exact hm
          have h4 : (madeL n rows).length * n ≤ 30 * 30 := Nat.mul_le_mul h5 (by omega)
          simp [fitB]
          omega
        unfold gofR
        rw [if_neg (by omega), Int.toNat_natCast, if_neg (by rw [h3]; simp), if_neg (by rw [made_fit]; simp)]
      rw [eg]
      clear eg
      have hz1 := b1.size
      have k1 := (balloc w1 (.cells #[.int .i64 ((madeL n rows).length : Int), .int .i64 (n : Int), .string (strB (madeL n rows).flatten)] 26))
      have hz2 := k1.size
      have HR := Lib.hid ((hrd.step b1).step k1)
      have HC := Lib.hid ((hcp.step b1).step k1)
      have hg := (hG.below b1 hG.lt).below k1 (hG.below b1 hG.lt).lt
      have HB := Lib.hid ((hb.trans (b1.mono hz)).trans (k1.mono (Nat.le_trans hz hz1)))
      obtain ⟨hc0, hc1, hc2, hf0, hf1, hf2⟩ := cells3 hg
      clear b1 k1 hrd hwas hb hcp
      simp only [gv]
      go_wp2_with fail
      refine end_grid (v := .tuple #[gv n (madeL n rows), .slice A7 (madeL n rows).length c7, .int .i64 (n : Int)]) hg (by intro W e0 e1 e2; simp [results, Try.results10, go_sem, e0, e1, e2, gv]) rfl fun W hl => ?_
      refine ⟨_, _, _, rfl, ?_, hq1, hq2, ?_, hl.below _ _ (Nat.le_refl _) HB.out⟩
      · exact (HR.out.far3 hg noBytes_grid noSlice_grid hl.far).more (by rw [hl.size]; exact Nat.le_refl _)
      · exact (HC.out.far3 hg noSlice_grid hl.far).more (by rw [hl.size]; exact Nat.le_refl _)
end Go.Proofs.Ytilelmejpbnbnaa
