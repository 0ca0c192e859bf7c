import Derived.Test.YtheohcebiimdoaaCut
import Derived.Test.YtheohcebiimdoaaRef10
/- The document's symbols, byte by byte. -/
namespace Go.Proofs.Ytheohcebiimdoaa
open Go.RowKit
set_option linter.unusedVariables false
set_option maxRecDepth 100000

theorem symL_at {S q r : Nat} (us : List UInt8) (hr : r < S) : (symL S us q).take r ++ [us[q * S + r]?.getD 0] = (symL S us q).take (r + 1) := by
  have h : (symL S us q)[r]?.getD 0 = us[q * S + r]?.getD 0 := by
    unfold symL
    rw [cutTo_get, if_pos hr, List.getElem?_drop]
    rfl
  rw [← h]
  exact take_get 0 (by rw [symL_len]; exact hr)
theorem cells_new1 (w : World) (u : UInt8) : (w.alloc (.cells #[.int .u8 (bv u)] 5)).cell? ⟨w.heap.size, 0, none⟩ = some (.int .u8 (bv u)) := by
  rw [(Blk.new w 5 #[.int .u8 (bv u)]).cell 0]; rfl
/-- What stands in the middle of the document's loop. -/
def Mid (S K : Nat) (us : List UInt8) (base : Nat) (wr : World) (out one : Value) (j : Nat) : Prop :=
  ∃ (w0 : World) (q r : Nat), j = q * S + r ∧ r < S ∧ Was w0 base out ((symsL S K us).take q) ∧ base < w0.heap.size ∧ Below w0.heap.size w0 wr ∧ wr.ownsRow w0.heap.size 5 1 one r (bvs ((symL S us q).take r))
theorem Mid.more {S K : Nat} {us : List UInt8} {base : Nat} {w0 wr : World} {out one : Value} {q r j : Nat} (hj : j = q * S + r) (h0 : Was w0 base out ((symsL S K us).take q)) (hb : base < w0.heap.size) (hb0 : Below w0.heap.size w0 wr) (ho : wr.ownsRow w0.heap.size 5 1 one (r + 1) (bvs ((symL S us q).take (r + 1)))) (hr : r + 1 < S) : Mid S K us base wr out one (j + 1) :=
  ⟨w0, q, r + 1, by omega, hr, h0, hb, hb0, ho⟩
theorem Mid.next {S K : Nat} {us : List UInt8} {base : Nat} {wr : World} {out : Value} {q r j : Nat} (hj : j = q * S + r) (hr : r + 1 = S) (hS : 1 ≤ S) (h0 : Was wr base out ((symsL S K us).take q ++ [(symL S us q).take (r + 1)])) (hq : q < K) (hb : base < wr.heap.size) : Mid S K us base wr out (.slice none 0 0) (j + 1) := by
  refine ⟨wr, q + 1, 0, by rw [Nat.succ_mul]; omega, hS, ?_, hb, Below.refl _ _, World.ownsRow_nil _ _ _ _⟩
  have e : (symL S us q).take S = symL S us q := List.take_of_length_le (by rw [symL_len]; exact Nat.le_refl _)
  rw [hr, e, symsL_take hq] at h0
  exact h0
theorem Mid.start {S K : Nat} {us : List UInt8} {base : Nat} {w : World} (hS : 1 ≤ S) (hb : base < w.heap.size) : Mid S K us base w (.slice none 0 0) (.slice none 0 0) 0 :=
  ⟨w, 0, 0, by simp, hS, Was.nil _ _, hb, Below.refl _ _, World.ownsRow_nil _ _ _ _⟩
theorem refcut_bad {l s k d : Int} {A : Option Addr} {n c : Nat} {w : World} (l2 : l ≤ 9223372036854775807) (h : fitC l s k n ≠ 0) :
    Calls Try.prog 9 #[pv l s k d, .slice A n c] w (GridEnds (.tuple #[.slice none 0 0, .int .i64 (fitC l s k n)]) w) := by
  have hb := balloc w (.cells #[.int .i64 l, .int .i64 s, .int .i64 k, .int .u32 d] 33)
  have hg := Blk.new w 33 #[.int .i64 l, .int .i64 s, .int .i64 k, .int .u32 d]
  have C := refcheck_any (l := l) (s := s) (k := k) (d := d) (w := w.alloc (.cells #[.int .i64 l, .int .i64 s, .int .i64 k, .int .u32 d] 33)) l2
  unfold pv at *
  by_cases h0 : codeC l s k = 0
  · have h1 : ¬ (n : Int) = l := fun e => h (by simp [fitC, h0, e])
    have e : fitC l s k n = 4 := by simp [fitC, h0, h1]
    have t : ((n : Int) != l) = true := by rw [bne_iff_ne]; exact h1
    rw [e]
    rw [h0] at C
    clear h h0 h1 e
    go_enter Try.func9, Try.ntmps9
    go_wp2_with fail
    with_reducible refine C.mono ?_
    rintro e w1 ⟨rfl, b1⟩
    obtain ⟨a0, a1, a2, a3, _⟩ := cells4 (hg.below b1 hg.lt)
    clear C
    go_wp2_with fail
    go_ret2
    exact ⟨rfl, bstep hb b1⟩
  · have e : fitC l s k n = codeC l s k := by simp [fitC, h0]
    have t := ne_code h0
    rw [e]
    clear h h0 e
    generalize codeC l s k = m at *
    go_enter Try.func9, Try.ntmps9
    go_wp2_with fail
    with_reducible refine C.mono ?_
    rintro e w1 ⟨rfl, b1⟩
    clear C
    go_wp2_with fail
    go_ret2
    exact ⟨rfl, bstep hb b1⟩
def CutEnds (rows : List (List UInt8)) (w : World) (e : Ending) (w' : World) : Prop := ∃ A c, e = .returned (.tuple #[.slice A rows.length c, .int .i64 0]) ∧ Rds w' w'.heap.size A rows.length rows ∧ Caps w' w'.heap.size A rows.length ∧ Below w.heap.size w w'
set_option maxHeartbeats 1000000 in
theorem refcut_ok {A : Option Addr} {n c S K : Nat} {d : Int} {us : List UInt8} {w : World} (h : Rd w w.heap.size A n us) (hc : n ≤ c) (hcc : c ≤ 9223372036854775807) (hf : fitC n S K n = 0) :
    Calls Try.prog 9 #[pv n S K d, .slice A n c] w (CutEnds (symsL S K us) w) := by
  have hb := balloc w (.cells #[.int .i64 n, .int .i64 S, .int .i64 K, .int .u32 d] 33)
  have hg := Blk.new w 33 #[.int .i64 n, .int .i64 S, .int .i64 K, .int .u32 d]
  have C := refcheck_any (l := n) (s := S) (k := K) (d := d) (w := w.alloc (.cells #[.int .i64 n, .int .i64 S, .int .i64 K, .int .u32 d] 33)) (by omega)
  rw [(fit_ok hf).1] at C
  obtain ⟨L', S', K', e1, e2, e3, p1, p2, p3, p4, p5, p6, p7⟩ := plan_nat (fit_ok hf).1
  have e1' : n = L' := by omega
  have e2' : S = S' := by omega
  have e3' : K = K' := by omega
  subst e1' e2' e3'
  have hM := room_mul p2 p4
  obtain ⟨M, HM⟩ : ∃ M, M = S * K := ⟨_, rfl⟩
  have hM2 : M ≤ 268431360 := by rw [HM, Nat.mul_comm]; exact hM
  have HW : Hid (wrap64 ((S : Int) * (K : Int)) = (M : Int)) := Lib.hid (by
    rw [← Int.natCast_mul, ← HM]; exact IntWalk.wrap64_in _ ⟨by omega, by omega⟩)
  replace HM := Lib.hid HM
  have HL := Lib.hid h.1
  clear e1 e2 e3 hf p5 p6 p7 hM
  unfold pv at C ⊢
  go_enter Try.func9, Try.ntmps9
  go_wp2_with fail
  with_reducible refine C.mono ?_
  rintro e w1 ⟨rfl, b1⟩
  replace hg := hg.below b1 hg.lt
  replace hb := bstep hb b1
  clear C b1
  obtain ⟨a0, a1, a2, a3, _⟩ := cells4 hg
  have t : ((n : Int) != (n : Int)) = false := by simp
  go_wp2_with fail
  clear a0 a1 a2 a3 t
  have hms := Mid.start (S := S) (K := K) (us := us) (base := w.heap.size) p1 hg.lt
  go_loopw [7, 8, 9] (fun v1 v2 i wr => ∃ (j : Nat) (out one : Value), j ≤ M ∧ out = v1 ∧ one = v2 ∧ i = .int .i64 j ∧ Hid (Mid S K us w.heap.size wr out one j) ∧ Blk wr w.heap.size 33 #[.int .i64 n, .int .i64 S, .int .i64 K, .int .u32 d] ∧ Below w.heap.size w wr) (fun _ _ i _ => M - (intOf i).toNat)
  case atStart => exact ⟨0, _, _, by omega, rfl, rfl, rfl, Lib.hid hms, hg, hb⟩
  case round =>
    clear hms hg hb
    obtain ⟨wo, rfl⟩ : ∃ wo : World, wo = wr := ⟨_, rfl⟩
    obtain ⟨j, out, one, hj, rfl, rfl, rfl, hmid, hg, hb⟩ := hrel
    obtain ⟨w0, q, r, Hj, hr, Hwas, hbase, Hb0, Hown⟩ := hmid.out
    replace Hj := Lib.hid Hj
    replace Hwas := Lib.hid Hwas
    have Hbase := Lib.hid hbase
    clear hbase
    replace Hown := Lib.hid Hown
    have hz := hb.size
    by_cases hlt : j < M
    · have HU := Lib.hid (symL_at (S := S) (q := q) us hr)
      rw [← Hj.out] at HU
      have Hlen : Hid (((symL S us q).take r).length = r) := Lib.hid (by rw [List.length_take, symL_len]; omega)
      have hq : q < K := by
        have h1 := Hj.out
        have h2 := HM.out
        refine Nat.lt_of_not_le fun hge => ?_
        have h3 := Nat.mul_le_mul_right S hge
        rw [Nat.mul_comm K S] at h3
        omega
      have hrM : r ≤ 65535 := by omega
      by_cases hjn : j < n
      · obtain ⟨b, o, rfl, hbB, hcell⟩ := (h.step hb).at_ hjn
        generalize us[j]?.getD 0 = u at *
        obtain ⟨a0, a1, a2, a3, _⟩ := cells4 hg
        have hw := HW.out
        have ho2 := Hown.out.alloc (.cells #[.int .u8 (bv u)] 5)
        have hk2 : Below w0.heap.size w0 (wo.alloc (.cells #[.int .u8 (bv u)] 5)) := Hb0.alloc Hb0.size _
        have hk3 : w0.heap.size ≤ (wo.alloc (.cells #[.int .u8 (bv u)] 5)).heap.size := hk2.size
        have hc2 := (cells_new1 wo u)
        have hr2 : r + 1 ≤ 140737488355328 := by omega
        go_wp2_with (at_builtin; refine push_byte rfl (.tmp 38) (.tmp 40) rfl w0.heap.size _ r ((symL S us q).take r) u rfl ho2 wo.heap.size 1 rfl hc2 hr2 hk3 ?_)
        intro v2 w2 hown2 hb2
        rw [HU.out] at hown2
        clear hc2 hk3 ho2 hw a0 a1 a2 a3
        have hb3 := hk2.trans hb2
        have hb4 : Below w0.heap.size wo w2 := ((Below.refl _ _).alloc Hb0.size _).trans hb2
        clear hk2 hb2
        have hg2 := hg.below hb4 Hbase.out
        have hbw := hb.trans (hb4.mono (Nat.le_of_lt Hbase.out))
        obtain ⟨A3, c3, rfl, hrd3⟩ := Rd.of_own hown2
        have Hn2 := Lib.hid hown2
        have Hb3 := Lib.hid hb3
        clear hown2 hb3 hb4 hrd3
        obtain ⟨a0, a1, a2, a3, _⟩ := cells4 hg2
        by_cases hrS : r + 1 = S
        · have t : ((r : Int) + 1 == (S : Int)) = true := by rw [beq_iff_eq]; omega
          have Hl2 : Hid (((symL S us q).take (r + 1)).length = r + 1) := Lib.hid (by rw [List.length_take, symL_len]; omega)
          have Hlq : Hid (((symsL S K us).take q).length = q) := Lib.hid (by rw [List.length_take, symsL_len]; omega)
          have hwas2 : Was (w2.alloc (.cells #[.slice A3 (r + 1) c3] 25)) w.heap.size out ((symsL S K us).take q) := (Hwas.out.below Hb3.out).below (balloc w2 _)
          have hown3 := (own_mono (base' := w.heap.size) Hn2.out (Nat.le_of_lt Hbase.out)).alloc (.cells #[.slice A3 (r + 1) c3] 25)
          have hg3 := hg2.alloc (.cells #[.slice A3 (r + 1) c3] 25)
          have hbs : w.heap.size ≤ (w2.alloc (.cells #[.slice A3 (r + 1) c3] 25)).heap.size := by have := hbw.size; simp; omega
          have hq2 : q + 1 ≤ 5864062014805 := by omega
          have HrS := Lib.hid hrS
          clear hrS hq2
          go_wp2_with (at_builtin; refine push_row rfl (.tmp 47) (.tmp 49) rfl w.heap.size _ _ q (r + 1) _ ((symL S us q).take (r + 1)) rfl hwas2 Hlq.out Hl2.out hown3 w2.heap.size 1 rfl ?d1 ?d2 hbs ?_)
          case d1 => go_simp
          case d2 => omega
          intro v4 w4 hw4 hg4 hb5
          have hg5 := hg3.rowsGrown hwas2 hg4 (by decide)
          have hb6 := (hbw.alloc hbw.size (.cells #[.slice A3 (r + 1) c3] 25)).trans hb5
          have HM2 : Hid (Mid S K us w.heap.size w4 v4 (.slice none 0 0) (j + 1)) := Lib.hid (Mid.next Hj.out HrS.out p1 hw4 hq hg5.lt)
          clear hg4 hb5 hwas2 hown3 hg3 hg2 hw4 hbw a0 a1 a2 a3 t
          go_wp2_with fail
          go_roundw
          case rel => exact ⟨j + 1, _, _, by omega, rfl, rfl, by go_num, HM2, hg5, hb6⟩
          case measure => simp [intOf]; omega
        · have t : ((r : Int) + 1 == (S : Int)) = false := by rw [beq_eq_false_iff_ne]; omega
          have HM2 : Hid (Mid S K us w.heap.size w2 out (.slice A3 (r + 1) c3) (j + 1)) := Lib.hid (Mid.more Hj.out Hwas.out Hbase.out Hb3.out Hn2.out (by omega))
          clear hrS
          go_wp2_with fail
          go_roundw
          case rel => exact ⟨j + 1, _, _, by omega, rfl, rfl, by go_num, HM2, hg2, hbw⟩
          case measure => simp [intOf]; omega
      · have hu : us[j]?.getD 0 = 0 := by rw [List.getElem?_eq_none (by rw [HL.out]; omega)]; rfl
        have hjn2 : n ≤ j := by omega
        rw [hu] at HU
        clear hjn hu
        obtain ⟨a0, a1, a2, a3, _⟩ := cells4 hg
        have hw := HW.out
        have ho2 := Hown.out.alloc (.cells #[.int .u8 (bv 0)] 5)
        have hk2 : Below w0.heap.size w0 (wo.alloc (.cells #[.int .u8 (bv 0)] 5)) := Hb0.alloc Hb0.size _
        have hk3 : w0.heap.size ≤ (wo.alloc (.cells #[.int .u8 (bv 0)] 5)).heap.size := hk2.size
        have hc2 := (cells_new1 wo 0)
        have hr2 : r + 1 ≤ 140737488355328 := by omega
        go_wp2_with (at_builtin; refine push_byte rfl (.tmp 38) (.tmp 40) rfl w0.heap.size _ r ((symL S us q).take r) 0 rfl ho2 wo.heap.size 1 rfl hc2 hr2 hk3 ?_)
        intro v2 w2 hown2 hb2
        rw [HU.out] at hown2
        clear hc2 hk3 ho2 hw a0 a1 a2 a3
        have hb3 := hk2.trans hb2
        have hb4 : Below w0.heap.size wo w2 := ((Below.refl _ _).alloc Hb0.size _).trans hb2
        clear hk2 hb2
        have hg2 := hg.below hb4 Hbase.out
        have hbw := hb.trans (hb4.mono (Nat.le_of_lt Hbase.out))
        obtain ⟨A3, c3, rfl, hrd3⟩ := Rd.of_own hown2
        have Hn2 := Lib.hid hown2
        have Hb3 := Lib.hid hb3
        clear hown2 hb3 hb4 hrd3
        obtain ⟨a0, a1, a2, a3, _⟩ := cells4 hg2
        by_cases hrS : r + 1 = S
        · have t : ((r : Int) + 1 == (S : Int)) = true := by rw [beq_iff_eq]; omega
          have Hl2 : Hid (((symL S us q).take (r + 1)).length = r + 1) := Lib.hid (by rw [List.length_take, symL_len]; omega)
          have Hlq : Hid (((symsL S K us).take q).length = q) := Lib.hid (by rw [List.length_take, symsL_len]; omega)
          have hwas2 : Was (w2.alloc (.cells #[.slice A3 (r + 1) c3] 25)) w.heap.size out ((symsL S K us).take q) := (Hwas.out.below Hb3.out).below (balloc w2 _)
          have hown3 := (own_mono (base' := w.heap.size) Hn2.out (Nat.le_of_lt Hbase.out)).alloc (.cells #[.slice A3 (r + 1) c3] 25)
          have hg3 := hg2.alloc (.cells #[.slice A3 (r + 1) c3] 25)
          have hbs : w.heap.size ≤ (w2.alloc (.cells #[.slice A3 (r + 1) c3] 25)).heap.size := by have := hbw.size; simp; omega
          have hq2 : q + 1 ≤ 5864062014805 := by omega
          have HrS := Lib.hid hrS
          clear hrS hq2
          go_wp2_with (at_builtin; refine push_row rfl (.tmp 47) (.tmp 49) rfl w.heap.size _ _ q (r + 1) _ ((symL S us q).take (r + 1)) rfl hwas2 Hlq.out Hl2.out hown3 w2.heap.size 1 rfl ?d3 ?d4 hbs ?_)
          case d3 => go_simp
          case d4 => omega
          intro v4 w4 hw4 hg4 hb5
          have hg5 := hg3.rowsGrown hwas2 hg4 (by decide)
          have hb6 := (hbw.alloc hbw.size (.cells #[.slice A3 (r + 1) c3] 25)).trans hb5
          have HM2 : Hid (Mid S K us w.heap.size w4 v4 (.slice none 0 0) (j + 1)) := Lib.hid (Mid.next Hj.out HrS.out p1 hw4 hq hg5.lt)
          clear hg4 hb5 hwas2 hown3 hg3 hg2 hw4 hbw a0 a1 a2 a3 t
          go_wp2_with fail
          go_roundw
          case rel => exact ⟨j + 1, _, _, by omega, rfl, rfl, by go_num, HM2, hg5, hb6⟩
          case measure => simp [intOf]; omega
        · have t : ((r : Int) + 1 == (S : Int)) = false := by rw [beq_eq_false_iff_ne]; omega
          have HM2 : Hid (Mid S K us w.heap.size w2 out (.slice A3 (r + 1) c3) (j + 1)) := Lib.hid (Mid.more Hj.out Hwas.out Hbase.out Hb3.out Hn2.out (by omega))
          clear hrS
          go_wp2_with fail
          go_roundw
          case rel => exact ⟨j + 1, _, _, by omega, rfl, rfl, by go_num, HM2, hg2, hbw⟩
          case measure => simp [intOf]; omega
    · obtain rfl : j = M := by omega
      have h1 := Hj.out
      have h2 := HM.out
      have hqK : q = K := by
        rcases Nat.lt_trichotomy q K with hl | hl | hl
        · exfalso
          have h3 := Nat.mul_le_mul_right S (show q + 1 ≤ K from hl)
          rw [Nat.succ_mul, Nat.mul_comm K S] at h3
          omega
        · exact hl
        · exfalso
          have h3 := Nat.mul_le_mul_right S (show K + 1 ≤ q from hl)
          rw [Nat.succ_mul, Nat.mul_comm K S] at h3
          omega
      have hl : (symsL S K us).take q = symsL S K us := List.take_of_length_le (by rw [symsL_len]; omega)
      have hwas := Hwas.out.below Hb0
      rw [hl] at hwas
      obtain ⟨A7, c7, rfl, hrd⟩ := hwas.rds
      have hcp := hwas.capsOf rfl
      obtain ⟨a0, a1, a2, a3, _⟩ := cells4 hg
      have hw := HW.out
      clear h1 h2 hl hwas hlt hqK
      go_wp2_with fail
      go_ret2
      exact ⟨A7, c7, rfl, hrd, hcp, hb⟩
end Go.Proofs.Ytheohcebiimdoaa
