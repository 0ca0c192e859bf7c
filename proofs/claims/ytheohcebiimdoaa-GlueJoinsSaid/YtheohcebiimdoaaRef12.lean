import Derived.Test.YtheohcebiimdoaaGlue
import Derived.Test.YtheohcebiimdoaaRef10
/- The document's symbols, one behind the other. -/
namespace Go.Proofs.Ytheohcebiimdoaa
open Go.RowKit
set_option linter.unusedVariables false
set_option maxRecDepth 100000

def AllEnds (us : List UInt8) (w : World) (e : Ending) (w' : World) : Prop := ∃ A c, e = .returned (.tuple #[.slice A us.length c, .int .i64 0]) ∧ Rd w' w'.heap.size A us.length us ∧ us.length ≤ c ∧ c ≤ 9223372036854775807 ∧ Below w.heap.size w w'
def AllSays (f : Int) (us : List UInt8) (w : World) (e : Ending) (w' : World) : Prop := (f = 0 → AllEnds us w e w') ∧ (f ≠ 0 → GridEnds (.tuple #[.slice none 0 0, .int .i64 f]) w e w')
theorem AllSays.bad {f : Int} {us : List UInt8} {w : World} {e : Ending} {w' : World} (h : f ≠ 0) (k : GridEnds (.tuple #[.slice none 0 0, .int .i64 f]) w e w') : AllSays f us w e w' := ⟨fun e => absurd e h, fun _ => k⟩
theorem AllSays.ok {f : Int} {us : List UInt8} {w : World} {e : Ending} {w' : World} (h : f = 0) (k : AllEnds us w e w') : AllSays f us w e w' := ⟨fun _ => k, fun e => absurd h e⟩
theorem own_caps {w : World} {base n : Nat} {A : Option Addr} {c : Nat} {us : List UInt8} (h : w.ownsRow base 5 1 (.slice A n c) n (bvs us)) : n ≤ c ∧ c ≤ 9223372036854775807 := by
  rcases h.2 with ⟨e, _⟩ | ⟨g', cap, cur, e, _, _, hn, hm, _⟩
  · injection e with _ e1 e2; omega
  · injection e with _ e1 e2; unfold maxLen at hm; omega
set_option maxHeartbeats 1000000 in
theorem refall_any {l s k d : Int} {A : Option Addr} {n c : Nat} {rows : List (List UInt8)} {w : World} (h : Rds w w.heap.size A n rows) (hn : n ≤ 9223372036854775807) (l2 : l ≤ 9223372036854775807) :
    Calls Try.prog 20 #[pv l s k d, .slice A n c] w (AllSays (gfitC l s k rows) rows.flatten w) := by
  have hb := balloc w (.cells #[.int .i64 l, .int .i64 s, .int .i64 k, .int .u32 d] 33)
  have hg := Blk.new w 33 #[.int .i64 l, .int .i64 s, .int .i64 k, .int .u32 d]
  have C := refcheck_any (l := l) (s := s) (k := k) (d := d) (w := w.alloc (.cells #[.int .i64 l, .int .i64 s, .int .i64 k, .int .u32 d] 33)) l2
  unfold pv at *
  by_cases h0 : codeC l s k = 0
  · rw [h0] at C
    by_cases h2 : (n : Int) = k
    · have hlen := h.1
      have e : gfitC l s k rows = if lenB s.toNat rows = false then 4 else 0 := by simp [gfitC, h0, hlen, h2]
      obtain ⟨L, S, K, rfl, rfl, rfl, p1, p2, p3, p4, _⟩ := plan_nat h0
      obtain rfl : n = K := by omega
      have t : ((n : Int) != (n : Int)) = false := by simp
      obtain ⟨q, hq⟩ : ∃ q, gfitC L S n rows = q := ⟨_, rfl⟩
      rw [Int.toNat_natCast] at e
      have HQ := Lib.hid (hq.symm.trans e)
      rw [hq]
      have Hl := Lib.hid hlen
      have hR := Lib.hid fun W (hW : Below w.heap.size w W) => h.step hW
      have hM := room_mul p2 p4
      clear e hq hlen h0 h2 h
      go_enter Try.func20, Try.ntmps20
      go_wp2_with fail
      with_reducible refine C.mono ?_
      rintro e w1 ⟨rfl, b1⟩
      replace hb := bstep hb b1
      replace hg := hg.below b1 hg.lt
      obtain ⟨a0, a1, a2, a3, _⟩ := cells4 hg
      have hz0 := hg.lt
      clear C b1
      go_wp2_with fail
      clear a0 a1 a2 a3
      have hst := World.ownsRow_nil w1 w1.heap.size 5 1
      go_loopw [7, 22] (fun v i wr => ∃ (out : Value) (j : Nat), j ≤ n ∧ out = v ∧ i = .int .i64 j ∧ Hid (prefixLen S rows j) ∧ Hid (wr.ownsRow w1.heap.size 5 1 out (j * S) (bvs (rows.take j).flatten)) ∧ Blk wr w.heap.size 33 #[.int .i64 L, .int .i64 S, .int .i64 n, .int .u32 d] ∧ Below w1.heap.size w1 wr) (fun _ i _ => n - (intOf i).toNat)
      case atStart => exact ⟨_, 0, by omega, rfl, rfl, Lib.hid rfl, Lib.hid (by simpa [bvs] using hst), hg, Below.refl _ _⟩
      case round =>
        clear hst hg
        obtain ⟨out, j, hj, rfl, rfl, hp, Hown, hg, hbr⟩ := hrel
        have hbw := bstep hb hbr
        by_cases hlt : j < n
        · obtain ⟨b, off, Ak, ck, rfl, _, hc, hrk⟩ := (hR.out _ hbw).at_ hlt
          obtain ⟨a0, a1, a2, a3, _⟩ := cells4 hg
          by_cases he : (rows[j]?.getD []).length = S
          · have t : ((S : Int) != (S : Int)) = false := by simp
            have Hp := Lib.hid (prefixLen_succ hp.out (by rw [Hl.out]; exact hlt) he)
            have HT := Lib.hid (flat_take_next (rows := rows) (k := j) (by rw [Hl.out]; exact hlt))
            rw [he] at hc hrk
            have hkS : j * S + S = (j + 1) * S := by rw [Nat.succ_mul]
            have hbnd2 : j * S + S ≤ 140737488355328 := by
              have := Nat.mul_le_mul_right S (show j + 1 ≤ n from hlt)
              omega
            have Hks := Lib.hid hkS
            have hzr := hbr.size
            generalize rows[j]?.getD [] = y at *
            clear he hkS
            go_wp2_with (at_builtin; refine push_bytes rfl (.tmp 31) (.tmp 32) rfl w1.heap.size _ (j * S) ((rows.take j).flatten) rfl Hown.out Ak S ck y rfl hrk hbnd2 hzr ?_)
            intro v4 w4 ho4 hg4
            rw [HT.out, Hks.out] at ho4
            have hb5 := own_grown_below Hown.out hg4 hzr
            have hb6 := hbr.trans hb5
            have hg6 := hg.below hb5 hz0
            have Ho := Lib.hid ho4
            clear ho4 hg4 hb5 hrk hc a0 a1 a2 a3
            go_wp2_with fail
            go_roundw
            case rel => exact ⟨_, j + 1, by omega, rfl, by go_num, Hp, Ho, hg6, hb6⟩
            case measure => simp [intOf]; omega
          · have t : (((rows[j]?.getD []).length : Int) != (S : Int)) = true := by rw [bne_iff_ne]; omega
            have Hf := Lib.hid (len_false (by rw [Hl.out]; exact hlt) he)
            clear he
            go_wp2_with fail
            go_ret2
            have e4 : q = 4 := by rw [HQ.out, Hf.out]; rfl
            exact AllSays.bad (by omega) ⟨by rw [e4]; rfl, hbw⟩
        · obtain rfl : j = n := by omega
          have Hf := Lib.hid (prefixLen_all hp.out Hl.out)
          obtain ⟨A5, c5, rfl, hr5⟩ := Rd.of_own Hown.out
          have hcap := own_caps Hown.out
          have Hfl : Hid ((rows.take j).flatten = rows.flatten) := Lib.hid (by rw [List.take_of_length_le (by rw [Hl.out]; exact Nat.le_refl _)])
          have Hln : Hid (j * S = rows.flatten.length) := Lib.hid (by
            have := flat_take_len Hf.out (k := j) (by rw [Hl.out]; exact Nat.le_refl _)
            rw [Hfl.out] at this
            exact this.symm)
          rw [Hfl.out, Hln.out] at hr5
          rw [Hln.out] at hcap ⊢
          go_wp2_with fail
          go_ret2
          exact AllSays.ok (by rw [HQ.out, Hf.out]; rfl) ⟨_, _, rfl, hr5, hcap.1, hcap.2, hbw⟩
    · have e : gfitC l s k rows = 5 := by
        unfold gfitC; rw [if_neg (by omega), if_pos (by rw [h.1]; exact h2)]
      have t : ((n : Int) != k) = true := by rw [bne_iff_ne]; exact h2
      rw [e]
      clear e h2 h0 h
      go_enter Try.func20, Try.ntmps20
      go_wp2_with fail
      with_reducible refine C.mono ?_
      rintro e w1 ⟨rfl, b1⟩
      obtain ⟨a0, a1, a2, a3, _⟩ := cells4 (hg.below b1 hg.lt)
      go_wp2_with fail
      go_ret2
      exact AllSays.bad (by omega) ⟨rfl, bstep hb b1⟩
  · have e : gfitC l s k rows = codeC l s k := by simp [gfitC, h0]
    have t := ne_code h0
    have H0 := Lib.hid h0
    rw [e]
    clear e h0 h
    generalize codeC l s k = m at *
    go_enter Try.func20, Try.ntmps20
    go_wp2_with fail
    with_reducible refine C.mono ?_
    rintro e w1 ⟨rfl, b1⟩
    go_wp2_with fail
    go_ret2
    exact AllSays.bad H0.out ⟨rfl, bstep hb b1⟩
end Go.Proofs.Ytheohcebiimdoaa
