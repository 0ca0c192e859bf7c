import Derived.Test.YtheohcebiimdoaaPlan
/- Contracts of package cut: an object in symbols. -/
namespace Go.Proofs.Ytheohcebiimdoaa
open Go.RowKit
set_option linter.unusedVariables false
set_option maxRecDepth 100000

/-! ### Symbols -/
theorem cutTo_get (n : Nat) (us : List UInt8) (i : Nat) : (cutTo n us)[i]? = if i < n then some (us[i]?.getD 0) else none := by
  unfold cutTo nulls
  by_cases h : i < n
  · rw [if_pos h]
    by_cases h2 : i < us.length
    · rw [List.getElem?_append_left (by rw [List.length_take]; omega), List.getElem?_take, if_pos h]
      simp [h2]
    · rw [List.getElem?_append_right (by rw [List.length_take]; omega), List.length_take, List.getElem?_replicate, if_pos (by omega)]
      simp [h2]
  · rw [if_neg h]
    exact List.getElem?_eq_none (by rw [List.length_append, List.length_take, List.length_replicate]; omega)
theorem cutTo_add (a b : Nat) (us : List UInt8) : cutTo (a + b) us = cutTo a us ++ cutTo b (us.drop a) := by
  apply List.ext_getElem?
  intro i
  by_cases h : i < a
  · rw [List.getElem?_append_left (by rw [cutTo_len]; exact h), cutTo_get, cutTo_get, if_pos h, if_pos (by omega)]
  · rw [List.getElem?_append_right (by rw [cutTo_len]; omega), cutTo_len, cutTo_get, cutTo_get, List.getElem?_drop]
    by_cases h2 : i < a + b
    · rw [if_pos h2, if_pos (by omega), show a + (i - a) = i by omega]
    · rw [if_neg h2, if_neg (by omega)]
/-- The symbol of a number. -/
def symL (S : Nat) (us : List UInt8) (i : Nat) : List UInt8 := cutTo S (us.drop (i * S))
/-- All symbols. -/
def symsL (S K : Nat) (us : List UInt8) : List (List UInt8) := (List.range K).map (symL S us)
theorem symL_len (S : Nat) (us : List UInt8) (i : Nat) : (symL S us i).length = S := cutTo_len _ _
theorem symsL_len (S K : Nat) (us : List UInt8) : (symsL S K us).length = K := by simp [symsL]
theorem symsL_get {S K k : Nat} (us : List UInt8) (h : k < K) : (symsL S K us)[k]? = some (symL S us k) := by simp [symsL, h]
theorem symsL_take {S K k : Nat} {us : List UInt8} (h : k < K) : (symsL S K us).take k ++ [symL S us k] = (symsL S K us).take (k + 1) := by
  rw [List.take_succ_eq_append_getElem (by rw [symsL_len]; exact h)]
  simp [symsL]
/-! ### fits -/
def fitC (l s k : Int) (n : Nat) : Int := if codeC l s k ≠ 0 then codeC l s k else if (n : Int) = l then 0 else 4
theorem fit_ok {l s k : Int} {n : Nat} (h : fitC l s k n = 0) : codeC l s k = 0 ∧ (n : Int) = l := by
  unfold fitC at h
  split at h
  · contradiction
  · split at h
    · rename_i h1 h2; exact ⟨by omega, h2⟩
    · omega
theorem cfits_any {l s k d : Int} {A : Option Addr} {n c : Nat} {w : World} (l2 : l ≤ 9223372036854775807) :
    Calls Try.prog 23 #[pv l s k d, .slice A n c] w (GridEnds (.int .i64 (fitC l s k n)) w) := by
  have hb := balloc w (.cells #[.int .i64 l, .int .i64 s, .int .i64 k, .int .u32 d] 24)
  have hg := Blk.new w 24 #[.int .i64 l, .int .i64 s, .int .i64 k, .int .u32 d]
  have C := pcheck_any (l := l) (s := s) (k := k) (d := d) (w := w.alloc (.cells #[.int .i64 l, .int .i64 s, .int .i64 k, .int .u32 d] 24)) l2
  unfold pv at *
  by_cases h : codeC l s k = 0
  · rw [h] at C
    by_cases h2 : (n : Int) = l
    · have e : fitC l s k n = 0 := by simp [fitC, h, h2]
      have t : ((n : Int) != l) = false := by rw [h2]; simp
      rw [e]
      clear e h h2
      go_enter Try.func23, Try.ntmps23
      go_wp2_with fail
      with_reducible refine C.mono ?_
      rintro e w1 ⟨rfl, b1⟩
      obtain ⟨a0, _⟩ := cells4 (hg.below b1 hg.lt)
      go_wp2_with fail
      go_ret
      exact ⟨rfl, bstep hb b1⟩
    · have e : fitC l s k n = 4 := by simp [fitC, h, h2]
      have t : ((n : Int) != l) = true := by rw [bne_iff_ne]; exact h2
      rw [e]
      clear e h h2
      go_enter Try.func23, Try.ntmps23
      go_wp2_with fail
      with_reducible refine C.mono ?_
      rintro e w1 ⟨rfl, b1⟩
      obtain ⟨a0, _⟩ := cells4 (hg.below b1 hg.lt)
      go_wp2_with fail
      go_ret
      exact ⟨rfl, bstep hb b1⟩
  · have e : fitC l s k n = codeC l s k := by simp [fitC, h]
    have t := ne_code h
    rw [e]
    clear e h
    generalize codeC l s k = m at *
    go_enter Try.func23, Try.ntmps23
    go_wp2_with fail
    with_reducible refine C.mono ?_
    rintro e w1 ⟨rfl, b1⟩
    go_wp2_with fail
    go_ret
    exact ⟨rfl, bstep hb b1⟩
/-! ### stretch -/
def SymEnds (S : Nat) (us : List UInt8) (w : World) (e : Ending) (w' : World) : Prop := ∃ g, e = .returned (.slice (some ⟨g, 0, none⟩) S S) ∧ Blk w' g 5 (bvs us).toArray ∧ w.heap.size ≤ g ∧ Below w.heap.size w w'
set_option maxHeartbeats 1000000 in
theorem cstretch_in {b o : Nat} {n c S i p : Nat} {K d : Int} {us y : List UInt8} {w : World} (h : Rd w w.heap.size (some ⟨b, o, none⟩) n us) (hc : n ≤ c) (hcc : c ≤ 9223372036854775807) (hS : S ≤ 65535) (hi : i ≤ 4096) (hpi : i * S = p) (hy : y = cutTo S (us.drop p)) (hpn : p < n) :
    Calls Try.prog 24 #[pv n S K d, .slice (some ⟨b, o, none⟩) n c, .int .i64 (i : Int)] w (SymEnds S y w) := by
  have hb := balloc w (.cells #[.int .i64 n, .int .i64 S, .int .i64 K, .int .u32 d] 24)
  have hmk := make_bytes S (by omega) (w.alloc (.cells #[.int .i64 n, .int .i64 S, .int .i64 K, .int .u32 d] 24))
  have hg0 := Blk.new (w.alloc (.cells #[.int .i64 n, .int .i64 S, .int .i64 K, .int .u32 d] 24)) 5 (bvs (nulls S)).toArray
  have hb0 := bstep hb (balloc _ (.cells (bvs (nulls S)).toArray 5))
  have hm := room_mul hS hi
  rw [hpi] at hm
  have HL := Lib.hid h.1
  have HY := Lib.hid hy
  have hr := h.below hb0
  rw [World.size_alloc] at hg0
  have hr2 := hr.part_last (m := p) (by omega)
  have hcp : ¬ c = p := by omega
  have hpc : p ≤ c := by omega
  have hw : wrap64 ((i : Int) * (S : Int)) = (p : Int) := by
    rw [← Int.natCast_mul, hpi]; exact IntWalk.wrap64_in _ ⟨by omega, by omega⟩
  unfold pv
  clear h hm hb hpi hy
  go_enter Try.func24, Try.ntmps24
  go_wp2_with (refine copy_some (B := w.heap.size) (o := ⟨some 18, _, _, _, _, _⟩) rfl (.tmp 11) (.tmp 17) rfl (w.heap.size + 1) S (n - p) (c - p) (some ⟨b, o + p, none⟩) (us.drop p) rfl rfl ?c1 ?c2 w.heap.size w ?c3 ?c4 ?_)
  any_goals first | with_reducible exact hg0 | exact Nat.le_succ _ | with_reducible exact hb0 | exact hr2
  intro w1 hg1 hb1
  rw [← HY.out] at hg1
  go_wp2_with fail
  go_ret
  exact ⟨_, rfl, hg1, Nat.le_succ _, hb1⟩
set_option maxHeartbeats 1000000 in
theorem cstretch_end {A : Option Addr} {n c S i p : Nat} {K d : Int} {us y : List UInt8} {w : World} (h : Rd w w.heap.size A n us) (hc : n ≤ c) (hcc : c ≤ 9223372036854775807) (hS : S ≤ 65535) (hi : i ≤ 4096) (hpi : i * S = p) (hy : y = cutTo S (us.drop p)) (hpn : p = n) (hcp : c = p) :
    Calls Try.prog 24 #[pv n S K d, .slice A n c, .int .i64 (i : Int)] w (SymEnds S y w) := by
  have hb := balloc w (.cells #[.int .i64 n, .int .i64 S, .int .i64 K, .int .u32 d] 24)
  have hmk := make_bytes S (by omega) (w.alloc (.cells #[.int .i64 n, .int .i64 S, .int .i64 K, .int .u32 d] 24))
  have hg0 := Blk.new (w.alloc (.cells #[.int .i64 n, .int .i64 S, .int .i64 K, .int .u32 d] 24)) 5 (bvs (nulls S)).toArray
  have hb0 := bstep hb (balloc _ (.cells (bvs (nulls S)).toArray 5))
  have hm := room_mul hS hi
  rw [hpi] at hm
  have HL := Lib.hid h.1
  have HY := Lib.hid hy
  have hr := h.below hb0
  rw [World.size_alloc] at hg0
  subst hpn
  obtain rfl : p = c := hcp.symm
  have hw : wrap64 ((i : Int) * (S : Int)) = (p : Int) := by
    rw [← Int.natCast_mul, hpi]; exact IntWalk.wrap64_in _ ⟨by omega, by omega⟩
  unfold pv
  clear h hm hb hpi hy
  go_enter Try.func24, Try.ntmps24
  go_wp2_with (refine copy_some (B := w.heap.size) (o := ⟨some 18, _, _, _, _, _⟩) rfl (.tmp 11) (.tmp 17) rfl (w.heap.size + 1) S 0 0 A (us.drop p) rfl rfl ?c1 ?c2 w.heap.size w ?c3 ?c4 ?_)
  any_goals first | with_reducible exact hg0 | exact Nat.le_succ _ | with_reducible exact hb0 | exact Rd.part_none (by rw [HL.out]; exact Nat.le_refl _)
  intro w1 hg1 hb1
  rw [← HY.out] at hg1
  go_wp2_with fail
  go_ret
  exact ⟨_, rfl, hg1, Nat.le_succ _, hb1⟩
set_option maxHeartbeats 1000000 in
theorem cstretch_none {n c S i p : Nat} {K d : Int} {us y : List UInt8} {w : World} (h : Rd w w.heap.size none n us) (hc : n ≤ c) (hcc : c ≤ 9223372036854775807) (hS : S ≤ 65535) (hi : i ≤ 4096) (hpi : i * S = p) (hy : y = cutTo S (us.drop p)) (hpn : p = n) (hcp : ¬ c = p) :
    Calls Try.prog 24 #[pv n S K d, .slice none n c, .int .i64 (i : Int)] w (SymEnds S y w) := by
  have hb := balloc w (.cells #[.int .i64 n, .int .i64 S, .int .i64 K, .int .u32 d] 24)
  have hmk := make_bytes S (by omega) (w.alloc (.cells #[.int .i64 n, .int .i64 S, .int .i64 K, .int .u32 d] 24))
  have hg0 := Blk.new (w.alloc (.cells #[.int .i64 n, .int .i64 S, .int .i64 K, .int .u32 d] 24)) 5 (bvs (nulls S)).toArray
  have hb0 := bstep hb (balloc _ (.cells (bvs (nulls S)).toArray 5))
  have hm := room_mul hS hi
  rw [hpi] at hm
  have HL := Lib.hid h.1
  have HY := Lib.hid hy
  have hr := h.below hb0
  rw [World.size_alloc] at hg0
  subst hpn
  have hw : wrap64 ((i : Int) * (S : Int)) = (p : Int) := by
    rw [← Int.natCast_mul, hpi]; exact IntWalk.wrap64_in _ ⟨by omega, by omega⟩
  unfold pv
  clear h hm hb hpi hy
  go_enter Try.func24, Try.ntmps24
  go_wp2_with (refine copy_some (B := w.heap.size) (o := ⟨some 18, _, _, _, _, _⟩) rfl (.tmp 11) (.tmp 17) rfl (w.heap.size + 1) S 0 (c - p) none (us.drop p) rfl rfl ?c1 ?c2 w.heap.size w ?c3 ?c4 ?_)
  any_goals first | with_reducible exact hg0 | exact Nat.le_succ _ | with_reducible exact hb0 | exact Rd.part_none (by rw [HL.out]; exact Nat.le_refl _)
  intro w1 hg1 hb1
  rw [← HY.out] at hg1
  go_wp2_with fail
  go_ret
  exact ⟨_, rfl, hg1, Nat.le_succ _, hb1⟩
set_option maxHeartbeats 1000000 in
theorem cstretch_some {ad : Addr} {n c S i p : Nat} {K d : Int} {us y : List UInt8} {w : World} (h : Rd w w.heap.size (some ad) n us) (hc : n ≤ c) (hcc : c ≤ 9223372036854775807) (hS : S ≤ 65535) (hi : i ≤ 4096) (hpi : i * S = p) (hy : y = cutTo S (us.drop p)) (hpn : p = n) (hcp : ¬ c = p) :
    Calls Try.prog 24 #[pv n S K d, .slice (some ad) n c, .int .i64 (i : Int)] w (SymEnds S y w) := by
  have hb := balloc w (.cells #[.int .i64 n, .int .i64 S, .int .i64 K, .int .u32 d] 24)
  have hmk := make_bytes S (by omega) (w.alloc (.cells #[.int .i64 n, .int .i64 S, .int .i64 K, .int .u32 d] 24))
  have hg0 := Blk.new (w.alloc (.cells #[.int .i64 n, .int .i64 S, .int .i64 K, .int .u32 d] 24)) 5 (bvs (nulls S)).toArray
  have hb0 := bstep hb (balloc _ (.cells (bvs (nulls S)).toArray 5))
  have hm := room_mul hS hi
  rw [hpi] at hm
  have HL := Lib.hid h.1
  have HY := Lib.hid hy
  have hr := h.below hb0
  rw [World.size_alloc] at hg0
  subst hpn
  have hw : wrap64 ((i : Int) * (S : Int)) = (p : Int) := by
    rw [← Int.natCast_mul, hpi]; exact IntWalk.wrap64_in _ ⟨by omega, by omega⟩
  unfold pv
  clear h hm hb hpi hy
  go_enter Try.func24, Try.ntmps24
  go_wp2_with (refine copy_some (B := w.heap.size) (o := ⟨some 18, _, _, _, _, _⟩) rfl (.tmp 11) (.tmp 17) rfl (w.heap.size + 1) S 0 (c - p) (some (ad.add p)) (us.drop p) rfl rfl ?c1 ?c2 w.heap.size w ?c3 ?c4 ?_)
  any_goals first | with_reducible exact hg0 | exact Nat.le_succ _ | with_reducible exact hb0 | exact Rd.part_none (by rw [HL.out]; exact Nat.le_refl _)
  intro w1 hg1 hb1
  rw [← HY.out] at hg1
  go_wp2_with fail
  go_ret
  exact ⟨_, rfl, hg1, Nat.le_succ _, hb1⟩
theorem cstretch_any {A : Option Addr} {n c S i : Nat} {K d : Int} {us : List UInt8} {w : World} (h : Rd w w.heap.size A n us) (hc : n ≤ c) (hcc : c ≤ 9223372036854775807) (hS : S ≤ 65535) (hi : i ≤ 4096) (hp : i * S ≤ n) :
    Calls Try.prog 24 #[pv n S K d, .slice A n c, .int .i64 (i : Int)] w (SymEnds S (symL S us i) w) := by
  by_cases hpn : i * S < n
  · obtain ⟨b, o, rfl, hbl, _⟩ := h.at_ (show 0 < n by omega)
    exact cstretch_in h hc hcc hS hi rfl rfl hpn
  · by_cases hcp : c = i * S
    · exact cstretch_end h hc hcc hS hi rfl rfl (by omega) hcp
    · cases A with
      | none => exact cstretch_none h hc hcc hS hi rfl rfl (by omega) hcp
      | some ad => exact cstretch_some h hc hcc hS hi rfl rfl (by omega) hcp

/-! ### Cut -/
def RoomSl (v : Value) : Prop := ∃ A m c, v = .slice A m c ∧ m ≤ c ∧ c ≤ 9223372036854775807
/-- Block g holds n slices, none of which is longer than its room. -/
def Roomy (w : World) (g n : Nat) : Prop := ∃ cs : List Value, cs.length = n ∧ Blk w g 25 cs.toArray ∧ ∀ v ∈ cs, RoomSl v
theorem Roomy.lt {w : World} {g n : Nat} (h : Roomy w g n) : g < w.heap.size := by obtain ⟨cs, _, h2, _⟩ := h; exact h2.lt
theorem Roomy.step {w w' : World} {g n : Nat} (h : Roomy w g n) (hb : Below w.heap.size w w') : Roomy w' g n := by
  obtain ⟨cs, h1, h2, h3⟩ := h
  exact ⟨cs, h1, h2.below hb h2.lt, h3⟩
theorem Roomy.new (w : World) (n : Nat) : Roomy (w.alloc (.cells (nils n).toArray 25)) w.heap.size n := by
  refine ⟨nils n, by simp [nils], Blk.new _ _ _, fun v hv => ?_⟩
  simp only [nils, List.mem_replicate] at hv
  exact ⟨_, _, _, hv.2, Nat.le_refl _, by omega⟩
theorem Roomy.put {w : World} {g n k m c : Nat} {A : Option Addr} (h : Roomy w g n) (hm : m ≤ c) (hc : c ≤ 9223372036854775807) : Roomy (w.setCell ⟨g, k, none⟩ (.slice A m c)) g n := by
  obtain ⟨cs, h1, h2, h3⟩ := h
  refine ⟨cs.set k (.slice A m c), by simpa using h1, by simpa using h2.set k (.slice A m c), fun v hv => ?_⟩
  rcases List.mem_or_eq_of_mem_set hv with hv | rfl
  · exact h3 v hv
  · exact ⟨_, _, _, rfl, hm, hc⟩
theorem below_plan {L S K i : Nat} (h1 : 1 ≤ L → (K - 1) * S < L) (h0 : L = 0 → K = 1) (hi : i < K) : i * S ≤ L := by
  by_cases hl : 1 ≤ L
  · have := h1 hl
    have := Nat.mul_le_mul_right S (show i ≤ K - 1 by omega)
    omega
  · have := h0 (by omega)
    obtain rfl : i = 0 := by omega
    omega
def SymsEnds (S K : Nat) (us : List UInt8) (w : World) (e : Ending) (w' : World) : Prop := ∃ g, e = .returned (.tuple #[.slice (some ⟨g, 0, none⟩) K K, .int .i64 0]) ∧ Filled w' g K (symsL S K us) ∧ Roomy w' g K ∧ w.heap.size ≤ g ∧ Below w.heap.size w w'
set_option maxHeartbeats 600000 in
theorem ccut_ok {A : Option Addr} {n c S K : Nat} {d : Int} {us : List UInt8} {w : World} (h : Rd w w.heap.size A n us) (hc : n ≤ c) (hcc : c ≤ 9223372036854775807) (hf : fitC n S K n = 0) :
    Calls Try.prog 8 #[pv n S K d, .slice A n c] w (SymsEnds S K us w) := by
  have hb := balloc w (.cells #[.int .i64 n, .int .i64 S, .int .i64 K, .int .u32 d] 24)
  have hg := Blk.new w 24 #[.int .i64 n, .int .i64 S, .int .i64 K, .int .u32 d]
  have C := cfits_any (l := n) (s := S) (k := K) (d := d) (A := A) (n := n) (c := c) (w := w.alloc (.cells #[.int .i64 n, .int .i64 S, .int .i64 K, .int .u32 d] 24)) (by omega)
  rw [hf] at C
  obtain ⟨L', S', K', e1, e2, e3, p1, p2, p3, p4, p5, p6, p7⟩ := plan_nat (fit_ok hf).1
  have e1' : n = L' := by omega
  have e2' : S = S' := by omega
  have e3' : K = K' := by omega
  subst e1' e2' e3'
  have HC : Hid (∀ i V, i < K → Below w.heap.size w V → Calls Try.prog 24 #[.agg #[.int .i64 n, .int .i64 S, .int .i64 K, .int .u32 d], .slice A n c, .int .i64 (i : Int)] V (SymEnds S (symL S us i) V)) := Lib.hid fun i V hi hV =>
    cstretch_any (h.step hV) hc hcc p2 (by omega) (below_plan p6 p7 hi)
  clear e1 e2 e3 hf p5 p6 p7 h
  unfold pv at C ⊢
  go_enter Try.func8, Try.ntmps8
  go_wp2_with fail
  with_reducible refine C.mono ?_
  rintro e w1 ⟨rfl, b1⟩
  replace hg := hg.below b1 hg.lt
  replace hb := bstep hb b1
  clear C b1
  have hmk := make_rows K (by omega) w1
  have hF := Filled.new w1 K
  have hY := Roomy.new w1 K
  have hge : w.heap.size < w1.heap.size := hg.lt
  have hb1 := bstep hb (balloc w1 (.cells (nils K).toArray 25))
  have hg1 := hg.alloc (.cells (nils K).toArray 25)
  obtain ⟨a0, a1, a2, a3, _⟩ := cells4 hg
  go_wp2_with fail
  clear a0 a1 a2 a3 hmk hg hb
  go_loopw [20] (fun i wr => ∃ k : Nat, k ≤ K ∧ i = .int .i64 k ∧ Filled wr w1.heap.size K ((symsL S K us).take k) ∧ Roomy wr w1.heap.size K ∧ Blk wr w.heap.size 24 #[.int .i64 n, .int .i64 S, .int .i64 K, .int .u32 d] ∧ Below w.heap.size w wr) (fun i _ => K - (intOf i).toNat)
  case atStart => exact ⟨0, by omega, rfl, hF, hY, hg1, hb1⟩
  case round =>
    clear hF hg1 hb1 hY
    obtain ⟨k, hk, rfl, hF, hY, hg, hb⟩ := hrel
    by_cases hlt : k < K
    · have C := HC.out k wr hlt hb
      have HL := Lib.hid (symL_len S us k)
      have HT : Hid ((symsL S K us).take k ++ [symL S us k] = (symsL S K us).take (k + 1)) := Lib.hid (symsL_take hlt)
      have HK : Hid (((symsL S K us).take k).length = k) := Lib.hid (by rw [List.length_take, symsL_len]; omega)
      generalize symL S us k = y at *
      obtain ⟨a0, a1, a2, a3, _⟩ := cells4 hg
      go_wp2_with fail
      with_reducible refine C.mono ?_
      rintro e w2 ⟨g, rfl, hu, hgg, b1⟩
      replace hF := hF.step b1
      replace hY := hY.step b1
      replace hg := hg.below b1 hg.lt
      replace hb := bstep hb b1
      clear C a0 a1 a2 a3
      obtain ⟨⟨A', m, c', hcell⟩, hfz⟩ := hF.cell hlt
      have hr := (Rd.of_blk hu).more hu.lt
      rw [HL.out] at hr
      have HP := Lib.hid (hF.put (c := S) HK.out hlt HL.out hr)
      rw [HT.out] at HP
      have HY := Lib.hid (hY.put (k := k) (A := some ⟨g, 0, none⟩) (Nat.le_refl S) (by omega))
      have HG := Lib.hid (hg.far (p := (⟨w1.heap.size, k, none⟩ : Addr)) (by simp; omega) (.slice (some ⟨g, 0, none⟩) S S))
      have HB := Lib.hid (hb.setCell (p := (⟨w1.heap.size, k, none⟩ : Addr)) (by simp; omega) (.slice (some ⟨g, 0, none⟩) S S))
      clear hr hF hg hb hu b1 hY
      go_wp2_with fail
      go_roundw
      case rel => exact ⟨k + 1, by omega, by go_num, HP.out, HY.out, HG.out, HB.out⟩
      case measure => simp [intOf]; omega
    · obtain rfl : k = K := by omega
      have hl : (symsL S k us).take k = symsL S k us := List.take_of_length_le (by rw [symsL_len]; omega)
      rw [hl] at hF
      clear hl hlt
      go_wp2_with fail
      go_ret2
      exact ⟨_, rfl, hF, hY, by omega, hb⟩
end Go.Proofs.Ytheohcebiimdoaa
