import Derived.Test.YtejnkohgecclbaaDoorL04A
import Derived.Deep.DeepCutAuto
import Derived.Deep.CutRange
/- SumBursts: the walk. -/
namespace Go.Proofs.YtejnkohgecclbaaDoor
open Go.ChangeShapes Go.WideShapes Go.ChangeAt Go.RowKit
set_option linter.unusedVariables false
set_option maxRecDepth 100000

theorem elem_size (w : World) : (sizeOf (Tryd.prog.elem 24)).run Tryd.prog w = .ok 1 w := by kernel_rfl
theorem slice_head {w : World} {B n c : Nat} {A : Option Addr} {us : List UInt8} (h : Rd w B A n us) (k : Nat) (hk : k ≤ n) (hc : n ≤ c) :
    ∃ A1 c1, (∀ w2, (Instr.slice 24 (.slice A n c) none (some (.int .i64 (k : Int))) none).run Tryd.prog w2 = .ok (.slice A1 k c1) w2) ∧ Rd w B A1 k (us.take k) := by
  refine ⟨if c = 0 then A else A.map (·.add (0 * 1)), c - 0, fun w2 => ?_, ?_⟩
  · rw [run_slice_h (P := Tryd.prog) w2 24 A n c Tryd.underlying24 .i64 k (by omega) (by omega), elem_size]
    simp [Result.andThen, sliced]
  · have hl := h.1
    refine ⟨by simp; omega, fun hp => ?_⟩
    obtain ⟨b, off, e, hb, hcell⟩ := h.2 (by omega)
    refine ⟨b, off, ?_, hb, fun i u hu => ?_⟩
    · rw [if_neg (by omega), e, Option.map_some, addr_add]; rfl
    · rw [List.getElem?_take] at hu
      split at hu
      · exact hcell i u hu
      · cases hu
theorem slice_tail {w : World} {B n c : Nat} {A : Option Addr} {us : List UInt8} (h : Rd w B A n us) (k : Nat) (hk : k ≤ n) (hc : n ≤ c) :
    ∃ A1 c1, (∀ w2, (Instr.slice 24 (.slice A n c) (some (.int .i64 (k : Int))) none none).run Tryd.prog w2 = .ok (.slice A1 (n - k) c1) w2) ∧ Rd w B A1 (n - k) (us.drop k) := by
  refine ⟨if c = k then A else A.map (·.add (k * 1)), c - k, fun w2 => ?_, ?_⟩
  · rw [run_slice_l (P := Tryd.prog) w2 24 A n c Tryd.underlying24 .i64 k (by omega) (by omega), elem_size]
    simp [Result.andThen, sliced]
  · have hl := h.1
    refine ⟨by simp; omega, fun hp => ?_⟩
    obtain ⟨b, off, e, hb, hcell⟩ := h.2 (by omega)
    refine ⟨b, off + k, ?_, hb, fun i u hu => ?_⟩
    · rw [if_neg (by omega), e, Option.map_some, addr_add, Nat.mul_one]
    · rw [List.getElem?_drop] at hu
      have := hcell (k + i) u hu
      rwa [← Nat.add_assoc] at this
theorem bursts_skip (A : Option Addr) (n c : Nat) (at_ : Int) (pat : Int) (cut : Int) (w : World) (HT : HalvesAt w) (l : n ≤ 9223372036854775807) (h : n = 0 ∨ 2000 < n) :
    Calls Tryd.prog 4 #[.slice A n c, .int .u16 at_, .int .u32 pat, .int .u16 cut] w fun e w' => e = .returned (.bool true) ∧ Below w.heap.size w w' := by
  have C := awake4 w HT
  rcases h with h | h
  · subst h
    go_enter Tryd.func4, Tryd.ntmps4
    go_wp2_with fail
    refine C.mono ?_
    rintro e w1 ⟨rfl, hb⟩
    go_wp2_with fail
    go_ret
    exact ⟨rfl, hb⟩
  · go_enter Tryd.func4, Tryd.ntmps4
    go_wp2_with fail
    refine C.mono ?_
    rintro e w1 ⟨rfl, hb⟩
    go_wp2_with fail
    go_ret
    exact ⟨rfl, hb⟩
set_option maxHeartbeats 4000000 in
theorem bursts_main (A : Option Addr) (n c : Nat) (us : List UInt8) (at_ : Int) (pat : Nat) (cut : Int) (w : World) (HT : HalvesAt w) (r : Rd w w.heap.size A n us) (hc : n ≤ c) (l0 : 0 < n) (l1 : n ≤ 2000) (a1 : 0 ≤ at_) (a2 : at_ < 65536) (hp : pat < 4294967296) (k1 : 0 ≤ cut) (k2 : cut < 65536) :
    Calls Tryd.prog 4 #[.slice A n c, .int .u16 at_, .int .u32 (rv pat), .int .u16 cut] w fun e w' => e = .returned (.bool true) ∧ Below w.heap.size w w' := by
  have C := awake4 w HT
  obtain ⟨kk, hkk⟩ : ∃ kk : Nat, cut % ((n : Int) + 1) = (kk : Int) := ⟨(cut % ((n : Int) + 1)).toNat, by have := Int.emod_nonneg cut (show (n : Int) + 1 ≠ 0 by omega); omega⟩
  have hk : kk ≤ n := by have := Int.emod_lt_of_pos cut (show (0 : Int) < (n : Int) + 1 by omega); omega
  obtain ⟨f, hf⟩ : ∃ f : Nat, at_ % (8 * (n : Int)) = (f : Int) := ⟨(at_ % (8 * (n : Int))).toNat, by have := Int.emod_nonneg at_ (show 8 * (n : Int) ≠ 0 by omega); omega⟩
  have hfn : f < 8 * n := by have := Int.emod_lt_of_pos at_ (show (0 : Int) < 8 * (n : Int) by omega); omega
  obtain ⟨A1, c1, hs1, q1⟩ := slice_head r kk hk hc
  obtain ⟨A2, c2, hs2, q2⟩ := slice_tail r kk hk hc
  have t1 : ((n : Int) == 0) = false := by simp; omega
  have t2 : decide ((2000 : Int) < n) = false := by simp; omega
  have Hkk := Lib.hid hkk
  have Hf := Lib.hid hf
  have HP := Lib.hid hp
  have HL := Lib.hid r.1
  have HT' := Lib.hid HT
  clear hf HT hp
  go_enter Tryd.func4, Tryd.ntmps4
  go_wp2_with fail
  refine C.mono ?_
  rintro e w1 ⟨rfl, hb⟩
  clear C
  go_upto_region 6 with fail
  rw [Hkk.out]
  replace r := r.step hb
  replace q1 := (q1.below hb).more hb.size
  replace q2 := (q2.below hb).more hb.size
  have hT := HT'.out.below hb
  generalize w1 = V at *
  have HTV := Lib.hid hT
  have hv : us.take kk ++ us.drop kk = us := List.take_append_drop kk us
  obtain ⟨b21, x1, x2⟩ := blk_two (w := V) (T := 24) (T2 := 24) (cs := #[.slice A1 kk c1, .slice A2 (n - kk) c2]) (cs2 := #[.slice A n c])
  obtain ⟨b12, y1, y2⟩ := blk_two (w := V) (T := 24) (T2 := 24) (cs := #[.slice A n c]) (cs2 := #[.slice A1 kk c1, .slice A2 (n - kk) c2])
  have b2 := balloc V (.cells #[.slice A1 kk c1, .slice A2 (n - kk) c2] 24)
  have E := fun (X : World) (g : Nat) (hB : Below V.heap.size V X) (hg : Blk X g 24 #[.slice A1 kk c1, .slice A2 (n - kk) c2]) => sof_rows (HTV.out.below hB) hg ((q1.below hB).more hB.size) ((q2.below hB).more hB.size) (by omega) (by omega)
  have F := fun (X : World) (g : Nat) (hB : Below V.heap.size V X) (hg : Blk X g 24 #[.slice A n c]) => sof_row (HTV.out.below hB) hg ((r.below hB).more hB.size) (by omega)
  rw [hv] at E
  have Ea := E (V.alloc (.cells #[.slice A1 kk c1, .slice A2 (n - kk) c2] 24)).drew _ b2.drew (Blk.new V _ _).drew
  have Eb := E ((V.alloc (.cells #[.slice A1 kk c1, .slice A2 (n - kk) c2] 24)).alloc (.cells #[.slice A n c] 24)).drew _ b21.drew x1.drew
  have Ec := E ((V.alloc (.cells #[.slice A n c] 24)).alloc (.cells #[.slice A1 kk c1, .slice A2 (n - kk) c2] 24)).drew _ b12.drew y2.drew
  clear hT hkk
  have HS := Lib.hid (Below.refl V.heap.size V).drew
  go_cut [42] (fun s wx => s = .bool false ∧ Below V.heap.size V wx)
  case first =>
    go_region_held3 (fun w' => Below V.heap.size V w' ∧ True) ((refine ⟨?_, trivial⟩; first | exact HS.out | assumption | exact bstep (And.left ‹Below V.heap.size V _ ∧ True›) (balloc _ _)))
      (first
        | (go_at_call 15; (with_reducible refine Ea.mono ?_); rintro e w2 ⟨rfl, b⟩; have kB := bstep b2.drew b)
        | (go_at_call 15; (with_reducible refine Eb.mono ?_); rintro e w2 ⟨rfl, b⟩; have kB := bstep b21.drew b; have kg := x2.drew.below b x2.lt)
        | (go_at_call 15; (with_reducible refine Ec.mono ?_); rintro e w2 ⟨rfl, b⟩; have kB := bstep b12.drew b; have kg := y1.drew.below b y1.lt)
        | (go_at_call 15; (with_reducible refine (F (w2.alloc (.cells #[.slice A n c] 24)) _ (bstep kB (balloc _ _)) (Blk.new _ _ _)).mono ?_); rintro e w3 ⟨rfl, b3⟩; have kB3 := bstep (bstep kB (balloc _ _)) b3)
        | (go_at_call 15; refine (F w2 _ kB kg).mono ?_; rintro e w3 ⟨rfl, b3⟩; have kB3 := bstep kB b3))
    all_goals
      go_wp2_with fail
      go_meet
      exact ⟨rfl, kB3⟩
  case rest =>
    obtain ⟨rfl, hB6⟩ := hcut
    clear Ea Eb Ec E F x1 x2 y1 y2 b21 b12 b2 HS hs1 hs2 q1 q2
    replace r := r.step hB6
    have hT6 := HTV.out.below hB6
    replace hb := bstep hb hB6
    clear HTV hB6
    generalize wc = V at *
    have HTV := Lib.hid hT6
    clear hT6
    have hg0 : (V.alloc (.cells #[] 5)).ownsRow V.heap.size 5 1 (.slice (some ⟨V.heap.size, 0, none⟩) 0 0) 0 (bvs []) := own_none0 (Blk.new V 5 #[]) (Nat.le_refl _)
    have r0 := r.step (balloc V (.cells #[] 5))
    go_wp2_with (at_builtin; refine push_bytes rfl (.tmp 43) (.tmp 44) rfl V.heap.size _ 0 [] rfl hg0 A n c us rfl r0 (by omega) (by simp) ?_)
    intro v' w8 ho hgr
    have hB8 : Below V.heap.size V w8 := (balloc V _).trans (own_grown_below hg0 hgr (by simp))
    replace ho : w8.ownsRow V.heap.size 5 1 v' n (bvs us) := by simpa using ho
    rcases ho.2 with ⟨_, h0⟩ | ⟨g, cap, cur, rfl, hbg, _, _, _, _, _⟩
    · omega
    clear hg0 r0 hgr
    go_wp2_with fail
    rw [Hf.out]
    go_loopw [12, 52] (fun t i wr => ∃ (k p : Nat) (vs : List UInt8), k ≤ 32 ∧ i = .int .i64 k ∧ t = .bool (p != 0) ∧ Hid (p < 2 ^ k ∧ num vs = num us ^^^ p * 2 ^ f ∧ vs.length = n) ∧ wr.ownsRow V.heap.size 5 1 (.slice (some ⟨g, 0, none⟩) n cap) n (bvs vs) ∧ Below V.heap.size V wr) (fun _ i _ => 32 - (intOf i).toNat)
    case atStart => exact ⟨0, 0, us, by omega, rfl, rfl, Lib.hid ⟨by decide, by simp, HL.out⟩, ho, hB8⟩
    case round =>
      clear ho hB8
      obtain ⟨k, p, vs, hk32, rfl, rfl, hpn, ho, hB8⟩ := hrel
      by_cases hlt : k < 32
      · cases hbit : pat.testBit k
        · have tb := bit_r pat k HP.out
          rw [hbit] at tb
          simp only [Bool.false_eq_true, if_false] at tb
          clear hbit
          go_wp2_with fail
          go_roundw
          case rel => exact ⟨k + 1, p, vs, by omega, by go_num, rfl, Lib.hid ⟨Nat.lt_of_lt_of_le hpn.out.1 (Nat.pow_le_pow_right (by omega) (by omega)), hpn.out.2⟩, ho, hB8⟩
          case measure => simp [intOf]; omega
        · have tb := bit_r pat k HP.out
          rw [hbit] at tb
          simp only [if_true] at tb
          clear hbit
          by_cases hin : f + k < 8 * n
          · obtain ⟨q, j, hq, hj⟩ : ∃ q j, f + k = 8 * q + j ∧ j < 8 := ⟨(f + k) / 8, (f + k) % 8, by omega, by omega⟩
            have hqn : q < n := by omega
            have hc1 := ho.cellAt q (by omega)
            have hlv := hpn.out.2.2
            rw [bvs_get vs q vs[q] (List.getElem?_eq_getElem (by omega))] at hc1
            have hfr := ho.frozenAt q
            have hd : ((f : Int) + (k : Int)) / 8 = (q : Int) := by omega
            have hm : ((f : Int) + (k : Int)) % 8 = (j : Int) := by omega
            have hfk : 0 ≤ (f : Int) + (k : Int) := by omega
            have hqi : (q : Int) < (n : Int) := by omega
            go_wp2_with fail
            go_region
            have hx : bits .xor .u8 (bv vs[q]) (2 ^ j % 256) = bv (vs[q]?.getD 0 ^^^ UInt8.ofNat (2 ^ j)) := by
              have h1 : (2 : Int) ^ j % 256 = bv (UInt8.ofNat (2 ^ j)) := by
                have h2 : 2 ^ j < 2 ^ 8 := Nat.pow_lt_pow_right (by omega) hj
                rw [bv_ofNat _ (by simpa using h2)]
                have h3 : ((2 ^ j : Nat) : Int) = (2 : Int) ^ j := by simp
                rw [← h3]
                have h5 : (2 ^ j : Nat) < 256 := by simpa using h2
                generalize (2 ^ j : Nat) = z at *
                omega
              rw [h1, bits_xor_b, List.getElem?_eq_getElem (by omega), Option.getD_some]
            rw [hx]
            have hst := (ho.stored q (.int .u8 (bv (vs[q]?.getD 0 ^^^ UInt8.ofNat (2 ^ j))))).1
            have hgg := (ho.stored q (.int .u8 (bv (vs[q]?.getD 0 ^^^ UInt8.ofNat (2 ^ j))))).2
            have hset : (bvs vs).set q (.int .u8 (bv (vs[q]?.getD 0 ^^^ UInt8.ofNat (2 ^ j)))) = bvs (vs.set q (vs[q]?.getD 0 ^^^ UInt8.ofNat (2 ^ j))) := by simp [bvs, List.map_set]
            rw [hset] at hst
            have hB9 := hB8.grown hgg hB8.size (fun k hk => by injection hk with hk; omega)
            have Hnew : Hid (p ^^^ 2 ^ k < 2 ^ (k + 1) ∧ num (vs.set q (vs[q]?.getD 0 ^^^ UInt8.ofNat (2 ^ j))) = num us ^^^ (p ^^^ 2 ^ k) * 2 ^ f ∧ (vs.set q (vs[q]?.getD 0 ^^^ UInt8.ofNat (2 ^ j))).length = n) := Lib.hid (by
              refine ⟨Nat.xor_lt_two_pow (Nat.lt_of_lt_of_le hpn.out.1 (Nat.pow_le_pow_right (by omega) (by omega))) (Nat.pow_lt_pow_right (by omega) (by omega)), ?_, by simpa using hlv⟩
              rw [num_flip j hj vs q (by omega), hpn.out.2.1, mul_xor, ← Nat.pow_add, Nat.xor_assoc, ← hq, Nat.add_comm f k])
            have Hne : Hid ((p ^^^ 2 ^ k != 0) = true) := Lib.hid (by
              have h1 : (p ^^^ 2 ^ k).testBit k = true := by
                rw [Nat.testBit_xor, Nat.testBit_lt_two_pow hpn.out.1, Nat.testBit_two_pow_self]; rfl
              simp only [bne_iff_ne, ne_eq]
              intro h0
              rw [h0, Nat.zero_testBit] at h1
              cases h1)
            clear hx hset hgg hst hc1 hfr hd hm
            have hst := (ho.stored q (.int .u8 (bv (vs[q]?.getD 0 ^^^ UInt8.ofNat (2 ^ j))))).1
            have hset : (bvs vs).set q (.int .u8 (bv (vs[q]?.getD 0 ^^^ UInt8.ofNat (2 ^ j)))) = bvs (vs.set q (vs[q]?.getD 0 ^^^ UInt8.ofNat (2 ^ j))) := by simp [bvs, List.map_set]
            rw [hset] at hst
            have hg2 : vs[q]?.getD 0 = vs[q] := by rw [List.getElem?_eq_getElem (by omega), Option.getD_some]
            rw [hg2] at hst hB9 Hnew
            have Hst := Lib.hid hst
            clear hset hst hg2
            go_wp2_with fail
            go_roundw
            case rel => exact ⟨k + 1, p ^^^ 2 ^ k, vs.set q (vs[q] ^^^ UInt8.ofNat (2 ^ j)), by omega, by go_num, by rw [Hne.out], Hnew, Hst.out, hB9.drew⟩
            case measure => simp [intOf]; omega
          · have tin : ¬ (f : Int) + (k : Int) < 8 * (n : Int) := by omega
            go_wp2_with fail
            go_roundw
            case rel => exact ⟨k + 1, p, vs, by omega, by go_num, rfl, Lib.hid ⟨Nat.lt_of_lt_of_le hpn.out.1 (Nat.pow_le_pow_right (by omega) (by omega)), hpn.out.2⟩, ho, hB8⟩
            case measure => simp [intOf]; omega
      · obtain rfl : k = 32 := by omega
        have hfin := burst (us := us) (vs := vs) (by rw [hpn.out.2.2, HL.out]) hpn.out.1 (by rw [HL.out]; omega) hpn.out.2.1
        rw [← rv_beq] at hfin
        obtain ⟨Ao, co, eo, ro⟩ := Rd.of_own ho
        injection eo with eo1 eo2 eo3
        subst eo1 eo3
        have C1 := sof_one (c := cap) (HTV.out.below hB8) ro (by omega) rfl
        have r9 := r.step hB8
        have Hfin := Lib.hid hfin
        clear hfin ho hpn
        go_wp2_with fail
        refine C1.mono ?_
        rintro e w9 ⟨rfl, b9⟩
        have hB10 := bstep hB8 b9
        have C2 := sof_one (c := c) (HTV.out.below hB10) (r.step hB10) (by omega) rfl
        clear C1
        by_cases hp0 : p = 0
        · have e1 : (rv (crcN vs) == rv (crcN us)) = true := by rw [Hfin.out, hp0]; rfl
          subst hp0
          go_wp2_with fail
          refine C2.mono ?_
          rintro e w10 ⟨rfl, b10⟩
          go_wp2_with fail
          go_ret
          exact ⟨rfl, bstep hb (bstep hB10 b10)⟩
        · have e1 : (rv (crcN vs) == rv (crcN us)) = false := by rw [Hfin.out]; simpa using hp0
          have e2 : (p != 0) = true := by simpa using hp0
          clear hp0
          go_wp2_with fail
          refine C2.mono ?_
          rintro e w10 ⟨rfl, b10⟩
          go_wp2_with fail
          go_ret
          exact ⟨rfl, bstep hb (bstep hB10 b10)⟩
end Go.Proofs.YtejnkohgecclbaaDoor
