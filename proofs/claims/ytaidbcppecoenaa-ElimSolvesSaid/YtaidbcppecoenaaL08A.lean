import Derived.Test.YtaidbcppecoenaaElimH
import Derived.Test.YtaidbcppecoenaaElimI
/- The statements of layer 8: their example, and the nil system. -/
namespace Go.Proofs.Ytaidbcppecoenaa
open Go.RowKit
set_option linter.unusedVariables false
set_option maxRecDepth 100000

theorem put_1 : putL [] ([1, 1], [3]) = ([([1, 1], [3])], 0) := by kernel_rfl
theorem put_2 : putL [([1, 1], [3])] ([0, 1], [2]) = ([([1, 0], [1]), ([0, 1], [2])], 0) := by kernel_rfl
theorem known_0 : knownL [([1, 0], [1]), ([0, 1], [2])] 0 = some [1] := by kernel_rfl
theorem known_1 : knownL [([1, 0], [1]), ([0, 1], [2])] 1 = some [2] := by kernel_rfl
theorem Sys.fresh {w : World} {g k t : Nat} (hg : Blk w g 99 #[.int .i64 (k : Int), .int .i64 (t : Int), .slice none 0 0]) (h1 : 1 ≤ k) (h2 : k ≤ 4096) (h3 : t ≤ 65535) : Sys w g k t [] (.slice none 0 0) :=
  ⟨hg, ⟨[], SRow.nil _, StepsOf.nil _⟩, Good.nil _ _, ⟨Ech.nil, fun e he => by simp [ledE] at he⟩, h1, h2, h3, by simp [Value.ownBlock]⟩
theorem lit_row (w : World) (a b c : UInt8) : Below w.heap.size w ((w.alloc (.cells #[.int .u8 (bv a), .int .u8 (bv b)] 5)).alloc (.cells #[.int .u8 (bv c)] 5)) ∧
    Calls Try.prog 48 #[.slice (some ⟨w.heap.size, 0, none⟩) 2 2, .slice (some ⟨w.heap.size + 1, 0, none⟩) 1 1] ((w.alloc (.cells #[.int .u8 (bv a), .int .u8 (bv b)] 5)).alloc (.cells #[.int .u8 (bv c)] 5))
      (RowEnds ([a, b], [c]) ((w.alloc (.cells #[.int .u8 (bv a), .int .u8 (bv b)] 5)).alloc (.cells #[.int .u8 (bv c)] 5))) := by
  obtain ⟨hb, h1, h2⟩ := two_alloc (w := w) (T := 5) (T2 := 5) (cs := (bvs [a, b]).toArray) (cs2 := (bvs [c]).toArray)
  exact ⟨hb, vof_any (us := [a, b]) (vs := [c]) ((Rd.of_blk h1).more h1.lt) ((Rd.of_blk h2).more h2.lt) (by omega) (by omega)⟩
theorem lit_one (w : World) (c : UInt8) : Below w.heap.size w (w.alloc (.cells #[.int .u8 (bv c)] 5)) ∧ Rd (w.alloc (.cells #[.int .u8 (bv c)] 5)) (w.alloc (.cells #[.int .u8 (bv c)] 5)).heap.size (some ⟨w.heap.size, 0, none⟩) 1 [c] := by
  have h1 := Blk.new w 5 (bvs [c]).toArray
  exact ⟨balloc w _, (Rd.of_blk (us := [c]) h1).more h1.lt⟩
set_option maxHeartbeats 1000000 in
theorem awake8 (w : World) : Calls Try.prog 25 #[] w (GridEnds (.bool true) w) := by
  have HL := Lib.hid fun (w : World) (a b c : UInt8) => lit_row w a b c
  have HO := Lib.hid fun (w : World) (c : UInt8) => lit_one w c
  have CN := Lib.hid (enew_ok 2 1 w (by omega) (by omega) (by omega))
  go_enter Try.func25, Try.ntmps25
  go_wp2_with fail
  refine CN.out.mono ?_
  rintro e w1 ⟨g, rfl, hg, hge, b1⟩
  have hS := Sys.fresh hg (by omega) (by omega) (by omega)
  obtain ⟨b2, C2⟩ := HL.out w1 1 1 3
  replace hS := hS.step b2
  replace b2 := bstep b1 b2
  clear CN b1 hg
  go_wp2_with fail
  refine C2.mono ?_
  rintro e w2 ⟨x, rfl, hr, b3⟩
  replace hS := hS.step b3
  replace b3 := bstep b2 b3
  clear b2 C2
  have CP := eput_ok hS hr rfl rfl
  rw [put_1] at CP
  have HI := Lib.hid hS.lt
  clear hS hr
  go_wp2_with fail
  refine CP.mono ?_
  rintro e w3 ⟨v3, rfl, hS, hI3, hC⟩
  have b4 : Below w.heap.size w w3 := b3.trans (hC.below b3.size fun q hq => by
    rcases hq with rfl | hq
    · exact hge
    · simp [Value.ownBlock] at hq)
  have HJ : Hid (∀ q, Its g v3 q → w.heap.size ≤ q) := Lib.hid fun q hq => by
    have := b3.size
    rcases hI3 q hq with h | h
    · rcases h with rfl | h
      · exact hge
      · simp [Value.ownBlock] at h
    · omega
  clear CP hI3 hC b3 HI
  obtain ⟨b5, C2⟩ := HL.out w3 0 1 2
  replace hS := hS.step b5
  replace b5 := bstep b4 b5
  clear b4
  go_wp2_with fail
  refine C2.mono ?_
  rintro e w4 ⟨y, rfl, hr, b6⟩
  replace hS := hS.step b6
  replace b6 := bstep b5 b6
  clear b5 C2
  have CP := eput_ok hS hr rfl rfl
  rw [put_2] at CP
  clear hS hr
  go_wp2_with fail
  refine CP.mono ?_
  rintro e w5 ⟨v5, rfl, hS, _, hC⟩
  have b7 : Below w.heap.size w w5 := b6.trans (hC.below b6.size fun q hq => HJ.out q hq)
  clear CP hC b6 HJ
  have CK := eknown_any (i := 0) hS (by omega) (by omega)
  rw [known_0] at CK
  go_wp2_with fail
  refine CK.mono ?_
  rintro e w6 ⟨⟨A1, n1, c1, rfl, r1⟩, b8⟩
  replace hS := hS.step b8
  replace b8 := bstep b7 b8
  clear b7 CK
  have CK := eknown_any (i := 1) hS (by omega) (by omega)
  rw [known_1] at CK
  go_wp2_with fail
  refine CK.mono ?_
  rintro e w7 ⟨⟨A2, n2, c2, rfl, r2⟩, b9⟩
  replace r1 := r1.step b9
  replace b9 := bstep b8 b9
  clear b8 CK hS
  have hn1 := r1.1
  have hn2 := r2.1
  obtain ⟨b10, r3⟩ := HO.out w7 1
  replace r1 := r1.step b10
  replace r2 := r2.step b10
  replace b10 := bstep b9 b10
  go_wp2_with fail
  refine (same_any r1 r3 (Nat.le_refl _) (Nat.le_refl _) (by simp at hn1; omega)).mono ?_
  rintro e w8 ⟨rfl, b11⟩
  replace r2 := r2.step b11
  replace b11 := bstep b10 b11
  clear b10 r1 r3
  obtain ⟨b12, r4⟩ := HO.out w8 2
  replace r2 := r2.step b12
  replace b12 := bstep b11 b12
  go_wp2_with fail
  refine (same_any r2 r4 (Nat.le_refl _) (Nat.le_refl _) (by simp at hn2; omega)).mono ?_
  rintro e w9 ⟨rfl, b13⟩
  replace b13 := bstep b12 b13
  clear b12 r2 r4
  go_wp2_with fail
  go_ret
  exact ⟨rfl, b13⟩
end Go.Proofs.Ytaidbcppecoenaa

