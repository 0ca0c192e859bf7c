
/- The field of 256 bytes, plainly: products by shifts, their laws, powers, inverses. Nothing of the program. -/
namespace Go.Proofs.Ytaidbcppecoenaa
def xt (a : UInt8) : UInt8 := if a >>> 7 = 1 then (a <<< 1) ^^^ 29 else a <<< 1
def xts : Nat → UInt8 → UInt8
  | 0, a => a
  | k + 1, a => xt (xts k a)
def bit (b : UInt8) (k : Nat) : Bool := b.toNat.testBit k
def gmTo (a b : UInt8) : Nat → UInt8
  | 0 => 0
  | k + 1 => if bit b k then gmTo a b k ^^^ xts k a else gmTo a b k
def gm (a b : UInt8) : UInt8 := gmTo a b 8
def gpow (a : UInt8) : Nat → UInt8
  | 0 => 1
  | n + 1 => gm (gpow a n) a

/-- Checked at all 256 bytes. -/
theorem all_u8 {P : UInt8 → Bool} (h : (List.range 256).all (fun n => P (UInt8.ofNat n)) = true) (a : UInt8) : P a = true := by
  have := List.all_eq_true.1 h a.toNat (by simpa using a.toNat_lt)
  simpa using this

def Lin (f : UInt8 → UInt8) : Prop := ∀ x y, f (x ^^^ y) = f x ^^^ f y
theorem Lin.zero {f : UInt8 → UInt8} (h : Lin f) : f 0 = 0 := by
  have := h 0 0
  simpa using this

def pick (c : Bool) (x : UInt8) : UInt8 := if c then x else 0
def bits8 (b : UInt8) : UInt8 := pick (bit b 0) 1 ^^^ pick (bit b 1) 2 ^^^ pick (bit b 2) 4 ^^^ pick (bit b 3) 8 ^^^ pick (bit b 4) 16 ^^^ pick (bit b 5) 32 ^^^ pick (bit b 6) 64 ^^^ pick (bit b 7) 128
theorem bits8_eq (b : UInt8) : bits8 b = b :=
  of_decide_eq_true (all_u8 (P := fun b => decide (bits8 b = b)) (by decide +kernel) b)
theorem Lin.pick {f : UInt8 → UInt8} (h : Lin f) (c : Bool) (x : UInt8) : f (pick c x) = Go.Proofs.Ytaidbcppecoenaa.pick c (f x) := by
  cases c
  · exact h.zero
  · rfl
def basis : List UInt8 := [1, 2, 4, 8, 16, 32, 64, 128]
theorem Lin.ext {f g : UInt8 → UInt8} (hf : Lin f) (hg : Lin g) (h : ∀ x ∈ basis, f x = g x) (b : UInt8) : f b = g b := by
  have e : ∀ k : UInt8 → UInt8, Lin k → k b = Go.Proofs.Ytaidbcppecoenaa.pick (bit b 0) (k 1) ^^^ Go.Proofs.Ytaidbcppecoenaa.pick (bit b 1) (k 2) ^^^ Go.Proofs.Ytaidbcppecoenaa.pick (bit b 2) (k 4) ^^^ Go.Proofs.Ytaidbcppecoenaa.pick (bit b 3) (k 8) ^^^ Go.Proofs.Ytaidbcppecoenaa.pick (bit b 4) (k 16) ^^^ Go.Proofs.Ytaidbcppecoenaa.pick (bit b 5) (k 32) ^^^ Go.Proofs.Ytaidbcppecoenaa.pick (bit b 6) (k 64) ^^^ Go.Proofs.Ytaidbcppecoenaa.pick (bit b 7) (k 128) := by
    intro k hk
    conv => lhs; rw [← bits8_eq b]
    unfold bits8
    simp only [hk _ _, hk.pick]
  rw [e f hf, e g hg, h 1 (by simp [basis]), h 2 (by simp [basis]), h 4 (by simp [basis]), h 8 (by simp [basis]), h 16 (by simp [basis]), h 32 (by simp [basis]), h 64 (by simp [basis]), h 128 (by simp [basis])]

theorem bit_xor (a b : UInt8) (k : Nat) : bit (a ^^^ b) k = (bit a k ^^ bit b k) := by
  simp [bit, Nat.testBit_xor]
theorem sh7 (a : UInt8) : a >>> 7 = 0 ∨ a >>> 7 = 1 := 
  of_decide_eq_true (all_u8 (P := fun a => decide (a >>> 7 = 0 ∨ a >>> 7 = 1)) (by decide +kernel) a)
theorem xt_lin : Lin xt := by
  intro a b
  unfold xt
  rw [UInt8.shiftRight_xor, UInt8.shiftLeft_xor]
  rcases sh7 a with ha | ha <;> rcases sh7 b with hb | hb <;> rw [ha, hb] <;> simp
  · ac_rfl
  · ac_rfl
  · have : ∀ x y z : UInt8, x ^^^ y = x ^^^ z ^^^ (y ^^^ z) := by
      intro x y z
      have : x ^^^ z ^^^ (y ^^^ z) = x ^^^ y ^^^ (z ^^^ z) := by ac_rfl
      rw [this]; simp
    exact this _ _ _
theorem xts_lin (k : Nat) : Lin (xts k) := by
  induction k with
  | zero => intro a b; rfl
  | succ k ih => intro a b; simp only [xts, ih a b, xt_lin _ _]
theorem gm_lin_right (a : UInt8) : Lin (gm a) := by
  intro b c
  unfold gm
  generalize 8 = n
  induction n with
  | zero => simp [gmTo]
  | succ k ih =>
    simp only [gmTo, bit_xor, ih]
    cases bit b k <;> cases bit c k <;> simp
    · ac_rfl
    · ac_rfl
    · have : gmTo a b k ^^^ xts k a ^^^ (gmTo a c k ^^^ xts k a) = gmTo a b k ^^^ gmTo a c k ^^^ (xts k a ^^^ xts k a) := by ac_rfl
      rw [this]; simp
theorem gm_lin_left (b : UInt8) : Lin (fun a => gm a b) := by
  intro a c
  simp only [gm]
  generalize 8 = n
  induction n with
  | zero => simp [gmTo]
  | succ k ih =>
    simp only [gmTo, ih, xts_lin k a c]
    cases bit b k <;> simp
    ac_rfl
theorem gm_xor_right (a b c : UInt8) : gm a (b ^^^ c) = gm a b ^^^ gm a c := gm_lin_right a b c
theorem gm_xor_left (a b c : UInt8) : gm (a ^^^ b) c = gm a c ^^^ gm b c := gm_lin_left c a b
theorem gm_comm (a b : UInt8) : gm a b = gm b a := by
  refine Lin.ext (gm_lin_left b) (gm_lin_right b) (fun x hx => ?_) a
  refine Lin.ext (gm_lin_right x) (gm_lin_left x) (fun y hy => ?_) b
  have : ∀ x ∈ basis, ∀ y ∈ basis, gm x y = gm y x := by decide +kernel
  exact this x hx y hy
theorem Lin.comp {f g : UInt8 → UInt8} (hf : Lin f) (hg : Lin g) : Lin (fun x => f (g x)) := fun x y => by simp only [hg x y, hf _ _]
theorem gm_assoc (a b c : UInt8) : gm (gm a b) c = gm a (gm b c) := by
  refine Lin.ext (f := fun a => gm (gm a b) c) (g := fun a => gm a (gm b c)) (Lin.comp (gm_lin_left c) (gm_lin_left b)) (gm_lin_left _) (fun x hx => ?_) a
  refine Lin.ext (f := fun b => gm (gm x b) c) (g := fun b => gm x (gm b c)) (Lin.comp (gm_lin_left c) (gm_lin_right x)) (Lin.comp (gm_lin_right x) (gm_lin_left c)) (fun y hy => ?_) b
  refine Lin.ext (f := fun c => gm (gm x y) c) (g := fun c => gm x (gm y c)) (gm_lin_right _) (Lin.comp (gm_lin_right x) (gm_lin_right y)) (fun z hz => ?_) c
  have : ∀ x ∈ basis, ∀ y ∈ basis, ∀ z ∈ basis, gm (gm x y) z = gm x (gm y z) := by decide +kernel
  exact this x hx y hy z hz
theorem gm_zero_right (a : UInt8) : gm a 0 = 0 := (gm_lin_right a).zero
theorem gm_zero_left (a : UInt8) : gm 0 a = 0 := (gm_lin_left a).zero
theorem gm_one_left (a : UInt8) : gm 1 a = a := by
  refine Lin.ext (gm_lin_right 1) (g := fun a => a) (fun _ _ => rfl) ?_ a
  decide +kernel
theorem gm_one_right (a : UInt8) : gm a 1 = a := by rw [gm_comm, gm_one_left]
theorem gpow_add (a : UInt8) (m n : Nat) : gpow a (m + n) = gm (gpow a m) (gpow a n) := by
  induction n with
  | zero => simp [gpow, gm_one_right]
  | succ n ih => rw [← Nat.add_assoc, gpow, gpow, ih, gm_assoc]
theorem gpow_sq (a : UInt8) (n : Nat) : gpow (gm a a) n = gpow a (2 * n) := by
  induction n with
  | zero => rfl
  | succ n ih => rw [gpow, ih, Nat.mul_succ, gpow_add]; simp [gpow, gm_one_left]
/-- One round of the squares' way. -/
theorem gpow_half (a : UInt8) (n : Nat) : gpow a n = if n % 2 = 1 then gm a (gpow (gm a a) (n / 2)) else gpow (gm a a) (n / 2) := by
  rw [gpow_sq]
  split
  · rename_i h
    conv => lhs; rw [show n = 2 * (n / 2) + 1 by omega, gpow]
    rw [gm_comm]
  · rename_i h
    rw [show 2 * (n / 2) = n by omega]
def chain (a : UInt8) : UInt8 :=
  let a1 := gm a a
  let a2 := gm a1 a1
  let a3 := gm a2 a2
  let a4 := gm a3 a3
  let a5 := gm a4 a4
  let a6 := gm a5 a5
  let a7 := gm a6 a6
  gm a1 (gm a2 (gm a3 (gm a4 (gm a5 (gm a6 a7)))))
theorem chain_eq (a : UInt8) : chain a = gpow a 254 := by
  have h1 : gm a a = gpow a 2 := by simp [gpow, gm_one_left]
  simp only [chain, h1, ← gpow_add]
theorem gm_chain {a : UInt8} (h : a ≠ 0) : gm a (chain a) = 1 := by
  have := all_u8 (P := fun a => decide (a ≠ 0 → gm a (chain a) = 1)) (by decide +kernel) a
  exact of_decide_eq_true this h
def ginv (a : UInt8) : UInt8 := gpow a 254
theorem gm_ginv {a : UInt8} (h : a ≠ 0) : gm a (ginv a) = 1 := by rw [ginv, ← chain_eq]; exact gm_chain h
theorem gm_cancel {a b c : UInt8} (h : a ≠ 0) (e : gm a b = gm a c) : b = c := by
  have := congrArg (gm (ginv a)) e
  rwa [← gm_assoc, ← gm_assoc, gm_comm (ginv a) a, gm_ginv h, gm_one_left, gm_one_left] at this
theorem gm_eq_zero {a b : UInt8} (h : gm a b = 0) : a = 0 ∨ b = 0 := by
  by_cases ha : a = 0
  · exact .inl ha
  · exact .inr (gm_cancel ha (by rw [h, gm_zero_right]))
theorem ginv_ne {a : UInt8} (h : a ≠ 0) : ginv a ≠ 0 := fun e => by
  have := gm_ginv h
  rw [e, gm_zero_right] at this
  exact absurd this (by decide)
/-! The product by the definition: the polynomials multiplied as they are, then divided. -/
end Go.Proofs.Ytaidbcppecoenaa

