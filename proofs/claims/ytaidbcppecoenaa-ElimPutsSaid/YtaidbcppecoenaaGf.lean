
/- The field of 256 bytes, plainly: products by shifts, their laws, powers, inverses. Nothing of the program. -/
namespace Go.Proofs.Ytaidbcppecoenaa
def xt (a : UInt8) : UInt8 := if a >>> 7 = 1 then (a <<< 1) ^^^ 29 else a <<< 1
def xts : Nat → UInt8 → UInt8
  | 0, a => a
  | k + 1, a => xt (xts k a)
def bit (b : UInt8) (k : Nat) : Bool := b.toNat.testBit k
def gmTo (a b : UInt8) : Nat → UInt8
  | 0 => 0
  | k + 1 => if bit b k then gmTo a b k ^^^ xts k a else gmTo a b k
def gm (a b : UInt8) : UInt8 := gmTo a b 8
def gpow (a : UInt8) : Nat → UInt8
  | 0 => 1
  | n + 1 => gm (gpow a n) a

/-- Checked at all 256 bytes. -/
theorem all_u8 {P : UInt8 → Bool} (h : (List.range 256).all (fun n => P (UInt8.ofNat n)) = true) (a : UInt8) : P a = true := by
  have := List.all_eq_true.1 h a.toNat (by simpa using a.toNat_lt)
  simpa using this

def Lin (f : UInt8 → UInt8) : Prop := ∀ x y, f (x ^^^ y) = f x ^^^ f y
theorem Lin.zero {f : UInt8 → UInt8} (h : Lin f) : f 0 = 0 := by
  have := h 0 0
  simpa using this

def pick (c : Bool) (x : UInt8) : UInt8 := if c then x else 0
def bits8 (b : UInt8) : UInt8 := pick (bit b 0) 1 ^^^ pick (bit b 1) 2 ^^^ pick (bit b 2) 4 ^^^ pick (bit b 3) 8 ^^^ pick (bit b 4) 16 ^^^ pick (bit b 5) 32 ^^^ pick (bit b 6) 64 ^^^ pick (bit b 7) 128
theorem bits8_eq (b : UInt8) : bits8 b = b :=
  of_decide_eq_true (all_u8 (P := fun b => decide (bits8 b = b)) (by decide +kernel) b)
theorem Lin.pick {f : UInt8 → UInt8} (h : Lin f) (c : Bool) (x : UInt8) : f (pick c x) = Go.Proofs.Ytaidbcppecoenaa.pick c (f x) := by
  cases c
  · exact h.zero
  · rfl
def basis : List UInt8 := [1, 2, 4, 8, 16, 32, 64, 128]
theorem Lin.ext {f g : UInt8 → UInt8} (hf : Lin f) (hg : Lin g) (h : ∀ x ∈ basis, f x = g x) (b : UInt8) : f b = g b := by
  have e : ∀ k : UInt8 → UInt8, Lin k → k b = Go.Proofs.Ytaidbcppecoenaa.pick (bit b 0) (k 1) ^^^ Go.Proofs.Ytaidbcppecoenaa.pick (bit b 1) (k 2) ^^^ Go.Proofs.Ytaidbcppecoenaa.pick (bit b 2) (k 4) ^^^ Go.Proofs.Ytaidbcppecoenaa.pick (bit b 3) (k 8) ^^^ Go.Proofs.Ytaidbcppecoenaa.pick (bit b 4) (k 16) ^^^ Go.Proofs.Ytaidbcppecoenaa.pick (bit b 5) (k 32) ^^^ Go.Proofs.Ytaidbcppecoenaa.pick (bit b 6) (k 64) ^^^ Go.Proofs.Ytaidbcppecoenaa.pick (bit b 7) (k 128) := by
    intro k hk
    conv => lhs; rw [← bits8_eq b]
    unfold bits8
    simp only [hk _ _, hk.pick]
  rw [e f hf, e g hg, h 1 (by simp [basis]), h 2 (by simp [basis]), h 4 (by simp [basis]), h 8 (by simp [basis]), h 16 (by simp [basis]), h 32 (by simp [basis]), h 64 (by simp [basis]), h 128 (by simp [basis])]

theorem bit_xor (a b : UInt8) (k : Nat) : bit (a ^^^ b) k = (bit a k ^^ bit b k) := by
  simp [bit, Nat.testBit_xor]
theorem sh7 (a : UInt8) : a >>> 7 = 0 ∨ a >>> 7 = 1 := 
  of_decide_eq_true (all_u8 (P := fun a => decide (a >>> 7 = 0 ∨ a >>> 7 = 1)) (by decide +kernel) a)
theorem xt_lin : Lin xt := by
  intro a b
  unfold xt
  rw [UInt8.shiftRight_xor, UInt8.shiftLeft_xor]
  rcases sh7 a with ha | ha <;> rcases sh7 b with hb | hb <;> rw [ha, hb] <;> simp
  · ac_rfl
  · ac_rfl
  · have : ∀ x y z : UInt8, x ^^^ y = x ^^^ z ^^^ (y ^^^ z) := by
      intro x y z
      have : x ^^^ z ^^^ (y ^^^ z) = x ^^^ y ^^^ (z ^^^ z) := by ac_rfl
      rw [this]; simp
    exact this _ _ _
theorem xts_lin (k : Nat) : Lin (xts k) := by
  induction k with
  | zero => intro a b; rfl
  | succ k ih => intro a b; simp only [xts, ih a b, xt_lin _ _]
theorem gm_lin_right (a : UInt8) : Lin (gm a) := by
  intro b c
  unfold gm
  generalize 8 = n
  induction n with
  | zero => simp [gmTo]
  | succ k ih =>
    simp only [gmTo, bit_xor, ih]
    cases bit b k <;> cases bit c k <;> simp
    · ac_rfl
    · ac_rfl
    · have : gmTo a b k ^^^ xts k a ^^^ (gmTo a c k ^^^ xts k a) = gmTo a b k ^^^ gmTo a c k ^^^ (xts k a ^^^ xts k a) := by ac_rfl
      rw [this]; simp
theorem gm_lin_left (b : UInt8) : Lin (fun a => gm a b) := by
  intro a c
  simp only [gm]
  generalize 8 = n
  induction n with
  | zero => simp [gmTo]
  | succ k ih =>
    simp only [gmTo, ih, xts_lin k a c]
    cases bit b k <;> simp
    ac_rfl
theorem gm_xor_right (a b c : UInt8) : gm a (b ^^^ c) = gm a b ^^^ gm a c := gm_lin_right a b c
theorem gm_xor_left (a b c : UInt8) : gm (a ^^^ b) c = gm a c ^^^ gm b c := gm_lin_left c a b
theorem gm_comm (a b : UInt8) : gm a b = gm b a := by
  refine Lin.ext (gm_lin_left b) (gm_lin_right b) (fun x hx => ?_) a
  refine Lin.ext (gm_lin_right x) (gm_lin_left x) (fun y hy => ?_) b
  have : ∀ x ∈ basis, ∀ y ∈ basis, gm x y = gm y x := by decide +kernel
  exact this x hx y hy
theorem Lin.comp {f g : UInt8 → UInt8} (hf : Lin f) (hg : Lin g) : Lin (fun x => f (g x)) := fun x y => by simp only [hg x y, hf _ _]
theorem gm_assoc (a b c : UInt8) : gm (gm a b) c = gm a (gm b c) := by
  refine Lin.ext (f := fun a => gm (gm a b) c) (g := fun a => gm a (gm b c)) (Lin.comp (gm_lin_left c) (gm_lin_left b)) (gm_lin_left _) (fun x hx => ?_) a
  refine Lin.ext (f := fun b => gm (gm x b) c) (g := fun b => gm x (gm b c)) (Lin.comp (gm_lin_left c) (gm_lin_right x)) (Lin.comp (gm_lin_right x) (gm_lin_left c)) (fun y hy => ?_) b
  refine Lin.ext (f := fun c => gm (gm x y) c) (g := fun c => gm x (gm y c)) (gm_lin_right _) (Lin.comp (gm_lin_right x) (gm_lin_right y)) (fun z hz => ?_) c
  have : ∀ x ∈ basis, ∀ y ∈ basis, ∀ z ∈ basis, gm (gm x y) z = gm x (gm y z) := by decide +kernel
  exact this x hx y hy z hz
theorem gm_zero_right (a : UInt8) : gm a 0 = 0 := (gm_lin_right a).zero
theorem gm_zero_left (a : UInt8) : gm 0 a = 0 := (gm_lin_left a).zero
theorem gm_one_left (a : UInt8) : gm 1 a = a := by
  refine Lin.ext (gm_lin_right 1) (g := fun a => a) (fun _ _ => rfl) ?_ a
  decide +kernel
theorem gm_one_right (a : UInt8) : gm a 1 = a := by rw [gm_comm, gm_one_left]
theorem gpow_add (a : UInt8) (m n : Nat) : gpow a (m + n) = gm (gpow a m) (gpow a n) := by
  induction n with
  | zero => simp [gpow, gm_one_right]
  | succ n ih => rw [← Nat.add_assoc, gpow, gpow, ih, gm_assoc]
theorem gpow_sq (a : UInt8) (n : Nat) : gpow (gm a a) n = gpow a (2 * n) := by
  induction n with
  | zero => rfl
  | succ n ih => rw [gpow, ih, Nat.mul_succ, gpow_add]; simp [gpow, gm_one_left]
/-- One round of the squares' way. -/
theorem gpow_half (a : UInt8) (n : Nat) : gpow a n = if n % 2 = 1 then gm a (gpow (gm a a) (n / 2)) else gpow (gm a a) (n / 2) := by
  rw [gpow_sq]
  split
  · rename_i h
    conv => lhs; rw [show n = 2 * (n / 2) + 1 by omega, gpow]
    rw [gm_comm]
  · rename_i h
    rw [show 2 * (n / 2) = n by omega]
def chain (a : UInt8) : UInt8 :=
  let a1 := gm a a
  let a2 := gm a1 a1
  let a3 := gm a2 a2
  let a4 := gm a3 a3
  let a5 := gm a4 a4
  let a6 := gm a5 a5
  let a7 := gm a6 a6
  gm a1 (gm a2 (gm a3 (gm a4 (gm a5 (gm a6 a7)))))
theorem chain_eq (a : UInt8) : chain a = gpow a 254 := by
  have h1 : gm a a = gpow a 2 := by simp [gpow, gm_one_left]
  simp only [chain, h1, ← gpow_add]
theorem gm_chain {a : UInt8} (h : a ≠ 0) : gm a (chain a) = 1 := by
  have := all_u8 (P := fun a => decide (a ≠ 0 → gm a (chain a) = 1)) (by decide +kernel) a
  exact of_decide_eq_true this h
def ginv (a : UInt8) : UInt8 := gpow a 254
theorem gm_ginv {a : UInt8} (h : a ≠ 0) : gm a (ginv a) = 1 := by rw [ginv, ← chain_eq]; exact gm_chain h
theorem gm_cancel {a b c : UInt8} (h : a ≠ 0) (e : gm a b = gm a c) : b = c := by
  have := congrArg (gm (ginv a)) e
  rwa [← gm_assoc, ← gm_assoc, gm_comm (ginv a) a, gm_ginv h, gm_one_left, gm_one_left] at this
theorem gm_eq_zero {a b : UInt8} (h : gm a b = 0) : a = 0 ∨ b = 0 := by
  by_cases ha : a = 0
  · exact .inl ha
  · exact .inr (gm_cancel ha (by rw [h, gm_zero_right]))
theorem ginv_unique {a b : UInt8} (e : gm a b = 1) : b = ginv a := by
  by_cases h : a = 0
  · subst h; rw [gm_zero_left] at e; exact absurd e (by decide)
  · exact gm_cancel h (by rw [e, gm_ginv h])
theorem ginv_ne {a : UInt8} (h : a ≠ 0) : ginv a ≠ 0 := fun e => by
  have := gm_ginv h
  rw [e, gm_zero_right] at this
  exact absurd this (by decide)
/-! The product by the definition: the polynomials multiplied as they are, then divided. -/
def clTo (a b : UInt8) : Nat → Nat
  | 0 => 0
  | k + 1 => if bit b k then clTo a b k ^^^ (a.toNat * 2 ^ k) else clTo a b k
def redTo (s : Nat) : Nat → Nat
  | 0 => s
  | j + 1 => if (redTo s j).testBit (14 - j) then redTo s j ^^^ (285 * 2 ^ (6 - j)) else redTo s j
def refm (a b : UInt8) : UInt8 := UInt8.ofNat (redTo (clTo a b 8) 7)
theorem xor_mul_pow (a b k : Nat) : (a ^^^ b) * 2 ^ k = (a * 2 ^ k) ^^^ (b * 2 ^ k) := by
  simp only [← Nat.shiftLeft_eq, Nat.shiftLeft_xor_distrib]
theorem clTo_left (a c b : UInt8) (k : Nat) : clTo (a ^^^ c) b k = clTo a b k ^^^ clTo c b k := by
  induction k with
  | zero => simp [clTo]
  | succ k ih =>
    simp only [clTo, ih, UInt8.toNat_xor, xor_mul_pow]
    cases bit b k <;> simp
    ac_rfl
theorem clTo_right (a b c : UInt8) (k : Nat) : clTo a (b ^^^ c) k = clTo a b k ^^^ clTo a c k := by
  induction k with
  | zero => simp [clTo]
  | succ k ih =>
    simp only [clTo, ih, bit_xor]
    cases bit b k <;> cases bit c k <;> simp
    · ac_rfl
    · ac_rfl
    · have : ∀ x y z : Nat, x ^^^ y = x ^^^ z ^^^ (y ^^^ z) := by
        intro x y z
        have : x ^^^ z ^^^ (y ^^^ z) = x ^^^ y ^^^ (z ^^^ z) := by ac_rfl
        rw [this]; simp
      exact this _ _ _
theorem redTo_xor (s t : Nat) (j : Nat) : redTo (s ^^^ t) j = redTo s j ^^^ redTo t j := by
  induction j with
  | zero => rfl
  | succ j ih =>
    simp only [redTo, ih, Nat.testBit_xor]
    cases (redTo s j).testBit (14 - j) <;> cases (redTo t j).testBit (14 - j) <;> simp
    · ac_rfl
    · ac_rfl
    · have : ∀ x y z : Nat, x ^^^ y = x ^^^ z ^^^ (y ^^^ z) := by
        intro x y z
        have : x ^^^ z ^^^ (y ^^^ z) = x ^^^ y ^^^ (z ^^^ z) := by ac_rfl
        rw [this]; simp
      exact this _ _ _
theorem refm_lin_right (a : UInt8) : Lin (refm a) := fun b c => by simp only [refm, clTo_right, redTo_xor, UInt8.ofNat_xor]
theorem refm_lin_left (b : UInt8) : Lin (fun a => refm a b) := fun a c => by simp only [refm, clTo_left, redTo_xor, UInt8.ofNat_xor]
theorem refm_eq (a b : UInt8) : refm a b = gm a b := by
  refine Lin.ext (refm_lin_left b) (gm_lin_left b) (fun x hx => ?_) a
  refine Lin.ext (refm_lin_right x) (gm_lin_right x) (fun y hy => ?_) b
  have : ∀ x ∈ basis, ∀ y ∈ basis, refm x y = gm x y := by decide +kernel
  exact this x hx y hy
theorem clTo_lt (a b : UInt8) (k : Nat) : clTo a b k < 2 ^ (8 + k) := by
  induction k with
  | zero => simp [clTo]
  | succ k ih =>
    have h1 : clTo a b k < 2 ^ (8 + (k + 1)) := Nat.lt_of_lt_of_le ih (Nat.pow_le_pow_right (by omega) (by omega))
    have h2 : a.toNat * 2 ^ k < 2 ^ (8 + (k + 1)) := by
      have := a.toNat_lt
      calc a.toNat * 2 ^ k < 2 ^ 8 * 2 ^ k := Nat.mul_lt_mul_of_pos_right this (Nat.two_pow_pos k)
        _ = 2 ^ (8 + k) := by rw [Nat.pow_add]
        _ ≤ _ := Nat.pow_le_pow_right (by omega) (by omega)
    simp only [clTo]
    split
    · exact Nat.xor_lt_two_pow h1 h2
    · exact h1
theorem redTo_lt (s : Nat) (h : s < 65536) (j : Nat) (hj : j ≤ 7) : redTo s j < 65536 := by
  induction j with
  | zero => exact h
  | succ j ih =>
    have h1 : redTo s j < 2 ^ 16 := ih (by omega)
    have h2 : 285 * 2 ^ (6 - j) < 2 ^ 16 := by
      have : 2 ^ (6 - j) ≤ 2 ^ 6 := Nat.pow_le_pow_right (by omega) (by omega)
      omega
    simp only [redTo]
    split
    · exact Nat.xor_lt_two_pow h1 h2
    · exact h1
end Go.Proofs.Ytaidbcppecoenaa

