import Derived.Test.YtghmaaeglejmbaaRows
import Derived.Test.YtghmaaeglejmbaaGf
import Derived.WalkKit
import Derived.ProofKit
import Derived.OpenShut
import Derived.ShutString
import Derived.ChangeOld
import Derived.Below
import Derived.Outline
import Derived.Lib.Hide
import Derived.Laws.BitsAllLaws
import Derived.Laws.ShiftsVarLaws
import Derived.Laws.OwnMore
import Derived.WalkSpells
import Derived.Handy
/- Words of memory and of bytes, for all walks of this seat. -/
namespace Go.Proofs.Ytghmaaeglejmbaa
open Go.RowKit

/-! ### Bytes as the walk spells them -/
/-- A byte's number. (Behind a name, so that the walk leaves it as it stands.) -/
def bv (u : UInt8) : Int := (u.toNat : Int)
theorem bv_lt (u : UInt8) : bv u < 256 := by have := u.toNat_lt; unfold bv; omega
theorem bv_nn (u : UInt8) : 0 ≤ bv u := by unfold bv; omega
theorem bv_inj {u v : UInt8} : bv u = bv v ↔ u = v := by
  unfold bv
  constructor
  · intro h; exact UInt8.toNat_inj.1 (by omega)
  · intro h; rw [h]
theorem bv_beq (u v : UInt8) : (bv u == bv v) = (u == v) := by
  rw [Bool.eq_iff_iff]; simp [bv_inj]
theorem bv_bne (u v : UInt8) : (bv u != bv v) = (u != v) := by simp [bne, bv_beq]
theorem bits_xor_b (u v : UInt8) : bits .xor .u8 (bv u) (bv v) = bv (u ^^^ v) := by
  unfold bv; rw [u8_xor_nat _ _ u.toNat_lt v.toNat_lt, UInt8.toNat_xor]
theorem bits_and_b (u v : UInt8) : bits .and .u8 (bv u) (bv v) = bv (u &&& v) := by
  unfold bv; rw [u8_and_nat _ _ u.toNat_lt v.toNat_lt, UInt8.toNat_and]
theorem bv_ofNat (n : Nat) (h : n < 256) : bv (UInt8.ofNat n) = (n : Int) := by
  unfold bv; rw [UInt8.toNat_ofNat_of_lt' (by simpa using h)]
theorem bit_div (b : UInt8) (k : Nat) : b.toNat / 2 ^ k % 2 = if bit b k then 1 else 0 := by
  have := Nat.testBit_eq_decide_div_mod_eq (x := b.toNat) (i := k)
  unfold bit
  rw [this]
  have : b.toNat / 2 ^ k % 2 < 2 := Nat.mod_lt _ (by omega)
  by_cases h : b.toNat / 2 ^ k % 2 = 1
  · simp [h]
  · simp [h]; omega
theorem bits_and1_b (b : UInt8) (k : Nat) : bits .and .u8 (bv b / 2 ^ k) 1 = if bit b k then 1 else 0 := by
  have h := u8_and_nat (b.toNat / 2 ^ k) 1 (Nat.lt_of_le_of_lt (Nat.div_le_self _ _) b.toNat_lt) (by omega)
  have e : (((b.toNat / 2 ^ k : Nat)) : Int) = bv b / 2 ^ k := by simp [bv]
  rw [e] at h
  rw [show (((1 : Nat)) : Int) = 1 from rfl] at h
  rw [h, Nat.and_one_is_mod, bit_div]
  split <;> rfl
theorem xt_hi {a : UInt8} (h : (bv a / 128 == 1) = true) : bits .xor .u8 (bv a * 2 % 256) 29 = bv (xt a) := by
  have := of_decide_eq_true (all_u8 (P := fun a => decide (a.toNat / 128 = 1 → (a.toNat * 2 % 256) ^^^ 29 = (xt a).toNat)) (by decide +kernel) a)
  unfold bv at h ⊢
  rw [← this (by simp at h; omega), ← u8_xor_nat _ _ (by omega) (by omega)]
  rfl
theorem xt_lo {a : UInt8} (h : (bv a / 128 == 1) = false) : bv a * 2 % 256 = bv (xt a) := by
  have := of_decide_eq_true (all_u8 (P := fun a => decide (a.toNat / 128 ≠ 1 → (a.toNat * 2 % 256) = (xt a).toNat)) (by decide +kernel) a)
  unfold bv at h ⊢
  rw [← this (by simp at h; omega)]
  rfl
theorem int_eq {k : IntKind} {a b : Int} (h : a = b) : Value.int k a = Value.int k b := by rw [h]
theorem ret_int {k : IntKind} {a b : Int} (h : a = b) : Ending.returned (.int k a) = .returned (.int k b) := by rw [h]

/-- A byte that came in, as a byte. -/
theorem byte_of {a : Int} (h : (Lit.int .u8 a).wf = true) : ∃ u : UInt8, a = bv u := by
  have h1 := bounds_u8 h
  refine ⟨UInt8.ofNat a.toNat, ?_⟩
  rw [bv_ofNat _ (by omega)]; omega

/-! ### A slice that reads as a list of bytes -/
/-- The slice '.slice A n c' reads as the bytes us; its cells lie below block B. -/
def Rd (w : World) (B : Nat) (A : Option Addr) (n : Nat) (us : List UInt8) : Prop :=
  us.length = n ∧ (0 < n → ∃ b off, A = some ⟨b, off, none⟩ ∧ b < B ∧ ∀ i u, us[i]? = some u → w.cell? ⟨b, off + i, none⟩ = some (.int .u8 (bv u)))
theorem Rd.nil {w : World} {B : Nat} {A : Option Addr} : Rd w B A 0 [] := ⟨rfl, fun h => absurd h (by omega)⟩
theorem Rd.at_ {w : World} {B n : Nat} {A : Option Addr} {us : List UInt8} (h : Rd w B A n us) {k : Nat} (hk : k < n) :
    ∃ b off, A = some ⟨b, off, none⟩ ∧ b < B ∧ w.cell? ⟨b, off + k, none⟩ = some (.int .u8 (bv (us[k]?.getD 0))) := by
  obtain ⟨b, off, e, hb, hc⟩ := h.2 (by omega)
  have hl : k < us.length := by have := h.1; omega
  refine ⟨b, off, e, hb, ?_⟩
  rw [hc k us[k] (List.getElem?_eq_getElem hl)]
  simp [hl]
theorem Rd.keep {w w' : World} {B n : Nat} {A : Option Addr} {us : List UInt8} (h : Rd w B A n us) (hk : ∀ p : Addr, p.block < B → w'.cell? p = w.cell? p) : Rd w' B A n us :=
  ⟨h.1, fun hn => by
    obtain ⟨b, off, e, hb, hc⟩ := h.2 hn
    exact ⟨b, off, e, hb, fun j u hu => (hk ⟨b, off + j, none⟩ hb).trans (hc j u hu)⟩⟩
theorem Rd.below {w w' : World} {B n : Nat} {A : Option Addr} {us : List UInt8} (h : Rd w B A n us) (hb : Below B w w') : Rd w' B A n us := h.keep fun _ hp => hb.cell hp
theorem Rd.more {w : World} {B B' n : Nat} {A : Option Addr} {us : List UInt8} (h : Rd w B A n us) (hB : B ≤ B') : Rd w B' A n us :=
  ⟨h.1, fun hn => by
    obtain ⟨b, off, e, hb, hc⟩ := h.2 hn
    exact ⟨b, off, e, by omega, hc⟩⟩

/-- What 'open_ints' gives, as bytes. -/
def IsRow (k : IntKind) (w : World) (a : Option Addr) (len cap : Nat) (zs : List Int) : Prop :=
  (a = none ∧ len = 0 ∧ cap = 0 ∧ zs = []) ∨
  ∃ x, a = some x ∧ len ≤ cap ∧ cap ≤ maxLen ∧ zs.length = cap ∧ (∀ i, i < zs.length → w.cell? (x.add i) = some (.int k (zs.getD i 0))) ∧ ∀ n ∈ zs, (Lit.int k n).wf = true
theorem bytes_of (zs : List Int) (h : ∀ n ∈ zs, (Lit.int .u8 n).wf = true) : ∃ us : List UInt8, zs = us.map (fun u => bv u) := by
  induction zs with
  | nil => exact ⟨[], rfl⟩
  | cons z zs ih =>
    obtain ⟨us, rfl⟩ := ih fun n hn => h n (List.mem_cons_of_mem _ hn)
    obtain ⟨u, rfl⟩ := byte_of (h z (List.mem_cons_self ..))
    exact ⟨u :: us, rfl⟩
theorem cell_lt {w : World} {p : Addr} {v : Value} (h : w.cell? p = some v) : p.block < w.heap.size := by
  rcases Nat.lt_or_ge p.block w.heap.size with hl | hl
  · exact hl
  · have : w.heap[p.block]? = none := Array.getElem?_eq_none hl
    simp [World.cell?, this] at h
theorem IsRow.bytes {w : World} {a : Option Addr} {len cap : Nat} {zs : List Int} (h : IsRow .u8 w a len cap zs) : ∃ us, Rd w w.heap.size a len us := by
  rcases h with ⟨rfl, rfl, rfl, rfl⟩ | ⟨x, rfl, hl, hm, hz, hc, hw⟩
  · exact ⟨[], Rd.nil⟩
  · obtain ⟨us, rfl⟩ := bytes_of zs hw
    have hz' : us.length = cap := by simpa using hz
    refine ⟨us.take len, by simp; omega, fun hn => ?_⟩
    obtain ⟨b, off, spot⟩ := x
    have h0 := hc 0 (by simp; omega)
    have hspot : spot = none := by simpa [Addr.add] using World.cell?_spot h0
    subst hspot
    refine ⟨b, off, rfl, ?_, fun i u hu => ?_⟩
    · exact cell_lt (by simpa [Addr.add] using h0)
    · have hi : i < len := by
        have := (List.getElem?_eq_some_iff.1 hu).1
        simp at this; omega
      have h1 := hc i (by simp; omega)
      rw [List.getElem?_take, if_pos hi] at hu
      have h2 : (us.map fun u => bv u).getD i 0 = bv u := by simp [List.getD, hu]
      rw [h2] at h1
      rw [← h1]
      unfold Addr.add
      split
      · rename_i h; subst h; rfl
      · rfl

/-- An argument of bytes, opened. -/
theorem bytes_arg {H : Type} {enc : TypeId × Value → H} {W : World} {held : Bool} {t e : TypeId} {A : Option Addr} {n c : Nat} {d : DataW H} {p : List MemPlace}
    (ht : Try.prog.underlying t = some (.slice e)) (he : Try.prog.underlying e = some (.int .u8)) (ce : Try.prog.cellsOf e = 1)
    (h : DataW.Trod enc Try.prog W 0 (fun _ => true) held t (.slice A n c) d p) :
    ∃ us, Rd W W.heap.size A n us ∧ n ≤ c ∧ c ≤ maxLen := by
  obtain ⟨fuel, hf⟩ := h
  rcases Go.ChangeShapes.open_ints ht he ce hf with ⟨hcs, _⟩ | ⟨x, l, c', zs, hcs, _, hl, hm, hz, _, hcell, hwz⟩
  · simp [Value.cells] at hcs
    obtain ⟨rfl, rfl, rfl⟩ := hcs
    exact ⟨[], Rd.nil, by omega, by omega⟩
  · simp [Value.cells] at hcs
    obtain ⟨rfl, rfl, rfl⟩ := hcs
    obtain ⟨us, r⟩ := IsRow.bytes (.inr ⟨_, rfl, hl, hm, by simpa using hz, hcell, hwz⟩)
    exact ⟨us, r, hl, hm⟩
end Go.Proofs.Ytghmaaeglejmbaa
