import Derived.Test.YtaidbcppecoenaaRows
import Derived.Test.YtaidbcppecoenaaGf
import Derived.WalkKit
import Derived.ProofKit
import Derived.OpenShut
import Derived.ShutString
import Derived.ChangeOld
import Derived.Below
import Derived.Outline
import Derived.Lib.Hide
import Derived.Laws.BitsAllLaws
import Derived.Laws.ShiftsVarLaws
import Derived.Laws.OwnMore
import Derived.WalkSpells
import Derived.Handy
import Derived.BigQuiet
import Derived.Deep.QuietTactic
import Derived.Deep.Matrix
import Derived.Deep.Draws
import Derived.Laws.AppendOwn
import Derived.OwnWalk
import Derived.Laws.MakeOwn
import Derived.Maps.AppendAt
import Derived.StillTailTactics
import Derived.Deep.RegionHeld3
import Derived.RegionTactic
import Derived.Laws.CopyOwn
import Derived.BigRegion
/- Words of memory and of bytes, for all walks of this seat. -/
namespace Go.Proofs.Ytaidbcppecoenaa
open Go.RowKit

/-! ### Bytes as the walk spells them -/
/-- A byte's number. (Behind a name, so that the walk leaves it as it stands.) -/
def bv (u : UInt8) : Int := (u.toNat : Int)
theorem bv_lt (u : UInt8) : bv u < 256 := by have := u.toNat_lt; unfold bv; omega
theorem bv_nn (u : UInt8) : 0 ≤ bv u := by unfold bv; omega
theorem bv_inj {u v : UInt8} : bv u = bv v ↔ u = v := by
  unfold bv
  constructor
  · intro h; exact UInt8.toNat_inj.1 (by omega)
  · intro h; rw [h]
theorem bv_beq (u v : UInt8) : (bv u == bv v) = (u == v) := by
  rw [Bool.eq_iff_iff]; simp [bv_inj]
theorem bv_bne (u v : UInt8) : (bv u != bv v) = (u != v) := by simp [bne, bv_beq]
theorem bits_xor_b (u v : UInt8) : bits .xor .u8 (bv u) (bv v) = bv (u ^^^ v) := by
  unfold bv; rw [u8_xor_nat _ _ u.toNat_lt v.toNat_lt, UInt8.toNat_xor]
theorem bv_ofNat (n : Nat) (h : n < 256) : bv (UInt8.ofNat n) = (n : Int) := by
  unfold bv; rw [UInt8.toNat_ofNat_of_lt' (by simpa using h)]
theorem bit_div (b : UInt8) (k : Nat) : b.toNat / 2 ^ k % 2 = if bit b k then 1 else 0 := by
  have := Nat.testBit_eq_decide_div_mod_eq (x := b.toNat) (i := k)
  unfold bit
  rw [this]
  have : b.toNat / 2 ^ k % 2 < 2 := Nat.mod_lt _ (by omega)
  by_cases h : b.toNat / 2 ^ k % 2 = 1
  · simp [h]
  · simp [h]; omega
theorem bits_and1_b (b : UInt8) (k : Nat) : bits .and .u8 (bv b / 2 ^ k) 1 = if bit b k then 1 else 0 := by
  have h := u8_and_nat (b.toNat / 2 ^ k) 1 (Nat.lt_of_le_of_lt (Nat.div_le_self _ _) b.toNat_lt) (by omega)
  have e : (((b.toNat / 2 ^ k : Nat)) : Int) = bv b / 2 ^ k := by simp [bv]
  rw [e] at h
  rw [show (((1 : Nat)) : Int) = 1 from rfl] at h
  rw [h, Nat.and_one_is_mod, bit_div]
  split <;> rfl
theorem xt_hi {a : UInt8} (h : (bv a / 128 == 1) = true) : bits .xor .u8 (bv a * 2 % 256) 29 = bv (xt a) := by
  have := of_decide_eq_true (all_u8 (P := fun a => decide (a.toNat / 128 = 1 → (a.toNat * 2 % 256) ^^^ 29 = (xt a).toNat)) (by decide +kernel) a)
  unfold bv at h ⊢
  rw [← this (by simp at h; omega), ← u8_xor_nat _ _ (by omega) (by omega)]
  rfl
theorem xt_lo {a : UInt8} (h : (bv a / 128 == 1) = false) : bv a * 2 % 256 = bv (xt a) := by
  have := of_decide_eq_true (all_u8 (P := fun a => decide (a.toNat / 128 ≠ 1 → (a.toNat * 2 % 256) = (xt a).toNat)) (by decide +kernel) a)
  unfold bv at h ⊢
  rw [← this (by simp at h; omega)]
  rfl
theorem ret_int {k : IntKind} {a b : Int} (h : a = b) : Ending.returned (.int k a) = .returned (.int k b) := by rw [h]

/-- A byte that came in, as a byte. -/
theorem byte_of {a : Int} (h : (Lit.int .u8 a).wf = true) : ∃ u : UInt8, a = bv u := by
  have h1 := bounds_u8 h
  refine ⟨UInt8.ofNat a.toNat, ?_⟩
  rw [bv_ofNat _ (by omega)]; omega

/-! ### A slice that reads as a list of bytes -/
/-- The slice '.slice A n c' reads as the bytes us; its cells lie below block B. -/
def Rd (w : World) (B : Nat) (A : Option Addr) (n : Nat) (us : List UInt8) : Prop :=
  us.length = n ∧ (0 < n → ∃ b off, A = some ⟨b, off, none⟩ ∧ b < B ∧ ∀ i u, us[i]? = some u → w.cell? ⟨b, off + i, none⟩ = some (.int .u8 (bv u)))
theorem Rd.nil {w : World} {B : Nat} {A : Option Addr} : Rd w B A 0 [] := ⟨rfl, fun h => absurd h (by omega)⟩
theorem Rd.at_ {w : World} {B n : Nat} {A : Option Addr} {us : List UInt8} (h : Rd w B A n us) {k : Nat} (hk : k < n) :
    ∃ b off, A = some ⟨b, off, none⟩ ∧ b < B ∧ w.cell? ⟨b, off + k, none⟩ = some (.int .u8 (bv (us[k]?.getD 0))) := by
  obtain ⟨b, off, e, hb, hc⟩ := h.2 (by omega)
  have hl : k < us.length := by have := h.1; omega
  refine ⟨b, off, e, hb, ?_⟩
  rw [hc k us[k] (List.getElem?_eq_getElem hl)]
  simp [hl]
theorem Rd.keep {w w' : World} {B n : Nat} {A : Option Addr} {us : List UInt8} (h : Rd w B A n us) (hk : ∀ p : Addr, p.block < B → w'.cell? p = w.cell? p) : Rd w' B A n us :=
  ⟨h.1, fun hn => by
    obtain ⟨b, off, e, hb, hc⟩ := h.2 hn
    exact ⟨b, off, e, hb, fun j u hu => (hk ⟨b, off + j, none⟩ hb).trans (hc j u hu)⟩⟩
theorem Rd.below {w w' : World} {B n : Nat} {A : Option Addr} {us : List UInt8} (h : Rd w B A n us) (hb : Below B w w') : Rd w' B A n us := h.keep fun _ hp => hb.cell hp
theorem Rd.more {w : World} {B B' n : Nat} {A : Option Addr} {us : List UInt8} (h : Rd w B A n us) (hB : B ≤ B') : Rd w B' A n us :=
  ⟨h.1, fun hn => by
    obtain ⟨b, off, e, hb, hc⟩ := h.2 hn
    exact ⟨b, off, e, by omega, hc⟩⟩

/-- What 'open_ints' gives, as bytes. -/
def IsRow (k : IntKind) (w : World) (a : Option Addr) (len cap : Nat) (zs : List Int) : Prop :=
  (a = none ∧ len = 0 ∧ cap = 0 ∧ zs = []) ∨
  ∃ x, a = some x ∧ len ≤ cap ∧ cap ≤ maxLen ∧ zs.length = cap ∧ (∀ i, i < zs.length → w.cell? (x.add i) = some (.int k (zs.getD i 0))) ∧ ∀ n ∈ zs, (Lit.int k n).wf = true
theorem bytes_of (zs : List Int) (h : ∀ n ∈ zs, (Lit.int .u8 n).wf = true) : ∃ us : List UInt8, zs = us.map (fun u => bv u) := by
  induction zs with
  | nil => exact ⟨[], rfl⟩
  | cons z zs ih =>
    obtain ⟨us, rfl⟩ := ih fun n hn => h n (List.mem_cons_of_mem _ hn)
    obtain ⟨u, rfl⟩ := byte_of (h z (List.mem_cons_self ..))
    exact ⟨u :: us, rfl⟩
theorem cell_lt {w : World} {p : Addr} {v : Value} (h : w.cell? p = some v) : p.block < w.heap.size := by
  rcases Nat.lt_or_ge p.block w.heap.size with hl | hl
  · exact hl
  · have : w.heap[p.block]? = none := Array.getElem?_eq_none hl
    simp [World.cell?, this] at h
theorem IsRow.bytes {w : World} {a : Option Addr} {len cap : Nat} {zs : List Int} (h : IsRow .u8 w a len cap zs) : ∃ us, Rd w w.heap.size a len us := by
  rcases h with ⟨rfl, rfl, rfl, rfl⟩ | ⟨x, rfl, hl, hm, hz, hc, hw⟩
  · exact ⟨[], Rd.nil⟩
  · obtain ⟨us, rfl⟩ := bytes_of zs hw
    have hz' : us.length = cap := by simpa using hz
    refine ⟨us.take len, by simp; omega, fun hn => ?_⟩
    obtain ⟨b, off, spot⟩ := x
    have h0 := hc 0 (by simp; omega)
    have hspot : spot = none := by simpa [Addr.add] using World.cell?_spot h0
    subst hspot
    refine ⟨b, off, rfl, ?_, fun i u hu => ?_⟩
    · exact cell_lt (by simpa [Addr.add] using h0)
    · have hi : i < len := by
        have := (List.getElem?_eq_some_iff.1 hu).1
        simp at this; omega
      have h1 := hc i (by simp; omega)
      rw [List.getElem?_take, if_pos hi] at hu
      have h2 : (us.map fun u => bv u).getD i 0 = bv u := by simp [List.getD, hu]
      rw [h2] at h1
      rw [← h1]
      unfold Addr.add
      split
      · rename_i h; subst h; rfl
      · rfl

/-! ### Slices of rows -/
/-- The slice '.slice A n c' of slices of bytes reads as these rows; all of it lies below block B. -/
def Rds (w : World) (B : Nat) (A : Option Addr) (n : Nat) (rows : List (List UInt8)) : Prop :=
  rows.length = n ∧ (0 < n → ∃ b off, A = some ⟨b, off, none⟩ ∧ b < B ∧ ∀ i us, rows[i]? = some us → ∃ Ai ci, w.cell? ⟨b, off + i, none⟩ = some (.slice Ai us.length ci) ∧ Rd w B Ai us.length us)
theorem Rds.nil {w : World} {B : Nat} {A : Option Addr} : Rds w B A 0 [] := ⟨rfl, fun h => absurd h (by omega)⟩
theorem Rds.at_ {w : World} {B n : Nat} {A : Option Addr} {rows : List (List UInt8)} (h : Rds w B A n rows) {k : Nat} (hk : k < n) :
    ∃ b off Ak ck, A = some ⟨b, off, none⟩ ∧ b < B ∧ w.cell? ⟨b, off + k, none⟩ = some (.slice Ak (rows[k]?.getD []).length ck) ∧ Rd w B Ak (rows[k]?.getD []).length (rows[k]?.getD []) := by
  obtain ⟨b, off, e, hb, hc⟩ := h.2 (by omega)
  have hl : k < rows.length := by have := h.1; omega
  obtain ⟨Ak, ck, h1, h2⟩ := hc k rows[k] (List.getElem?_eq_getElem hl)
  refine ⟨b, off, Ak, ck, e, hb, ?_, ?_⟩ <;> simpa [hl] using by assumption
theorem Rds.keep {w w' : World} {B n : Nat} {A : Option Addr} {rows : List (List UInt8)} (h : Rds w B A n rows) (hk : ∀ p : Addr, p.block < B → w'.cell? p = w.cell? p) : Rds w' B A n rows :=
  ⟨h.1, fun hn => by
    obtain ⟨b, off, e, hb, hc⟩ := h.2 hn
    refine ⟨b, off, e, hb, fun j us hu => ?_⟩
    obtain ⟨Ai, ci, h1, h2⟩ := hc j us hu
    exact ⟨Ai, ci, (hk ⟨b, off + j, none⟩ hb).trans h1, h2.keep hk⟩⟩
theorem Rds.below {w w' : World} {B n : Nat} {A : Option Addr} {rows : List (List UInt8)} (h : Rds w B A n rows) (hb : Below B w w') : Rds w' B A n rows := h.keep fun _ hp => hb.cell hp
theorem Rds.more {w : World} {B B' n : Nat} {A : Option Addr} {rows : List (List UInt8)} (h : Rds w B A n rows) (hB : B ≤ B') : Rds w B' A n rows :=
  ⟨h.1, fun hn => by
    obtain ⟨b, off, e, hb, hc⟩ := h.2 hn
    refine ⟨b, off, e, by omega, fun j us hu => ?_⟩
    obtain ⟨Ai, ci, h1, h2⟩ := hc j us hu
    exact ⟨Ai, ci, h1, h2.more hB⟩⟩

theorem below_drewN {B : Nat} {a w : World} (h : Below B a w) (n : Nat) : Below B a (w.drewN n) := ⟨h.os, h.tape, h.output, h.size, h.block⟩

/-! ### A block that is known whole -/
def Blk (w : World) (g : Nat) (t : TypeId) (cs : Array Value) : Prop := w.heap[g]? = some (.cells cs t (0, 0))
section
variable {w w' : World} {g : Nat} {t : TypeId} {cs : Array Value}
theorem Blk.lt (h : Blk w g t cs) : g < w.heap.size := by
  refine Nat.lt_of_not_le fun hge => ?_
  rw [Blk, Array.getElem?_eq_none hge] at h
  cases h
theorem Blk.cell (h : Blk w g t cs) (i : Nat) : w.cell? ⟨g, i, none⟩ = cs[i]? := cell_of_row w g i cs t (0, 0) h
theorem Blk.frozen (h : Blk w g t cs) (i : Nat) : w.frozen? ⟨g, i, none⟩ = false := frozen_of_row w g i cs t h
theorem Blk.new (w : World) (t : TypeId) (cs : Array Value) : Blk (w.alloc (.cells cs t)) w.heap.size t cs := heap_alloc_new w _
theorem Blk.drewN (h : Blk w g t cs) (n : Nat) : Blk (w.drewN n) g t cs := h
theorem Blk.drew (h : Blk w g t cs) : Blk w.drew g t cs := h
theorem Blk.alloc (h : Blk w g t cs) (o : Obj) : Blk (w.alloc o) g t cs := (Below.heap_alloc w o g h.lt).trans h
theorem Blk.set (h : Blk w g t cs) (i : Nat) (u : Value) : Blk (w.setCell ⟨g, i, none⟩ u) g t (cs.setIfInBounds i u) := heap_setCell_same w g i cs t u h
theorem Blk.far (h : Blk w g t cs) {p : Addr} (hp : g ≠ p.block) (u : Value) : Blk (w.setCell p u) g t cs := (Below.heap_setCell w p u g hp).trans h
theorem Blk.below {B : Nat} (h : Blk w g t cs) (hb : Below B w w') (hg : g < B) : Blk w' g t cs := (hb.block g hg).trans h
theorem Blk.grown {row : Option Nat} (h : Blk w g t cs) (hb : w.grownBy w' row) (hg : some g ≠ row) : Blk w' g t cs := (hb.block g h.lt hg).trans h
end
/-- Bytes as the cells that hold them. -/
def bvs (us : List UInt8) : List Value := us.map fun u => .int .u8 (bv u)
theorem bvs_length (us : List UInt8) : (bvs us).length = us.length := by simp [bvs]
theorem bvs_get (us : List UInt8) (i : Nat) (u : UInt8) (h : us[i]? = some u) : (bvs us)[i]? = some (.int .u8 (bv u)) := by simp [bvs, h]
theorem bvs_set (us : List UInt8) (i : Nat) (u : UInt8) : (bvs us).toArray.setIfInBounds i (.int .u8 (bv u)) = (bvs (us.set i u)).toArray := by
  simp [bvs, List.map_set]
theorem Rd.of_blk {w : World} {g : Nat} {t : TypeId} {us : List UInt8} (h : Blk w g t (bvs us).toArray) : Rd w (g + 1) (some ⟨g, 0, none⟩) us.length us := by
  refine ⟨rfl, fun _ => ⟨g, 0, rfl, by omega, fun i u hu => ?_⟩⟩
  rw [Nat.zero_add, h.cell i]
  simpa using bvs_get us i u hu
theorem Rd.of_own {w : World} {base : Nat} {e : TypeId} {v : Value} {n : Nat} {us : List UInt8} (h : w.ownsRow base e 1 v n (bvs us)) : ∃ A c, v = .slice A n c ∧ Rd w w.heap.size A n us := by
  have hl : us.length = n := by simpa [bvs] using h.1
  rcases h.2 with ⟨rfl, rfl⟩ | ⟨g, cap, cur, rfl, hb, hh, hn, hm, hs, ht⟩
  · exact ⟨none, 0, rfl, hl, fun h => absurd h (by omega)⟩
  · refine ⟨some ⟨g, 0, none⟩, cap, rfl, hl, fun _ => ⟨g, 0, rfl, Blk.lt hh, fun i u hu => ?_⟩⟩
    have hi : i < us.length := (List.getElem?_eq_some_iff.1 hu).1
    rw [Nat.zero_add, Blk.cell hh i]
    have := bvs_get us i u hu
    rw [← ht, List.getElem?_take, if_pos (by omega)] at this
    simpa using this

/-! ### Appending one byte to a row of the call's own -/
theorem byte_info : (Try.prog.info? 5).map (fun i => (i.zero, i.size, i.bytes)) = some (some (.int .u8 0), 1, 1) := by kernel_rfl
theorem own_grown_below {w w' : World} {base : Nat} {e : TypeId} {size n : Nat} {v : Value} {xs : List Value} (h : w.ownsRow base e size v n xs) (hg : w.grownBy w' v.ownBlock) (hb : base ≤ w.heap.size) : Below base w w' :=
  (Below.refl base w).grown hg hb fun k hk => (h.lt k hk).1
theorem cells_one {w : World} {g : Nat} {x : Value} (h : w.cell? ⟨g, 0, none⟩ = some x) : ∀ j u, ([x] : List Value)[j]? = some u → w.cell? ((⟨g, 0, none⟩ : Addr).add j) = some u := by
  intro j u hu
  match j, hu with
  | 0, hu => simp at hu; subst hu; simpa [Addr.add] using h
/-! ### Only one block has changed -/
theorem grown_of_below {a w : World} (h : Below a.heap.size a w) (row : Option Nat) : a.grownBy w row := ⟨h.os, h.tape, h.output, h.size, fun k hk _ => h.block k hk⟩
theorem grown_setCell {a w : World} {g i : Nat} (h : a.grownBy w (some g)) (u : Value) : a.grownBy (w.setCell ⟨g, i, none⟩ u) (some g) :=
  ⟨h.os, h.tape, h.output, by simpa [World.setCell] using h.size, fun k hk hr => (Below.heap_setCell w _ u k (fun e => hr (by rw [e]))).trans (h.block k hk hr)⟩
theorem grown_drew {a w : World} {row : Option Nat} (h : a.grownBy w row) : a.grownBy w.drew row := ⟨h.os, h.tape, h.output, h.size, h.block⟩
theorem grown_below {a w : World} {B g : Nat} (h : a.grownBy w (some g)) (hB : B ≤ a.heap.size) (hg : B ≤ g) : Below B a w :=
  ⟨h.os, h.tape, h.output, h.size, fun k hk => h.block k (by omega) (fun e => by injection e; omega)⟩
theorem Rd.grown {w w' : World} {B n g : Nat} {A : Option Addr} {us : List UInt8} (h : Rd w B A n us) (hg : w.grownBy w' (some g)) (hB : B ≤ w.heap.size) (hBg : B ≤ g) : Rd w' B A n us := h.below (grown_below hg hB hBg)
theorem below_setRow {B : Nat} {a w : World} (h : Below B a w) {g : Nat} (hg : B ≤ g) (cs : Array Value) : Below B a (w.setRow g cs) :=
  ⟨h.os, h.tape, h.output, by rw [size_setRow]; exact h.size, fun k hk => (setRow_other w g k cs (by omega)).trans (h.block k hk)⟩
theorem Blk.row {w : World} {g : Nat} {t : TypeId} {old : Array Value} (h : Blk w g t old) (cs : Array Value) : Blk (w.setRow g cs) g t cs := setRow_heap w g old cs t (0, 0) h
theorem Blk.rowfar {w : World} {g g2 : Nat} {t : TypeId} {cs : Array Value} (h : Blk w g t cs) (hne : g ≠ g2) (cs2 : Array Value) : Blk (w.setRow g2 cs2) g t cs := (setRow_other w g2 g cs2 hne).trans h

/-! ### make([]byte, n) -/
def nulls (n : Nat) : List UInt8 := List.replicate n 0
theorem nulls_length (n : Nat) : (nulls n).length = n := by simp [nulls]
theorem make_bytes (n : Nat) (hn : n ≤ 140737488355328) (w : World) : (Instr.makeSlice 52 (.int .i64 (n : Int)) (.int .i64 (n : Int))).run Try.prog w =
    .ok (.slice (some ⟨w.heap.size, 0, none⟩) n n) (w.alloc (.cells (bvs (nulls n)).toArray 5)) := by
  obtain ⟨i0, hi0, hz0, hz1, hz2⟩ := info_parts byte_info
  have h := run_make (P := Try.prog) w 52 5 i0 _ Try.underlying52 hi0 hz0 .i64 .i64 (n : Int) (n : Int) (by omega) (Int.le_refl _) (by rw [hz2]; omega) (by omega)
  rw [h]
  simp only [Int.toNat_natCast, hz1, Nat.mul_one]
  have e : madeCells (Value.int .u8 0).cells n = (bvs (nulls n)).toArray := by
    apply Array.ext'
    have := toList_madeCells_one (.int .u8 0) n
    simp only [Value.cells]
    rw [this]
    simp [bvs, nulls, bv]
  rw [e]

/-! ### copy of a whole row of bytes -/
theorem Rd.adds {w : World} {B n : Nat} {A : Option Addr} {us : List UInt8} (h : Rd w B A n us) (hn : 0 < n) : ∃ ad, A = some ad ∧ ∀ j v, (bvs us)[j]? = some v → w.cell? (ad.add j) = some v := by
  obtain ⟨b, off, e, hb, hc⟩ := h.2 hn
  refine ⟨_, e, fun j v hv => ?_⟩
  have hj : j < us.length := by
    have := (List.getElem?_eq_some_iff.1 hv).1
    rwa [bvs_length] at this
  have hu := bvs_get us j us[j] (List.getElem?_eq_getElem hj)
  rw [hu] at hv
  have := hc j us[j] (List.getElem?_eq_getElem hj)
  rw [hv] at this
  rw [← this]
  unfold Addr.add
  split
  · rename_i h0; subst h0; rfl
  · rfl
theorem bvs_one (us : List UInt8) : ∀ v ∈ bvs us, v.oneCell' = true := by
  intro v hv
  simp only [bvs, List.mem_map] at hv
  obtain ⟨u, _, rfl⟩ := hv
  rfl
theorem copy_bytes {ops : Array Oper} {rest : List Oper} {o : Oper} {a : Act} {Q : Exit → Act → World → Prop} {w : World} (hgd : o.guard = none) (d s : Operand)
    (ho : o.op = .call { callee := .builtin .copy, args := #[d, s], argTypes := #[52, 52] }) (g n c : Nat) (A : Option Addr) (old us : List UInt8)
    (hd : a.eval d = .slice (some ⟨g, 0, none⟩) n n) (hs : a.eval s = .slice A n c) (hg : Blk w g 5 (bvs old).toArray) (hold : old.length = n) {B : Nat} (hr : Rd w B A n us)
    (B0 : Nat) (w0 : World) (hb : Below B0 w0 w) (hBg : B0 ≤ g)
    (h : ∀ w', Blk w' g 5 (bvs us).toArray → Below B0 w0 w' → wpList Try.prog ops Q rest (a.put o.dst (goInt n)) w') : wpList Try.prog ops Q (o :: rest) a w := by
  have hl : (bvs us).length = n := by rw [bvs_length]; exact hr.1
  have e : (bvs us).length = Nat.min n n := by rw [hl]; simp
  refine wpList_copy_splice hgd d s _ _ ho 5 Try.underlying52 (by kernel_rfl) (some ⟨g, 0, none⟩) A n n n c hd hs g 0 (bvs old) 5 hg (bvs us) e (fun hp => ⟨rfl, ?_⟩) (by rw [hl, bvs_length, hold]; omega) (bvs_one us) B0 w0 hb hBg ?_
  · exact hr.adds (by omega)
  · intro w' hw' hb'
    have h2 := h w' (by
      have := hw'.out
      have e2 : splice (bvs old) 0 (bvs us) = bvs us := by
        unfold splice
        simp [hl, bvs_length, hold]
      rw [e2] at this
      exact this) hb'
    rwa [hl]

/-! ### An argument of rows, opened -/
def toB (z : Int) : UInt8 := UInt8.ofNat z.toNat
theorem bv_toB {z : Int} (h : (Lit.int .u8 z).wf = true) : bv (toB z) = z := by
  have := bounds_u8 h
  unfold toB
  rw [bv_ofNat _ (by omega)]
  omega
theorem addr_add {b off k : Nat} : (⟨b, off, none⟩ : Addr).add k = ⟨b, off + k, none⟩ := by
  unfold Addr.add
  split
  · rename_i h; subst h; rfl
  · rfl
theorem rows_arg {H : Type} {enc : TypeId × Value → H} {W : World} {held : Bool} {t e q : TypeId} {A : Option Addr} {n c : Nat} {d : DataW H} {p : List MemPlace}
    (ht : Try.prog.underlying t = some (.slice e)) (he : Try.prog.underlying e = some (.slice q)) (hq : Try.prog.underlying q = some (.int .u8)) (ce : Try.prog.cellsOf e = 1) (cq : Try.prog.cellsOf q = 1)
    (h : DataW.Trod enc Try.prog W 0 (fun _ => true) held t (.slice A n c) d p) :
    ∃ rows, Rds W W.heap.size A n rows ∧ n ≤ c ∧ c ≤ maxLen := by
  obtain ⟨fuel, hf⟩ := h
  rcases Go.Deep.open_int_rows ht he hq ce cq hf with ⟨hcs, _⟩ | ⟨a, len, cap, AA, L, C, Z, hcs, _, hl, hm, _, hx⟩
  · simp [Value.cells] at hcs
    obtain ⟨rfl, rfl, rfl⟩ := hcs
    exact ⟨[], Rds.nil, by omega, by omega⟩
  · simp [Value.cells] at hcs
    obtain ⟨rfl, rfl, rfl⟩ := hcs
    refine ⟨(List.range n).map fun r => ((Z r).take (L r)).map toB, ⟨by simp, fun hn => ?_⟩, hl, hm⟩
    obtain ⟨b, off, spot⟩ := a
    have h0 := (hx 0 (by omega)).1
    have hspot : spot = none := by simpa [Addr.add] using World.cell?_spot h0
    subst hspot
    rw [addr_add] at h0
    refine ⟨b, off, rfl, cell_lt h0, fun i us hu => ?_⟩
    have hi : i < n := by
      have := (List.getElem?_eq_some_iff.1 hu).1
      simpa using this
    have hus : us = ((Z i).take (L i)).map toB := by
      simp [hi] at hu
      rw [← hu, List.map_take]
    obtain ⟨h1, h2, h3, h4, h5, h6, h7⟩ := hx i (by omega)
    have hlen : us.length = L i := by rw [hus]; simp; omega
    rw [addr_add] at h1
    refine ⟨AA i, C i, by rw [hlen]; exact h1, rfl, fun hpos => ?_⟩
    have hCi : 0 < C i := by omega
    cases hA : AA i with
    | none => exact absurd (h6 hA) (by omega)
    | some a' =>
      obtain ⟨_, hc⟩ := h7 a' hA
      obtain ⟨b', off', spot'⟩ := a'
      have g0 := hc 0 hCi
      have hspot' : spot' = none := by simpa [Addr.add] using World.cell?_spot g0
      subst hspot'
      rw [addr_add] at g0
      refine ⟨b', off', rfl, cell_lt g0, fun j u hj => ?_⟩
      have hjl : j < L i := by
        have := (List.getElem?_eq_some_iff.1 hj).1
        omega
      have g1 := hc j (by omega)
      rw [addr_add] at g1
      rw [g1]
      have hz : (Z i)[j]? = some ((Z i).getD j 0) := by
        have hj2 : j < (Z i).length := by omega
        simp [List.getD, hj2]
      rw [hus, List.getElem?_map, List.getElem?_take, if_pos hjl, hz] at hj
      simp only [Option.map_some, Option.some.injEq] at hj
      rw [← hj, bv_toB (h5 _ (List.mem_of_getElem? hz))]

/-! ### From call to call: what could be read is read behind it -/
theorem Rd.step {w w' : World} {n : Nat} {A : Option Addr} {us : List UInt8} (h : Rd w w.heap.size A n us) (hb : Below w.heap.size w w') : Rd w' w'.heap.size A n us := (h.below hb).more hb.size
theorem Rds.step {w w' : World} {n : Nat} {A : Option Addr} {rows : List (List UInt8)} (h : Rds w w.heap.size A n rows) (hb : Below w.heap.size w w') : Rds w' w'.heap.size A n rows := (h.below hb).more hb.size
theorem bstep {w a b : World} (hT : Below w.heap.size w a) (hb : Below a.heap.size a b) : Below w.heap.size w b := hT.trans (hb.mono hT.size)
theorem balloc (w : World) (o : Obj) : Below w.heap.size w (w.alloc o) := (Below.refl _ _).alloc (Nat.le_refl _) o
end Go.Proofs.Ytaidbcppecoenaa

