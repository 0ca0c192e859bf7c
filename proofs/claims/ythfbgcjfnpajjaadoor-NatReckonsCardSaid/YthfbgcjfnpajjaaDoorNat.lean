import Derived.Test.YthfbgcjfnpajjaaDoorNumM
import Derived.Test.YthfbgcjfnpajjaaDoorMixM
/- What the functions of package nat come to: words, and numbers made of them. -/
namespace Go.Proofs.YthfbgcjfnpajjaaDoor
open Go.RowKit
set_option linter.unusedVariables false
set_option maxRecDepth 100000

/-- How many words of 64 bits there are. -/
def W64 : Nat := 18446744073709551616
theorem W64_pos : 0 < W64 := by decide
/-- From this number on none may be. -/
def K512 : Nat := 512
def BD : Nat := W64 ^ K512
/-! ### A slice that reads as words -/
def Wd (w : World) (B : Nat) (A : Option Addr) (n : Nat) (ws : List Nat) : Prop :=
  ws.length = n ∧ Below' W64 ws ∧ (0 < n → ∃ b off, A = some ⟨b, off, none⟩ ∧ b < B ∧ ∀ i x, ws[i]? = some x → w.cell? ⟨b, off + i, none⟩ = some (.int .u64 (uv x)))
theorem Wd.nil {w : World} {B : Nat} {A : Option Addr} : Wd w B A 0 [] := ⟨rfl, (fun x hx => absurd hx (by simp)), fun h => absurd h (by omega)⟩
theorem Wd.len {w : World} {B n : Nat} {A : Option Addr} {ws : List Nat} (h : Wd w B A n ws) : ws.length = n := h.1
theorem Wd.lts {w : World} {B n : Nat} {A : Option Addr} {ws : List Nat} (h : Wd w B A n ws) : Below' W64 ws := h.2.1
theorem Wd.at_ {w : World} {B n : Nat} {A : Option Addr} {ws : List Nat} (h : Wd w B A n ws) {k : Nat} (hk : k < n) :
    ∃ b off, A = some ⟨b, off, none⟩ ∧ b < B ∧ w.cell? ⟨b, off + k, none⟩ = some (.int .u64 (uv (dg ws k))) := by
  obtain ⟨b, off, e, hb, hc⟩ := h.2.2 (by omega)
  exact ⟨b, off, e, hb, hc k _ (dg_some (by have := h.1; omega))⟩
theorem Wd.keep {w w' : World} {B n : Nat} {A : Option Addr} {ws : List Nat} (h : Wd w B A n ws) (hk : ∀ p : Addr, p.block < B → w'.cell? p = w.cell? p) : Wd w' B A n ws :=
  ⟨h.1, h.2.1, fun hn => by
    obtain ⟨b, off, e, hb, hc⟩ := h.2.2 hn
    exact ⟨b, off, e, hb, fun j u hu => (hk ⟨b, off + j, none⟩ hb).trans (hc j u hu)⟩⟩
theorem Wd.below {w w' : World} {B n : Nat} {A : Option Addr} {ws : List Nat} (h : Wd w B A n ws) (hb : Below B w w') : Wd w' B A n ws := h.keep fun _ hp => hb.cell hp
theorem Wd.more {w : World} {B B' n : Nat} {A : Option Addr} {ws : List Nat} (h : Wd w B A n ws) (hB : B ≤ B') : Wd w B' A n ws :=
  ⟨h.1, h.2.1, fun hn => by
    obtain ⟨b, off, e, hb, hc⟩ := h.2.2 hn
    exact ⟨b, off, e, by omega, hc⟩⟩
theorem Wd.step {w w' : World} {n : Nat} {A : Option Addr} {ws : List Nat} (h : Wd w w.heap.size A n ws) (hb : Below w.heap.size w w') : Wd w' w'.heap.size A n ws := (h.below hb).more hb.size
theorem Wd.take {w : World} {B n : Nat} {A : Option Addr} {ws : List Nat} (h : Wd w B A n ws) {m : Nat} (hm : m ≤ n) : Wd w B A m (ws.take m) :=
  ⟨by rw [List.length_take, h.1]; omega, below_take h.2.1 m, fun hn => by
    obtain ⟨b, off, e, hb, hc⟩ := h.2.2 (by omega)
    refine ⟨b, off, e, hb, fun i x hx => ?_⟩
    have hi : i < m := by
      have := (List.getElem?_eq_some_iff.1 hx).1
      rw [List.length_take] at this; omega
    rw [List.getElem?_take, if_pos hi] at hx
    exact hc i x hx⟩
def uvs (ws : List Nat) : List Value := ws.map fun x => .int .u64 (uv x)
theorem uvs_length (ws : List Nat) : (uvs ws).length = ws.length := by simp [uvs]
theorem uvs_get (ws : List Nat) (i x : Nat) (h : ws[i]? = some x) : (uvs ws)[i]? = some (.int .u64 (uv x)) := by simp [uvs, h]
theorem uvs_set (ws : List Nat) (i x : Nat) : (uvs ws).toArray.setIfInBounds i (.int .u64 (uv x)) = (uvs (ws.set i x)).toArray := by simp [uvs, List.map_set]
theorem Wd.of_blk {w : World} {g : Nat} {t : TypeId} {ws : List Nat} (h : Blk w g t (uvs ws).toArray) (hb : Below' W64 ws) : Wd w (g + 1) (some ⟨g, 0, none⟩) ws.length ws := by
  refine ⟨rfl, hb, fun _ => ⟨g, 0, rfl, by omega, fun i x hx => ?_⟩⟩
  rw [Nat.zero_add, h.cell i]
  simpa using uvs_get ws i x hx
def noughts (n : Nat) : List Nat := List.replicate n 0
theorem noughts_length (n : Nat) : (noughts n).length = n := by simp [noughts]
theorem noughts_lt (n : Nat) : Below' W64 (noughts n) := fun x hx => by
  have := List.eq_of_mem_replicate hx
  subst this; exact W64_pos
theorem dg_noughts (n i : Nat) : dg (noughts n) i = 0 := by
  unfold dg noughts
  by_cases h : i < n
  · simp [h]
  · simp [h]
theorem num_noughts (b n : Nat) : num b (noughts n) = 0 := num_zero b fun i => dg_noughts n i
theorem word_info : (Tryd.prog.info? 22).map (fun i => (i.zero, i.size, i.bytes)) = some (some (.int .u64 0), 1, 8) := by kernel_rfl
theorem make_words (n : Nat) (hn : n ≤ 140737488355328 / 8) (w : World) : (Instr.makeSlice 25 (.int .i64 (n : Int)) (.int .i64 (n : Int))).run Tryd.prog w =
    .ok (.slice (some ⟨w.heap.size, 0, none⟩) n n) (w.alloc (.cells (uvs (noughts n)).toArray 22)) := by
  obtain ⟨i0, hi0, hz0, hz1, hz2⟩ := info_parts word_info
  have h := run_make (P := Tryd.prog) w 25 22 i0 _ Tryd.underlying25 hi0 hz0 .i64 .i64 (n : Int) (n : Int) (by omega) (Int.le_refl _) (by rw [hz2]; omega) (by omega)
  rw [h]
  simp only [Int.toNat_natCast, hz1, Nat.mul_one]
  have e : madeCells (Value.int .u64 0).cells n = (uvs (noughts n)).toArray := by
    apply Array.ext'
    have := toList_madeCells_one (.int .u64 0) n
    simp only [Value.cells]
    rw [this]
    simp [uvs, noughts, uv]
  rw [e]
/-! ### A number that lies in memory -/
/-- The value v is a number's, N, whose words lie below block B. -/
def NatIs (w : World) (B : Nat) (v : Value) (N : Nat) : Prop :=
  ∃ A n c ws, v = .agg #[.slice A n c] ∧ Wd w B A n ws ∧ Canon ws ∧ num W64 ws = N ∧ n ≤ 512
theorem NatIs.below {w w' : World} {B N : Nat} {v : Value} (h : NatIs w B v N) (hb : Below B w w') : NatIs w' B v N := by
  obtain ⟨A, n, c, ws, e, h1, h2⟩ := h
  exact ⟨A, n, c, ws, e, h1.below hb, h2⟩
theorem NatIs.step {w w' : World} {N : Nat} {v : Value} (h : NatIs w w.heap.size v N) (hb : Below w.heap.size w w') : NatIs w' w'.heap.size v N := by
  obtain ⟨A, n, c, ws, e, h1, h2⟩ := h
  exact ⟨A, n, c, ws, e, h1.step hb, h2⟩
theorem NatIs.lt {w : World} {B N : Nat} {v : Value} (h : NatIs w B v N) : N < BD := by
  obtain ⟨A, n, c, ws, e, h1, h2, h3, h4⟩ := h
  have := num_lt h1.lts
  rw [h3, h1.len] at this
  exact Nat.lt_of_lt_of_le this (Nat.pow_le_pow_right (j := K512) W64_pos h4)
theorem NatIs.zero {w : World} {B : Nat} : NatIs w B (.agg #[.slice none 0 0]) 0 := ⟨none, 0, 0, [], rfl, Wd.nil, canon_nil, rfl, by omega⟩

/-! ### trimmed -/
/-- What 'trimmed' gives. -/
def TrimSays (w : World) (B : Nat) (n : Nat) (ws : List Nat) (e : Ending) : Prop :=
  ∃ A' m c', e = .returned (.slice A' m c') ∧ m ≤ n ∧ Wd w B A' m (ws.take m) ∧ Canon (ws.take m) ∧ num W64 (ws.take m) = num W64 ws
theorem trimmed_any {B : Nat} {A : Option Addr} {n c : Nat} {ws : List Nat} {w : World} (h : Wd w B A n ws) (hn : n ≤ c) (hc : c ≤ 9223372036854775807) :
    Calls Tryd.prog 30 #[.slice A n c] w fun e w' => TrimSays w B n ws e ∧ w = w' := by
  have Hl := Lib.hid h.len
  have Hlt := Lib.hid h.lts
  have H := Lib.hid h
  have Hat := Lib.hid (fun (k : Nat) => h.at_ (k := k))
  clear h
  have HZ := Lib.hid (show Null ws n from fun i hi => dg_none (by rw [Hl.out]; exact hi))
  go_enter Tryd.func30, Tryd.ntmps30
  go_wp2
  go_loop [3] (fun i => ∃ k : Nat, k ≤ n ∧ i = .int .i64 k ∧ Hid (Null ws k)) (fun i => (intOf i).toNat)
  case atStart => exact ⟨n, by omega, rfl, HZ⟩
  case round =>
    obtain ⟨k, hk, rfl, hz⟩ := hrel
    by_cases hlt : 0 < k
    · obtain ⟨j, rfl⟩ : ∃ j, k = j + 1 := ⟨k - 1, by omega⟩
      obtain ⟨b, off, rfl, hbB, hcell⟩ := Hat.out j (by omega)
      have e1 : ((j + 1 : Nat) : Int) - 1 = (j : Int) := by omega
      by_cases h0 : dg ws j = 0
      · have t : (uv (dg ws j) != 0) = false := by rw [h0]; rfl
        have Hz := Lib.hid (show Null ws j from fun i hi => by
          by_cases hij : i = j
          · rw [hij]; exact h0
          · exact hz.out i (by omega))
        clear h0
        go_wp2_with fail
        go_round
        case rel => exact ⟨j, by omega, rfl, Hz⟩
        case measure => simp [intOf]
      · have t : (uv (dg ws j) != 0) = true := by
          have : uv (dg ws j) ≠ 0 := by unfold uv; omega
          simpa using this
        have Hc := Lib.hid (canon_take (ws := ws) (m := j + 1) (by rw [Hl.out]; omega) (.inr h0))
        have Hn := Lib.hid (num_null W64 hz.out)
        have Hw := Lib.hid (H.out.take hk)
        clear h0
        go_wp2_with fail
        go_ret
        exact ⟨⟨_, j + 1, _, rfl, hk, Hw.out, Hc.out, Hn.out⟩, rfl⟩
    · obtain rfl : k = 0 := by omega
      have Hn := Lib.hid (num_null W64 hz.out)
      go_wp2_with fail
      go_ret
      exact ⟨⟨none, 0, 0, rfl, by omega, Wd.nil, canon_nil, Hn.out⟩, rfl⟩
/-! ### Of, bounded, word -/
theorem trim_nat {w : World} {B n : Nat} {ws : List Nat} {e : Ending} (h : TrimSays w B n ws e) (hn : n ≤ 512) : ∃ A' m c', e = .returned (.slice A' m c') ∧ NatIs w B (.agg #[.slice A' m c']) (num W64 ws) := by
  obtain ⟨A', m, c', e1, h1, h2, h3, h4⟩ := h
  exact ⟨A', m, c', e1, A', m, c', _, rfl, h2, h3, h4, by omega⟩
/-- A result that is a number, and what became of the world. -/
def GivesNat (N : Nat) (w : World) (e : Ending) (w' : World) : Prop := ∃ v, e = .returned v ∧ NatIs w' w'.heap.size v N ∧ Below w.heap.size w w'
def GivesPair (N : Nat) (w : World) (e : Ending) (w' : World) : Prop := ∃ v, e = .returned (.tuple #[v, .int .i64 0]) ∧ NatIs w' w'.heap.size v N ∧ Below w.heap.size w w'
def GivesErr (x : Int) (w : World) (e : Ending) (w' : World) : Prop := e = .returned (.tuple #[.agg #[.slice none 0 0], .int .i64 x]) ∧ Below w.heap.size w w'
theorem blk_cell {w : World} {g : Nat} {t : TypeId} {x : Value} (h : Blk w g t #[x]) : w.cell? ⟨g, 0, none⟩ = some x ∧ w.frozen? ⟨g, 0, none⟩ = false := ⟨by rw [h.cell]; rfl, h.frozen 0⟩
theorem blk_one {w : World} {g : Nat} {t : TypeId} {x y : Value} (h : Blk w g t #[x]) : Blk (w.setCell ⟨g, 0, none⟩ y) g t #[y] := by
  have := h.set 0 y
  simpa using this
/-- What is read of words stays, where another block is written. -/
def NoWord (cs : Array Value) : Prop := ∀ (i : Nat) (v : Value) (x : Nat), cs[i]? = some v → v ≠ Value.int .u64 (uv x)
theorem NoWord.one {A : Option Addr} {n c : Nat} : NoWord #[.slice A n c] := by
  intro i v x h
  match i, h with
  | 0, h => simp at h; subst h; simp
theorem Wd.far {w w' : World} {B n g : Nat} {A : Option Addr} {ws : List Nat} {T : TypeId} {cs : Array Value} (h : Wd w B A n ws) (hg : Blk w g T cs) (hn : NoWord cs) (hk : ∀ p : Addr, p.block ≠ g → w'.cell? p = w.cell? p) : Wd w' B A n ws :=
  ⟨h.1, h.2.1, fun hp => by
    obtain ⟨b, off, e, hb, hc⟩ := h.2.2 hp
    refine ⟨b, off, e, hb, fun i x hx => ?_⟩
    have h1 := hc i x hx
    by_cases hbg : b = g
    · subst hbg
      rw [hg.cell] at h1
      exact absurd rfl (hn _ _ x h1)
    · rw [hk ⟨b, off + i, none⟩ hbg]; exact h1⟩
theorem NatIs.far {w w' : World} {B g N : Nat} {v : Value} {T : TypeId} {cs : Array Value} (h : NatIs w B v N) (hg : Blk w g T cs) (hn : NoWord cs) (hk : ∀ p : Addr, p.block ≠ g → w'.cell? p = w.cell? p) : NatIs w' B v N := by
  obtain ⟨A, n, c, ws, e, h1, h2⟩ := h
  exact ⟨A, n, c, ws, e, h1.far hg hn hk, h2⟩
theorem cell_far (w : World) (g : Nat) (y : Value) (p : Addr) (h : p.block ≠ g) : (w.setCell ⟨g, 0, none⟩ y).cell? p = w.cell? p :=
  World.cell?_of_block (Below.heap_setCell w ⟨g, 0, none⟩ y p.block h)
theorem NatIs.set {w : World} {B g N : Nat} {v y : Value} {T : TypeId} {A : Option Addr} {n c : Nat} (h : NatIs w B v N) (hg : Blk w g T #[.slice A n c]) : NatIs (w.setCell ⟨g, 0, none⟩ y) B v N := h.far hg NoWord.one (cell_far w g y)
theorem NatIs.more {w : World} {B B' N : Nat} {v : Value} (h : NatIs w B v N) (hB : B ≤ B') : NatIs w B' v N := by
  obtain ⟨A, n, c, ws, e, h1, h2⟩ := h
  exact ⟨A, n, c, ws, e, h1.more hB, h2⟩
theorem size_setCell' (w : World) (p : Addr) (y : Value) : (w.setCell p y).heap.size = w.heap.size := by simp [World.setCell]
theorem of_any (N : Nat) (hN : N < W64) (w : World) : Calls Tryd.prog 11 #[.int .u64 (uv N)] w (GivesNat N w) := by
  have hb : Below' W64 [N] := fun x hx => by simp at hx; omega
  have HB := Lib.hid hb
  have hg0 := (Blk.new w 27 #[.slice none 0 0]).alloc (.cells #[.int .u64 (uv N)] 22)
  have hw0 : Wd ((w.alloc (.cells #[.slice none 0 0] 27)).alloc (.cells #[.int .u64 (uv N)] 22)) (w.heap.size + 1 + 1) (some ⟨w.heap.size + 1, 0, none⟩) 1 [N] := by
    have h1 := Wd.of_blk (Blk.new (w.alloc (.cells #[.slice none 0 0] 27)) 22 (uvs [N]).toArray) hb
    rw [World.size_alloc] at h1
    exact h1
  have hbel := bstep (balloc w (.cells #[.slice none 0 0] 27)) (balloc _ (.cells #[.int .u64 (uv N)] 22))
  have hnum : num W64 [N] = N := by rw [num_cons, num_nil]; omega
  have Hnum := Lib.hid hnum
  have C := trimmed_any (c := 1) hw0 (by simp) (by omega)
  have Hg := Lib.hid hg0
  have Hbel := Lib.hid hbel
  clear hb hN hw0 hnum hg0 hbel
  go_enter Tryd.func11, Tryd.ntmps11
  go_wp2_with fail
  refine C.mono ?_
  rintro e w' ⟨ht, rfl⟩
  obtain ⟨A', m, c', rfl, hN⟩ := trim_nat ht (by simp)
  rw [Hnum.out] at hN
  have HN := Lib.hid hN
  clear C ht hN
  have hG := Hg.out
  have hB := Hbel.out
  have hlt := hG.lt
  have hsz : w.heap.size + 1 + 1 ≤ ((w.alloc (.cells #[.slice none 0 0] 27)).alloc (.cells #[.int .u64 (uv N)] 22)).heap.size := by simp
  generalize (w.alloc (.cells #[.slice none 0 0] 27)).alloc (.cells #[.int .u64 (uv N)] 22) = W at *
  obtain ⟨z0, z1⟩ := blk_cell hG
  go_wp2_with fail
  have hG2 := blk_one (y := .slice A' m c') hG
  obtain ⟨y0, y1⟩ := blk_cell hG2
  refine bodyPost_ret (v := .agg #[.slice A' m c']) (by simp [results, Tryd.results11, go_sem, y0]) rfl ?_
  exact ⟨_, rfl, (HN.out.set hG).more (by rw [size_setCell']; exact hsz), hB.setCell (Nat.le_refl _) _⟩
theorem canon_fits {ws : List Nat} (hc : Canon ws) (h : num W64 ws < BD) : ws.length ≤ 512 := by
  refine Nat.le_of_not_lt fun hlt => ?_
  have h1 := canon_ge W64 hc (by omega)
  have h2 : BD ≤ W64 ^ (ws.length - 1) := Nat.pow_le_pow_right (n := W64) W64_pos (show K512 ≤ ws.length - 1 by unfold K512; omega)
  omega
theorem canon_over {ws : List Nat} (hb : Below' W64 ws) (h : BD ≤ num W64 ws) : 512 < ws.length := by
  refine Nat.lt_of_not_le fun hle => ?_
  have h1 := num_lt hb
  have h2 : W64 ^ ws.length ≤ BD := Nat.pow_le_pow_right (n := W64) W64_pos (show ws.length ≤ K512 from hle)
  omega
set_option maxHeartbeats 400000 in
theorem bounded_ok {B : Nat} {A : Option Addr} {n c : Nat} {ws : List Nat} {w : World} (h : Wd w B A n ws) (hB : B ≤ w.heap.size) (hn : n ≤ c) (hc : c ≤ 9223372036854775807) (hlt : num W64 ws < BD) :
    Calls Tryd.prog 29 #[.slice A n c] w (GivesPair (num W64 ws) w) := by
  have HL := Lib.hid hlt
  have hb0 := balloc w (.cells #[.slice none 0 0] 27)
  have C := trimmed_any (h.below (hb0.mono hB)) hn hc
  have hG := Blk.new w 27 #[.slice none 0 0]
  have hsz : B ≤ (w.alloc (.cells #[.slice none 0 0] 27)).heap.size := by simp; omega
  have Hc := Lib.hid hc
  clear hlt h hc
  go_enter Tryd.func29, Tryd.ntmps29
  go_wp2_with fail
  refine C.mono ?_
  rintro e w' ⟨ht, rfl⟩
  have hm : ∃ A' m c', e = .returned (.slice A' m c') ∧ m ≤ 512 ∧ NatIs (w.alloc (.cells #[.slice none 0 0] 27)) B (.agg #[.slice A' m c']) (num W64 ws) := by
    obtain ⟨A', m, c', e1, h1, h2, h3, h4⟩ := ht
    have h5 := canon_fits h3 (by rw [h4]; exact HL.out)
    rw [h2.len] at h5
    exact ⟨A', m, c', e1, h5, A', m, c', _, rfl, h2, h3, h4, h5⟩
  obtain ⟨A', m, c', rfl, hm5, hN⟩ := hm
  have HN := Lib.hid hN
  clear C ht hN
  generalize w.alloc (.cells #[.slice none 0 0] 27) = W at *
  obtain ⟨z0, z1⟩ := blk_cell hG
  have hlt := hG.lt
  go_wp2_with fail
  have hG2 := blk_one (y := .slice A' m c') hG
  obtain ⟨y0, y1⟩ := blk_cell hG2
  refine bodyPost_ret (v := .tuple #[.agg #[.slice A' m c'], .int .i64 0]) (by simp [results, Tryd.results29, go_sem, y0]) rfl ?_
  exact ⟨_, rfl, (HN.out.set hG).more (by rw [size_setCell']; exact hsz), hb0.setCell (Nat.le_refl _) _⟩
set_option maxHeartbeats 400000 in
theorem bounded_long {B : Nat} {A : Option Addr} {n c : Nat} {ws : List Nat} {w : World} (h : Wd w B A n ws) (hB : B ≤ w.heap.size) (hn : n ≤ c) (hc : c ≤ 9223372036854775807) (hlt : BD ≤ num W64 ws) :
    Calls Tryd.prog 29 #[.slice A n c] w (GivesErr 16 w) := by
  have HL := Lib.hid hlt
  have hb0 := balloc w (.cells #[.slice none 0 0] 27)
  have C := trimmed_any (h.below (hb0.mono hB)) hn hc
  have hG := Blk.new w 27 #[.slice none 0 0]
  have Hc := Lib.hid hc
  clear hlt h hc
  go_enter Tryd.func29, Tryd.ntmps29
  go_wp2_with fail
  refine C.mono ?_
  rintro e w' ⟨ht, rfl⟩
  have hm : ∃ A' m c', e = .returned (.slice A' m c') ∧ 512 < m ∧ m ≤ n := by
    obtain ⟨A', m, c', e1, h1, h2, h3, h4⟩ := ht
    have h5 := canon_over h2.lts (by rw [h4]; exact HL.out)
    rw [h2.len] at h5
    exact ⟨A', m, c', e1, h5, h1⟩
  obtain ⟨A', m, c', rfl, hm5, hmn⟩ := hm
  clear C ht
  generalize w.alloc (.cells #[.slice none 0 0] 27) = W at *
  obtain ⟨z0, z1⟩ := blk_cell hG
  have hlt := hG.lt
  go_wp2_with fail
  have hG2 := blk_one (y := .slice none 0 0) hG
  obtain ⟨y0, y1⟩ := blk_cell hG2
  refine bodyPost_ret (v := .tuple #[.agg #[.slice none 0 0], .int .i64 16]) (by simp [results, Tryd.results29, go_sem, y0]) rfl ?_
  exact ⟨rfl, hb0.setCell (Nat.le_refl _) _⟩
theorem word_any {B : Nat} {A : Option Addr} {n c : Nat} {ws : List Nat} {w : World} (i : Nat) (h : Wd w B A n ws) (hB : B ≤ w.heap.size) (hn : n ≤ 9223372036854775807) (hi : i ≤ 9223372036854775807) :
    Calls Tryd.prog 38 #[.agg #[.slice A n c], .int .i64 i] w fun e w' => e = .returned (.int .u64 (uv (dg ws i))) ∧ Below w.heap.size w w' := by
  by_cases hlt : i < n
  · obtain ⟨b, off, rfl, hb, hc⟩ := h.at_ hlt
    have hbw : b < w.heap.size := by omega
    clear h
    go_enter Tryd.func38, Tryd.ntmps38
    go_wp2_with fail
    go_ret
    exact ⟨rfl, by go_grown⟩
  · have e : Hid (dg ws i = 0) := Lib.hid (dg_none (by rw [h.len]; omega))
    clear h
    go_enter Tryd.func38, Tryd.ntmps38
    go_wp2_with fail
    go_ret
    exact ⟨by rw [e.out]; rfl, by go_grown⟩
end Go.Proofs.YthfbgcjfnpajjaaDoor
