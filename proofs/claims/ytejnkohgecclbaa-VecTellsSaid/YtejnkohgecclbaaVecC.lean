import Derived.Test.YtejnkohgecclbaaVecB
/- Norm and Less, and the document's own. -/
namespace Go.Proofs.Ytejnkohgecclbaa
open Go.RowKit
set_option linter.unusedVariables false
set_option maxRecDepth 100000

def normR (r : List UInt8 × List UInt8) : List UInt8 × List UInt8 := if leadI r.1 < 0 then r else (scaleL (ginv (atB r.1 (leadI r.1))) r.1, scaleL (ginv (atB r.1 (leadI r.1))) r.2)
theorem Rd.drew {w : World} {B n : Nat} {A : Option Addr} {us : List UInt8} (h : Rd w B A n us) : Rd w.drew B A n us := h
theorem Rd.dd {w : World} {n : Nat} {A : Option Addr} {us : List UInt8} (h : Rd w w.heap.size A n us) : Rd w.drew w.drew.heap.size A n us := h.step (Below.refl _ _).drew
theorem at_minus (us : List UInt8) : atB us (-1) = 0 := by simp [atB]
theorem at_lead {us : List UInt8} (h : ¬ leadI us < 0) : atB us (leadI us) ≠ 0 := by
  have h1 := lead_bounds us
  have h2 := lead_get (us := us) (by omega)
  unfold atB
  rw [if_pos (by omega)]
  exact h2
theorem norm_any {A A2 : Option Addr} {n c n2 c2 : Nat} {r : List UInt8 × List UInt8} {w : World} (h1 : Rd w w.heap.size A n r.1) (h2 : Rd w w.heap.size A2 n2 r.2) (l1 : n ≤ 140737488355327) (l2 : n2 ≤ 140737488355327) :
    Calls Try.prog 19 #[.agg #[.slice A n c, .slice A2 n2 c2]] w (RowEnds (normR r) w) := by
  obtain ⟨hb0, hx, hg⟩ := two_alloc (w := w) (T := 35) (T2 := 35) (cs := #[.slice A n c, .slice A2 n2 c2]) (cs2 := #[.slice none 0 0, .slice none 0 0])
  have q1 := h1.step hb0
  have q2 := h2.step hb0
  have lb := lead_bounds r.1
  have hl := h1.1
  have hz : w.heap.size + 1 < ((w.alloc (.cells #[.slice A n c, .slice A2 n2 c2] 35)).alloc (.cells #[.slice none 0 0, .slice none 0 0] 35)).heap.size := by simp
  obtain ⟨hc0, hc1, hf0, hf1⟩ := cells2 hx
  have CA := fun w1 B q => at_any (w := w1) (c := c) (q : Rd w1 B A n r.1) (by omega) (leadI r.1) (by omega) (by omega)
  have CL := fun w1 B q => lead_any (w := w1) (c := c) (q : Rd w1 B A n r.1) (by omega)
  by_cases hlead : leadI r.1 < 0
  · have e1 : leadI r.1 = -1 := by omega
    have e2 : normR r = r := by simp [normR, hlead]
    rw [e1] at CL CA
    rw [at_minus] at CA
    rw [e2]
    clear e2 e1 hlead lb hl h1 h2
    go_enter Try.func19, Try.ntmps19
    go_wp2_with fail
    go_region_held3 (fun w' => w'.cell? ⟨w.heap.size, 0, none⟩ = some (.slice A n c)) (go_keep) (first | (go_at_call 7; refine (CL _ _ q1.drew).mono ?_; rintro e w' ⟨rfl, rfl⟩) | (go_at_call 10; refine (CA _ _ q1.drew).mono ?_; rintro e w' ⟨rfl, rfl⟩) | (go_at_call 30; refine (inv_zero _).mono ?_; rintro e w' ⟨rfl, rfl⟩))
    go_wp2_with fail
    refine (rclone_any q1.dd q2.dd l1 l2).mono ?_
    rintro e w1 ⟨x, rfl, ⟨A3, n3, c3, A4, n4, c4, rfl, r1, r2, l3, l4⟩, b1⟩
    replace hg := hg.drew.below b1 hz
    replace hb0 := bstep hb0.drew b1
    clear b1 q1 q2 hx hz hc0 hc1 hf0 hf1
    obtain ⟨hc0, hc1, hf0, hf1⟩ := cells2 hg
    go_wp2_with fail
    refine end_row (v := .agg #[.slice A3 n3 c3, .slice A4 n4 c4]) hg (by intro W e0 e1; simp [results, Try.results19, go_sem, e0, e1]) rfl fun W hl => ?_
    exact RowEnds.mk (hl.row r1 hg NoBytes.two) (hl.row r2 hg NoBytes.two) l3 l4 (hl.below _ _ (by omega) hb0)
  · have e2 : normR r = (scaleL (ginv (atB r.1 (leadI r.1))) r.1, scaleL (ginv (atB r.1 (leadI r.1))) r.2) := by simp [normR, hlead]
    have hat := at_lead hlead
    rw [e2]
    generalize atB r.1 (leadI r.1) = x at *
    generalize leadI r.1 = k at *
    clear e2 hlead lb hl h1 h2
    go_enter Try.func19, Try.ntmps19
    go_wp2_with fail
    go_region_held3 (fun w' => w'.cell? ⟨w.heap.size, 0, none⟩ = some (.slice A n c)) (go_keep) (first | (go_at_call 7; refine (CL _ _ q1.drew).mono ?_; rintro e w' ⟨rfl, rfl⟩) | (go_at_call 10; refine (CA _ _ q1.drew).mono ?_; rintro e w' ⟨rfl, rfl⟩) | (go_at_call 30; refine (inv_some _ hat _).mono ?_; rintro e w' ⟨rfl, rfl⟩))
    go_wp2_with fail
    clear CA CL
    have q1' := q1.dd.dd
    have q2' := q2.dd.dd
    have hb0' := hb0.drew.drew
    have hg' := hg.drew.drew
    have hx' := hx.drew.drew
    have hz0 := Nat.lt_of_succ_lt hz
    clear q1 q2 hg hx hb0 hc0 hc1 hf0 hf1
    obtain ⟨hc0, hc1, hf0, hf1⟩ := cells2 hx'
    obtain ⟨hd0, hd1, he0, he1⟩ := cells2 hg'
    go_region_held3 (fun w' => w'.cell? ⟨w.heap.size, 0, none⟩ = some (.slice A n c) ∧ w'.cell? ⟨w.heap.size, 1, none⟩ = some (.slice A2 n2 c2)) (first | exact ⟨hc0, hc1⟩ | exact ⟨kc0, kc1⟩ | exact ⟨mc0, mc1⟩ | go_keep) (first | (go_at_call 31; (with_reducible refine (kscale_says (ginv x) q1' (Nat.le_refl _) (by omega)).mono ?_); rintro e w1 ⟨A3, c3, rfl, r1, b1⟩; have kx := hx'.below b1 hz0; have kg := hg'.below b1 hz; have kb := bstep hb0' b1; have kq2 := q2'.step b1; obtain ⟨kc0, kc1, kf0, kf1⟩ := cells2 kx; obtain ⟨kd0, kd1, ke0, ke1⟩ := cells2 kg) | (go_at_call 31; refine (kscale_says (ginv x) kq2 (Nat.le_refl _) (by omega)).mono ?_; rintro e w2 ⟨A4, c4, rfl, r2, b2⟩; have mx := kx.below b2 (Nat.lt_of_lt_of_le hz0 b1.size); have mg := kg.below b2 (Nat.lt_of_lt_of_le hz b1.size); have mb := bstep kb b2; have mr1 := r1.step b2; obtain ⟨mc0, mc1, mf0, mf1⟩ := cells2 mx; obtain ⟨md0, md1, me0, me1⟩ := cells2 mg))
    go_wp2_with fail
    refine end_row (v := .agg #[.slice A3 n c3, .slice A4 n2 c4]) mg (by intro W e0 e1; simp [results, Try.results19, go_sem, e0, e1]) rfl fun W hl => ?_
    exact RowEnds.mk (hl.row mr1 mg NoBytes.two) (hl.row r2 mg NoBytes.two) l1 l2 (hl.below _ _ (by omega) mb)

/-- A row and a code are answered. -/
def RowEnds2 (r : (List UInt8 × List UInt8) × Int) (w : World) (e : Ending) (w' : World) : Prop := ∃ x, e = .returned (.tuple #[x, .int .i64 r.2]) ∧ RowIs w' r.1 x ∧ Below w.heap.size w w'
theorem RowEnds2.mk {w w' : World} {r : List UInt8 × List UInt8} {k : Int} {A A2 : Option Addr} {n c n2 c2 : Nat} (h1 : Rd w' w'.heap.size A n r.1) (h2 : Rd w' w'.heap.size A2 n2 r.2) (l1 : n ≤ 140737488355327) (l2 : n2 ≤ 140737488355327) (hb : Below w.heap.size w w') :
    RowEnds2 (r, k) w (.returned (.tuple #[.agg #[.slice A n c, .slice A2 n2 c2], .int .i64 k])) w' := ⟨_, rfl, ⟨_, _, _, _, _, _, rfl, h1, h2, l1, l2⟩, hb⟩
end Go.Proofs.Ytejnkohgecclbaa
