/-
  The laws' own helpers, by contract: Small, Open.
-/
import Derived.Test.YtegmeoghonolcaaGreatVda
set_option linter.unusedSimpArgs false
set_option linter.unusedVariables false
namespace Go.Proofs.YtegmeoghonolcaaGreat
open Go.RowKit Go.Maps
set_option linter.unusedVariables false

/-- The bank that a law opens. -/
abbrev B0 : Bn := ⟨3, 3, 12, 0, 0, 0⟩
end Go.Proofs.YtegmeoghonolcaaGreat

/-
  The laws' own helpers, by contract: fits, same.
-/
namespace Go.Proofs.YtegmeoghonolcaaGreat
open Go.RowKit Go.Maps
set_option linter.unusedVariables false

/-- Can a block be one of a segment's? -/
def fit1 (x : BlP) : Bool := decide (x.p.n ≤ 56) && (decide (0 ≤ x.o) && (decide (x.o ≤ 65535) && (decide (0 ≤ x.i) && decide (x.i ≤ 65535))))
def fitU (f : Nat → BlP) : Nat → Bool
  | 0 => true
  | k + 1 => fitU f k && fit1 (f k)
def fitO (f : Nat → BlP) (n m : Nat) : Bool := decide (n ≤ m) && fitU f n
theorem fitU_at {f : Nat → BlP} {k n : Nat} (h : k < n) (hn : fitU f n = true) : fit1 (f k) = true := by
  induction n with
  | zero => omega
  | succ n ih =>
    rw [fitU, Bool.and_eq_true] at hn
    rcases Nat.lt_or_ge k n with h1 | h1
    · exact ih h1 hn.1
    · obtain rfl : k = n := by omega
      exact hn.2
theorem fit_len {w : World} {a : Option Addr} {n : Nat} {f : Nat → BlP} (hb : Bls w a n f) (h : fitU f n = true) {j : Nat} (hj : j < n) : (f j).p.zs.length ≤ 56 := by
  have := fitU_at hj h
  rw [fit1, Bool.and_eq_true, decide_eq_true_eq] at this
  rw [(hb.each j hj).len]
  exact this.1
/-- What fits is encoded. -/
theorem fit_enc {w : World} {a : Option Addr} {n : Nat} {f : Nat → BlP} (hb : Bls w a n f) (h : fitO f n 6 = true) {q : Int} (q0 : 0 ≤ q) (q1 : q < 4294967296) : encB q f n 6 = true := by
  rw [fitO, Bool.and_eq_true] at h
  have hblk : ∀ j, encO q (blkAt f n j).o (blkAt f n j).i (blkAt f n j).p.zs = true := fun j => by
    unfold blkAt
    by_cases e : j < n
    · rw [if_pos e]
      have h1 := fitU_at e h.2
      have h2 := fit_len hb h.2 e
      simp only [fit1, Bool.and_eq_true, decide_eq_true_eq] at h1
      rw [encO, okH, hasW4_of q0 q1, hasW2_of h1.2.1 (by omega), hasW2_of h1.2.2.2.1 (by omega), decide_eq_true h2]
      rfl
    · rw [if_neg e, encO, okH, hasW4_of q0 q1]
      rfl
  rw [encB, h.1, Bool.true_and]
  show (((((((true && _) && _) && _) && _) && _) && _) : Bool) = true
  rw [hblk 0, hblk 1, hblk 2, hblk 3, hblk 4, hblk 5]
  rfl

end Go.Proofs.YtegmeoghonolcaaGreat

/-
  The stripe's calls as a law makes them: a rack, its bank, one contract each.
-/
namespace Go.Proofs.YtegmeoghonolcaaGreat
open Go.RowKit Go.Maps
set_option linter.unusedVariables false

section
variable {w0 w w' : World} {M : Nat → Prop} {L : Lay} {b : Nat} {R : Rk} {B : Bn}
theorem wrR_n (B : Bn) (R : Rk) (n m : Nat) (g q : Int) (fb : Nat → BlP) (nb : Nat) : (wrR B R n m g q fb nb).n = R.n := by
  unfold wrR
  split
  · rfl
  · split
    · rfl
    · split
      · rfl
      · exact wrG_n ..
theorem st_write (hB : Sml B) (g q : Int) (ab : Option Addr) (nb c : Nat) (fb : Nat → BlP) (h : St w0 M L b R B w) (hbl : Bls w ab nb fb) (hnb : nb ≤ 9223372036854775807) :
    Calls Tryz.prog 22 #[.pointer (some ⟨b, 0, none⟩), .int .i64 g, .int .i64 q, .slice ab nb c] w (StPost w0 M L b (wrR B R 3 3 g q fb nb) B w (.int .i64 (wrE B R 3 3 g q fb nb))) :=
  (sWrite_any (n := 3) (m := 3) g q ab nb c fb h.rk h.bk h.nb hB.d (by omega) hB.r hbl hnb).mono fun _ _ => h.post (wrR_n ..)
end
theorem sml0 : Sml B0 := ⟨rfl, rfl, rfl⟩
section
variable {R : Rk} {bad D : Nat → Bool} {C : Nat → Nat → List Int}
theorem Vd.vw0 (h : Vd R 4 41 bad D C) : Vw B0 R bad bad C := (h.vw rfl rfl rfl).congr (fun i _ => by rw [Bn.dk0 rfl]) (fun i _ => by rw [Bn.dk0 rfl]; simp) (fun i k _ _ _ => by rw [Bn.dk0 rfl])
theorem Vd.start : Vd (newRk 4 41) 4 41 noD noD (fun _ _ => List.replicate 64 0) := (Hd.start 4 41).vd
theorem Vd.flush0 (h : Vd R 4 41 bad D C) : (flG B0 R B0.num).2.1 = 0 ∧ Vd (flG B0 R B0.num).2.2 4 41 (orD bad D) noD C := by
  obtain ⟨_, h2, h3⟩ := h.flush (B := B0) (m := 3) rfl rfl B0.num (Nat.le_refl _)
  refine ⟨h2, ?_⟩
  rcases h3 with ⟨x, _⟩ | ⟨_, x⟩
  · have : B0.num = 4 := rfl
    omega
  · exact x
/-- A block that is read is the one that was written. -/
theorem blk_read {k : Nat} {q : Int} {fb : Nat → BlP} {nb : Nat} {z : List Int} (he : encB q fb nb 6 = true) (hk : k < 6) (hz : z = enS q fb nb k) : decN z 4 2 = (blkAt fb nb k).o ∧ decN z 6 2 = (blkAt fb nb k).i ∧ decL z = padL (blkAt fb nb k).p.zs 56 ∧ (decL z).length = 56 := by
  have ok := enS_ok he hk
  have e : z = encL q (blkAt fb nb k).o (blkAt fb nb k).i (blkAt fb nb k).p.zs := hz
  rw [e]
  exact ⟨ok.d1, ok.d2, ok.dl, by rw [ok.dl]; exact padL_len ok.fit⟩
end

/-- At most one disk is bad. -/
def One (bad : Nat → Bool) (f : Nat) : Prop := ∀ s, s < 3 → bad s = true → s = f
theorem One.cnt {bad : Nat → Bool} {f : Nat} (h : One bad f) : cntB bad ≤ 1 := by
  have h01 : ¬ (bad 0 = true ∧ bad 1 = true) := fun x => by have := h 0 (by omega) x.1; have := h 1 (by omega) x.2; omega
  have h02 : ¬ (bad 0 = true ∧ bad 2 = true) := fun x => by have := h 0 (by omega) x.1; have := h 2 (by omega) x.2; omega
  have h12 : ¬ (bad 1 = true ∧ bad 2 = true) := fun x => by have := h 1 (by omega) x.1; have := h 2 (by omega) x.2; omega
  unfold cntB
  cases h0 : bad 0 <;> cases h1 : bad 1 <;> cases h2 : bad 2 <;> simp_all
theorem one_doom (f : Nat) : One (orD noD fun j => noD j || j == f) f := fun s _ h => by simpa [orD] using h

end Go.Proofs.YtegmeoghonolcaaGreat
