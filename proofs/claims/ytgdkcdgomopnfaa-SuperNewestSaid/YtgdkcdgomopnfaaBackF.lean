/-
  What is put is got again, and is none of another kind: in plain words.
-/
import Derived.Test.YtgdkcdgomopnfaaRefGet5
namespace Go.Proofs.Ytgdkcdgomopnfaa
open Go.RowKit

theorem fld_kind {k j : Int} {s : Nat} {z : List Int} (h : k ≠ j) : fldO j s (startL k ++ z) = false := fld_no fun e => h e.2.2.2.2
theorem startL_small {k : Int} (h : 0 ≤ k ∧ k ≤ 255) : AllB (startL k) := fun z hz => by
  simp only [startL, List.mem_cons, List.not_mem_nil, or_false] at hz
  rcases hz with rfl | rfl | rfl | rfl <;> omega
theorem Z_small (n : Nat) : AllB (Z n) := AllB.zeros n
theorem app3 (k a b c : List Int) : k ++ (a ++ (b ++ c)) = (k ++ a) ++ (b ++ c) := by simp
theorem app4 (k a b c d : List Int) : k ++ (a ++ (b ++ (c ++ d))) = (k ++ a ++ b) ++ (c ++ d) := by simp
/-- A mark's record. -/
structure MarkOk (s : Int) : Prop where
  small : AllB (markL s)
  len : (markL s).length = 64
  o : gmO (markL s) = true
  v : gmV (markL s) = s
  ns : gsO (markL s) = false
  nb : gbO (markL s) = false
theorem mark_ok {s : Int} (h : hasW s 4 = true) : MarkOk s := by
  have e := markL_yes h
  have hs : AllB (markL s) := by rw [e]; exact (startL_small (by omega)).app ((digs_small _ _).app (Z_small _))
  have hl : (markL s).length = 64 := by rw [e]; simp [startL, digs_len]
  have ho : gmO (markL s) = true := by rw [gmO_iff hs, e]; exact fld_of (digs_len 4 s) (by omega)
  have hn : gmN (markL s) = s := by
    rw [gmN, show getV (markL s).length (markL s) 4 4 = getN (markL s) 4 4 from getV_in (p := 4) (m := 4) (by omega) (by omega) (by omega), e]
    exact getN_app (startL 2) 4 s _ (hasW_lt4 h).1 (hasW_lt4 h).2
  refine ⟨hs, hl, ho, by rw [gmV, ho, if_pos rfl, hn], ?_, ?_⟩
  · rw [gsO_iff hs, e, fld_kind (by decide)]; rfl
  · rw [gbO_iff hs, e, fld_kind (by decide)]; rfl
/-- A super's record. -/
structure SuperOk (d r s : Int) : Prop where
  small : AllB (superL d r s)
  len : (superL d r s).length = 64
  o : gsO (superL d r s) = true
  v : gsV (superL d r s) = sv d r s
  nm : gmO (superL d r s) = false
  nb : gbO (superL d r s) = false
theorem super_ok {d r s : Int} (h : rtB d r s = true) : SuperOk d r s := by
  have e := superL_yes h
  have hr := rtB_rt h
  have hd := hr.d1; have hd2 := hr.d2; have hr1 := hr.r1; have hr2 := hr.r2; have hss := hr.s1; have hs2 := hr.s2
  have hs : AllB (superL d r s) := by rw [e]; exact (startL_small (by omega)).app ((digs_small _ _).app ((digs_small _ _).app ((digs_small _ _).app (Z_small _))))
  have hl : (superL d r s).length = 64 := by rw [e]; simp [startL, digs_len]
  have h1 : gs1 (superL d r s) = d := by
    rw [gs1, show getV (superL d r s).length (superL d r s) 4 1 = getN (superL d r s) 4 1 from getV_in (p := 4) (m := 1) (by omega) (by omega) (by omega), e]
    exact getN_app (startL 1) 1 d _ (by omega) (by omega)
  have h2 : gs2 (superL d r s) = r := by
    rw [gs2, show getV (superL d r s).length (superL d r s) 5 1 = getN (superL d r s) 5 1 from getV_in (p := 5) (m := 1) (by omega) (by omega) (by omega), e, app3]
    exact getN_app (startL 1 ++ digs 1 d) 1 r _ (by omega) (by omega)
  have h3 : gs3 (superL d r s) = s := by
    rw [gs3, show getV (superL d r s).length (superL d r s) 6 1 = getN (superL d r s) 6 1 from getV_in (p := 6) (m := 1) (by omega) (by omega) (by omega), e, app4]
    exact getN_app (startL 1 ++ digs 1 d ++ digs 1 r) 1 s _ (by omega) (by omega)
  have ho : gsO (superL d r s) = true := by rw [gsO, h1, h2, h3, h, sameB_true rfl]; rfl
  refine ⟨hs, hl, ho, by rw [gsV, ho, if_pos rfl, h1, h2, h3], ?_, ?_⟩
  · rw [gmO_iff hs, e, fld_kind (by decide)]
  · rw [gbO_iff hs, e, fld_kind (by decide)]; rfl
/-- A member's record. -/
structure MemOk (m s t : Int) : Prop where
  small : AllB (memL m s t)
  len : (memL m s t).length = 64
  o : gbO (memL m s t) = true
  v : gbV (memL m s t) = bv m s t
  nm : gmO (memL m s t) = false
  ns : gsO (memL m s t) = false
theorem mem_ok {m s t : Int} (h : memO m s t = true) : MemOk m s t := by
  have e := memL_yes h
  obtain ⟨w1, w2, w3, _⟩ := memO_bd h
  have hs : AllB (memL m s t) := by rw [e]; exact (startL_small (by omega)).app ((digs_small _ _).app ((digs_small _ _).app ((digs_small _ _).app (Z_small _))))
  have hl : (memL m s t).length = 64 := by rw [e]; simp [startL, digs_len]
  have h1 : gb1 (memL m s t) = m := by
    rw [gb1, show getV (memL m s t).length (memL m s t) 4 4 = getN (memL m s t) 4 4 from getV_in (p := 4) (m := 4) (by omega) (by omega) (by omega), e]
    exact getN_app (startL 3) 4 m _ (hasW_lt4 w1).1 (hasW_lt4 w1).2
  have h2 : gb2 (memL m s t) = s := by
    rw [gb2, show getV (memL m s t).length (memL m s t) 8 1 = getN (memL m s t) 8 1 from getV_in (p := 8) (m := 1) (by omega) (by omega) (by omega), e, app3]
    have := getN_app (startL 3 ++ digs 4 m) 1 s (digs 1 t ++ Z 54) (hasW_lt1 w2).1 (hasW_lt1 w2).2
    rwa [show (startL 3 ++ digs 4 m).length = 8 by simp [startL, digs_len]] at this
  have h3 : gb3 (memL m s t) = t := by
    rw [gb3, show getV (memL m s t).length (memL m s t) 9 1 = getN (memL m s t) 9 1 from getV_in (p := 9) (m := 1) (by omega) (by omega) (by omega), e, app4]
    have := getN_app (startL 3 ++ digs 4 m ++ digs 1 s) 1 t (Z 54) (hasW_lt1 w3).1 (hasW_lt1 w3).2
    rwa [show (startL 3 ++ digs 4 m ++ digs 1 s).length = 9 by simp [startL, digs_len]] at this
  have ho : gbO (memL m s t) = true := by rw [gbO, h1, h2, h3, h, sameB_true rfl]; rfl
  refine ⟨hs, hl, ho, by rw [gbV, ho, if_pos rfl, h1, h2, h3], ?_, ?_⟩
  · rw [gmO_iff hs, e, fld_kind (by decide)]
  · rw [gsO_iff hs, e, fld_kind (by decide)]; rfl

/-- What Put answers, where it can. -/
theorem PutPost.yes {w w' : World} {zs : List Int} {e : Ending} (h : PutPost w true zs e w') : ∃ g, e = .returned (.tuple #[.slice (some ⟨g, 0, none⟩) 64 64, .bool true]) ∧ w.heap.size ≤ g ∧ Blk w' g zs ∧ AllB zs ∧ zs.length = 64 ∧ Below w.heap.size w w' := by
  rcases h.1 with ⟨_, g, h1, h2, h3, h4, h5⟩ | ⟨h1, _⟩
  · exact ⟨g, h1, h2, h3, h4, h5, h.2⟩
  · cases h1
theorem PutPost.not {w w' : World} {zs : List Int} {e : Ending} (h : PutPost w false zs e w') : e = .returned (.tuple #[.slice none 0 0, .bool false]) ∧ zs = [] ∧ Below w.heap.size w w' := by
  rcases h.1 with ⟨h1, _⟩ | ⟨_, h1, h2⟩
  · cases h1
  · exact ⟨h2, h1, h.2⟩
/-- A Put as a piece. -/
theorem PutPost.t {w w' : World} {ok : Bool} {zs : List Int} {e : Ending} (h : PutPost w ok zs e w') : RetT w zs ok e w' := by
  cases ok
  · obtain ⟨h1, h2, h3⟩ := h.not
    exact ⟨_, _, _, h1, by rw [h2]; exact Pin.zero _, h3⟩
  · obtain ⟨g, h1, _, h3, h4, h5, h6⟩ := h.yes
    exact ⟨_, _, _, h1, h3.pin h4 h5 (Nat.le_refl _) (by omega), h6⟩

end Go.Proofs.Ytgdkcdgomopnfaa
