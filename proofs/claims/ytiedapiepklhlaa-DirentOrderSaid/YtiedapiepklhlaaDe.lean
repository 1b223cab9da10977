/-
  Decoding, plainly: what bytes tell which entries; it undoes what encoding does, and the other way.
-/
import Derived.Test.YtiedapiepklhlaaRe
import Derived.Laws.BytesArg
namespace Go.Proofs.Ytiedapiepklhlaa
open Go.RowKit
set_option linter.unusedVariables false
set_option linter.unusedSimpArgs false

/-- How many bytes the first entry's name has. -/
def fLen (zs : List Int) : Nat := (byt zs 2).toNat
/-- Are all of the first entry's bytes there? -/
def fOk (zs : List Int) : Bool := decide (3 ≤ zs.length) && decide (fLen zs ≤ zs.length - 3)
/-- The first entry. -/
def fEn (zs : List Int) : En := ⟨strOfNums ((zs.drop 3).take (fLen zs)), byt zs 0 + 256 * byt zs 1⟩
/-- How many bytes it has. -/
def fSz (zs : List Int) : Nat := 3 + fLen zs
/-- The entries of bytes, right or not. -/
def decs (zs : List Int) : Option (List En) :=
  if h : zs.length = 0 then some [] else if fOk zs then (decs (zs.drop (fSz zs))).map (fEn zs :: ·) else none
termination_by zs.length
decreasing_by
  rw [List.length_drop]
  unfold fSz
  omega
theorem decs_nil : decs [] = some [] := by rw [decs]; simp
theorem decs_bad {zs : List Int} (h : zs.length ≠ 0) (k : fOk zs = false) : decs zs = none := by rw [decs, dif_neg h, k]; rfl
theorem decs_step {zs : List Int} (h : zs.length ≠ 0) (k : fOk zs = true) : decs zs = (decs (zs.drop (fSz zs))).map (fEn zs :: ·) := by rw [decs, dif_neg h, k]; rfl
/-- What Decode answers. -/
def decO (zs : List Int) : Option (List En) := (decs zs).bind fun L => if rgt L then some L else none
/-- What is told of the bytes when L are decoded and zs are left. -/
def Dcd (z0 : List Int) (L : List En) (zs : List Int) : Prop := decs z0 = (decs zs).map (L ++ ·)
theorem Dcd.start (z : List Int) : Dcd z [] z := by unfold Dcd; simp
theorem Dcd.step {z0 zs : List Int} {L : List En} (h : Dcd z0 L zs) (hn : zs.length ≠ 0) (k : fOk zs = true) : Dcd z0 (L ++ [fEn zs]) (zs.drop (fSz zs)) := by
  unfold Dcd at *
  rw [h, decs_step hn k, Option.map_map]
  congr 1
  funext M
  simp
theorem Dcd.done {z0 : List Int} {L : List En} (h : Dcd z0 L []) : decO z0 = if rgt L then some L else none := by
  unfold Dcd at h
  rw [decs_nil] at h
  unfold decO
  rw [h]
  simp
theorem Dcd.bad {z0 zs : List Int} {L : List En} (h : Dcd z0 L zs) (hn : zs.length ≠ 0) (k : fOk zs = false) : decO z0 = none := by
  unfold Dcd at h
  rw [decs_bad hn k] at h
  unfold decO
  rw [h]
  rfl
theorem Dcd.many {z0 zs : List Int} {L : List En} (h : Dcd z0 L zs) (hn : zs.length ≠ 0) (k : fOk zs = true) (hl : 64 ≤ L.length) : decO z0 = none := by
  unfold Dcd at h
  rw [decs_step hn k] at h
  unfold decO
  rw [h]
  cases decs (zs.drop (fSz zs)) with
  | none => rfl
  | some M =>
    simp only [Option.map_some, Option.bind_some]
    rw [rgt_long (by simp; omega)]
    rfl
theorem Dcd.long {z0 zs : List Int} {L : List En} (h : Dcd z0 L zs) (hl : 64 < L.length) : decO z0 = none := by
  unfold Dcd at h
  unfold decO
  rw [h]
  cases decs zs with
  | none => rfl
  | some M =>
    simp only [Option.map_some, Option.bind_some]
    rw [rgt_long (by simp; omega)]
    rfl
theorem str_bI (s : ByteArray) : strOfNums (bI s.data.toList) = s := by
  unfold strOfNums bI
  rw [List.map_map]
  have e : (s.data.toList.map ((fun n : Int => UInt8.ofNat n.toNat) ∘ fun b => ((b.toNat : Nat) : Int))) = s.data.toList := by
    conv => rhs; rw [← List.map_id s.data.toList]
    exact List.map_congr_left fun b _ => by simp
  rw [e]
theorem bI_str {zs : List Int} (h : AllB zs) : bI (strOfNums zs).data.toList = zs := by
  rw [strOfNums_data]
  unfold bI
  rw [List.map_map]
  conv => rhs; rw [← List.map_id zs]
  refine List.map_congr_left fun z hz => ?_
  have := h z hz
  simp
  try omega
theorem enc_first {e : En} (r : List Int) (h : okE e = true) : fOk (encE e ++ r) = true ∧ fEn (encE e ++ r) = e ∧ (encE e ++ r).drop (fSz (encE e ++ r)) = r ∧ (encE e ++ r).length ≠ 0 := by
  obtain ⟨_, h1, h2, h3, h4⟩ := okE_all h
  have hb : (bI e.s.data.toList).length = e.s.size := by rw [bI_len, ← Lib.size_eq]
  have b0 : byt (encE e ++ r) 0 = e.i := rfl
  have b1 : byt (encE e ++ r) 1 = 0 := rfl
  have b2 : byt (encE e ++ r) 2 = (e.s.size : Int) := rfl
  have hf : fLen (encE e ++ r) = e.s.size := by unfold fLen; rw [b2]; simp
  have hl : (encE e ++ r).length = 3 + e.s.size + r.length := by rw [List.length_append, encE_len]
  have hd : (encE e ++ r).drop 3 = bI e.s.data.toList ++ r := rfl
  refine ⟨?_, ?_, ?_, by omega⟩
  · unfold fOk
    rw [hf, hl, decide_eq_true (by omega), decide_eq_true (by omega)]; rfl
  · refine En.ext' ?_ ?_
    · show strOfNums (((encE e ++ r).drop 3).take (fLen (encE e ++ r))) = e.s
      rw [hf, hd, List.take_left' hb, str_bI]
    · show byt (encE e ++ r) 0 + 256 * byt (encE e ++ r) 1 = e.i
      rw [b0, b1]; omega
  · unfold fSz
    rw [hf, ← List.drop_drop, hd, List.drop_left' hb]
theorem dec_enc : ∀ {L : List En}, L.all okE = true → decs (encL L) = some L
  | [], _ => decs_nil
  | x :: L, h => by
    rw [List.all_cons, Bool.and_eq_true] at h
    obtain ⟨h1, h2, h3, h4⟩ := enc_first (encL L) h.1
    show decs (encE x ++ encL L) = _
    rw [decs_step h4 h1, h3, dec_enc h.2, h2]
    rfl
theorem decO_enc {L : List En} (h : rgt L = true) : decO (encL L) = some L := by
  obtain ⟨_, h2, _⟩ := rgt_all h
  unfold decO
  rw [dec_enc h2, Option.bind_some, if_pos h]
theorem first_enc {zs : List Int} (hb : AllB zs) (k : fOk zs = true) (h : okE (fEn zs) = true) : zs = encE (fEn zs) ++ zs.drop (fSz zs) := by
  unfold fOk at k
  rw [Bool.and_eq_true, decide_eq_true_eq, decide_eq_true_eq] at k
  obtain ⟨_, h1, h2, _, _⟩ := okE_all h
  match zs, k with
  | [], k => simp at k
  | [_], k => simp at k
  | [_, _], k => simp at k
  | a :: b :: c :: r, k =>
    have ha := hb a (by simp)
    have hbb := hb b (by simp)
    have hc := hb c (by simp)
    have e0 : byt (a :: b :: c :: r) 0 = a := rfl
    have e1 : byt (a :: b :: c :: r) 1 = b := rfl
    have hf : fLen (a :: b :: c :: r) = c.toNat := rfl
    have hi : (fEn (a :: b :: c :: r)).i = a + 256 * b := rfl
    rw [hi] at h1 h2
    have hb0 : b = 0 := by omega
    subst hb0
    have hr : AllB r := fun z hz => hb z (by simp [hz])
    have hk2 : c.toNat ≤ r.length := by have := k.2; rw [hf] at this; simpa using this
    have hs : (fEn (a :: 0 :: c :: r)).s = strOfNums (r.take c.toNat) := rfl
    have hsz : (fEn (a :: 0 :: c :: r)).s.size = c.toNat := by rw [hs, strOfNums_size, List.length_take]; omega
    have hen : encE (fEn (a :: 0 :: c :: r)) = [a, 0, c] ++ r.take c.toNat := by
      unfold encE
      rw [hsz, hi, hs, bI_str (hr.take _)]
      congr 2
      · omega
      · congr 1
        congr 1
        omega
    have hd : (a :: 0 :: c :: r).drop (fSz (a :: 0 :: c :: r)) = r.drop c.toNat := by
      unfold fSz
      rw [hf, ← List.drop_drop]
      rfl
    rw [hen, hd, List.append_assoc, List.take_append_drop]
    rfl
theorem enc_dec : ∀ (n : Nat) {zs : List Int} {L : List En}, zs.length ≤ n → AllB zs → decs zs = some L → L.all okE = true → encL L = zs
  | 0, zs, L, hn, hb, h, k => by
    obtain rfl : zs = [] := List.length_eq_zero_iff.1 (by omega)
    rw [decs_nil] at h
    cases h
    rfl
  | n + 1, zs, L, hn, hb, h, k => by
    by_cases h0 : zs.length = 0
    · obtain rfl : zs = [] := List.length_eq_zero_iff.1 h0
      rw [decs_nil] at h
      cases h
      rfl
    cases hk : fOk zs with
    | false => rw [decs_bad h0 hk] at h; cases h
    | true =>
      rw [decs_step h0 hk] at h
      cases hd : decs (zs.drop (fSz zs)) with
      | none => rw [hd] at h; cases h
      | some M =>
        rw [hd] at h
        cases h
        rw [List.all_cons, Bool.and_eq_true] at k
        have hf := first_enc hb hk k.1
        have ih := enc_dec n (zs := zs.drop (fSz zs)) (L := M) (by rw [List.length_drop]; unfold fSz; omega) (hb.drop _) hd k.2
        show encE (fEn zs) ++ encL M = zs
        rw [ih]
        exact hf.symm
theorem encO_dec {zs : List Int} {L : List En} (hb : AllB zs) (h : decO zs = some L) : rgt L = true ∧ encL L = zs := by
  unfold decO at h
  cases hd : decs zs with
  | none => rw [hd] at h; cases h
  | some M =>
    rw [hd, Option.bind_some] at h
    cases hr : rgt M with
    | false => rw [hr] at h; cases h
    | true =>
      rw [hr] at h
      cases h
      exact ⟨hr, enc_dec _ (Nat.le_refl _) hb hd (rgt_all hr).2.1⟩
end Go.Proofs.Ytiedapiepklhlaa
