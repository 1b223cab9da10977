/-
  Slices of slices of infos and of groups; what append makes of many of them; two facts on '&'.
-/
import Derived.Test.YtcpplppccljmiaaGq
import Derived.Test.YtcpplppccljmiaaOr0
namespace Go.Proofs.Ytcpplppccljmiaa
open Go.RowKit Go.Sort Go.Lib
set_option linter.unusedVariables false

theorem and_low (x : Int) (m : Nat) (hm : m < 256) : 0 ≤ bits .and .i64 x (m : Int) ∧ bits .and .i64 x (m : Int) ≤ m := by
  have h2 : (BitVec.ofInt 64 (m : Int)).toNat = m := by
    rw [BitVec.ofInt_natCast, BitVec.toNat_ofNat]; exact Nat.mod_eq_of_lt (by omega)
  have h : bits .and .i64 x (m : Int) = IntKind.i64.wrap ((BitVec.ofInt 64 x &&& BitVec.ofInt 64 (m : Int)).toNat : Int) := rfl
  have hle : (BitVec.ofInt 64 x).toNat &&& m ≤ m := Nat.and_le_right
  rw [h, BitVec.toNat_and, h2, IntKind.wrap_i64]
  omega
theorem and3 (x : Int) : ∃ k : Nat, k ≤ 3 ∧ bits .and .i64 x 3 = (k : Int) := by
  obtain ⟨a, b⟩ := and_low x 3 (by omega)
  obtain ⟨k, hk⟩ := Int.eq_ofNat_of_zero_le a
  exact ⟨k, by have : (k : Int) ≤ 3 := hk ▸ b; omega, hk⟩
theorem and1 (x : Int) : ∃ k : Nat, k ≤ 1 ∧ bits .and .i64 x 1 = (k : Int) := by
  obtain ⟨a, b⟩ := and_low x 1 (by omega)
  obtain ⟨k, hk⟩ := Int.eq_ofNat_of_zero_le a
  exact ⟨k, by have : (k : Int) ≤ 1 := hk ▸ b; omega, hk⟩

/-- 'append(s, x)' of one number, s of the call's own. -/
theorem wpList_apn {w : World} {ops : Array Oper} {rest : List Oper} {o : Oper} {a : Act} {Q : Exit → Act → World → Prop} (hgd : o.guard = none) (s x : Operand)
    (ho : o.op = .call { callee := .builtin .append, args := #[s, x], argTypes := #[36, 36] })
    (B : Nat) (v : Value) (n : Nat) (ks : List Int) (hs : a.eval s = v) (hown : OwnI w B v n ks) (g : Nat) (z : Int) (hx : a.eval x = .slice (some ⟨g, 0, none⟩) 1 1) (hg : w.cell? ⟨g, 0, none⟩ = some (.int .i64 z))
    (hn : n + 1 ≤ 1000000000000) (hB : B ≤ w.heap.size)
    (h : ∀ g' cap w', OwnI w' B (.slice (some ⟨g', 0, none⟩) (n + 1) cap) (n + 1) (ks ++ [z]) → w.grownBy w' v.ownBlock → (v.ownBlock = some g' ∨ g' = w.heap.size) → wpList Try.prog ops Q rest (a.put o.dst (.slice (some ⟨g', 0, none⟩) (n + 1) cap)) w') : wpList Try.prog ops Q (o :: rest) a w := by
  obtain ⟨i0, hi, hz0, hz1, hz2⟩ := info_parts info3
  refine wpList_append_lies (P := Try.prog) w hgd s x 36 ho B 3 i0 (.int .i64 0) 1 8 Try.underlying36 hi hz0 hz1 hz2 rfl (by decide) v n _ hs hown ⟨g, 0, none⟩ 1 1 [.int .i64 z] hx rfl ?_ ?_ (by decide) (by unfold maxLen; omega) (by omega) hB _ rfl ?_
  · intro j u hj
    cases j with
    | zero =>
      simp at hj
      subst hj
      exact hg
    | succ j => simp at hj
  · intro u hu
    rw [List.mem_singleton.1 hu]
    rfl
  · intro g' cap w' hown' hgrow hat hlt
    refine h g' cap w' ?_ hgrow hat
    unfold OwnI
    rw [List.map_append]
    exact hown'
theorem news_at {α : Type} [Inhabited α] {enc : α → List Value} {K : Nat} (hK : 0 < K) (hlen : ∀ x, (enc x).length = K) {w : World} {b off : Nat} {M : List α}
    (hc : ∀ (k j : Nat) (x : α) (v : Value), M[k]? = some x → (enc x)[j]? = some v → w.cell? ⟨b, off + k * K + j, none⟩ = some v) : ∀ j u, (M.flatMap enc)[j]? = some u → w.cell? ((⟨b, off, none⟩ : Addr).add j) = some u := by
  intro j u hj
  have hl : j < M.length * K := by
    rcases Nat.lt_or_ge j (M.length * K) with h1 | h1
    · exact h1
    · rw [List.getElem?_eq_none (by rw [fm_len hlen]; exact h1)] at hj; cases hj
  have hf := fm_get hK hlen M j hl
  rw [hf] at hj
  have hk : j / K < M.length := Nat.div_lt_of_lt_mul (by rw [Nat.mul_comm]; exact hl)
  have hm : j % K < K := Nat.mod_lt _ hK
  have hr := hc (j / K) (j % K) M[j / K] _ (List.getElem?_eq_getElem hk) (List.getElem?_eq_getElem (by rw [hlen]; exact hm))
  rw [getElem!_pos M (j / K) hk, getElem!_pos _ (j % K) (by rw [hlen]; exact hm)] at hj
  rw [← Option.some.inj hj, show (⟨b, off, none⟩ : Addr).add j = ⟨b, off + j / K * K + j % K, none⟩ by
    rw [Nat.add_assoc, Nat.div_add_mod']; unfold Addr.add; split <;> simp_all]
  exact hr
theorem fm_one {α : Type} {enc : α → List Value} (h : ∀ x, ∀ v ∈ enc x, v.oneCell' = true) (M : List α) : ∀ v ∈ M.flatMap enc, v.oneCell' = true := fun v hv => by
  obtain ⟨x, _, hx⟩ := List.mem_flatMap.1 hv
  exact h x v hx
/-- 'append(s, x...)' of infos, s of the call's own; what is below its blocks stays. -/
theorem wpList_apfs {w : World} {ops : Array Oper} {rest : List Oper} {o : Oper} {a : Act} {Q : Exit → Act → World → Prop} (hgd : o.guard = none) (s x : Operand)
    (ho : o.op = .call { callee := .builtin .append, args := #[s, x], argTypes := #[37, 37] })
    (B : Nat) (v : Value) (n : Nat) (L : List Inf) (hs : a.eval s = v) (hown : OwnF w B v n L) (b off m c : Nat) (M : List Inf) (hx : a.eval x = .slice (some ⟨b, off, none⟩) m c) (hy : Ifs w (some ⟨b, off, none⟩) m M)
    (hn : n + m ≤ 1000000000000) (hB : B ≤ w.heap.size) (w0 : World) (hb : Below B w0 w)
    (h : ∀ v' w', OwnF w' B v' (n + m) (L ++ M) → Below B w0 w' → wpList Try.prog ops Q rest (a.put o.dst v') w') : wpList Try.prog ops Q (o :: rest) a w := by
  obtain ⟨i0, hi, hz0, hz1, hz2⟩ := info_parts infoF
  refine wpList_append_own w hgd s x 37 ho B 39 i0 _ 6 48 Try.underlying37 hi hz0 hz1 hz2 rfl (by decide) v n _ hs hown ⟨b, off, none⟩ m c (M.flatMap ifc) hx (by rw [flat_len, hy.len]) ?_ (fm_one ifc_one M) (by unfold maxLen; omega) (by omega) hB ?_
  · rcases hy.place with h0 | ⟨b', off', e, _, hc⟩
    · intro j u hj
      have : M = [] := List.eq_nil_of_length_eq_zero (by rw [hy.len, h0])
      rw [this] at hj
      simp at hj
    · cases e
      exact news_at (by decide) ifc_len hc
  · intro v' w' hown' hgrow _
    refine h v' w' ?_ (hb.grown hgrow hB fun k hk => (hown.lt k hk).1)
    unfold OwnF
    rw [List.flatMap_append]
    exact hown'
def RowG (w : World) (B : Nat) (v : Value) (n : Nat) (F : List Gc) : Prop := w.ownsRow B 46 3 v n (F.flatMap gcc)
theorem wpList_apgs {w : World} {ops : Array Oper} {rest : List Oper} {o : Oper} {a : Act} {Q : Exit → Act → World → Prop} (hgd : o.guard = none) (s x : Operand)
    (ho : o.op = .call { callee := .builtin .append, args := #[s, x], argTypes := #[40, 40] })
    (B : Nat) (v : Value) (n : Nat) (L : List Gc) (hs : a.eval s = v) (hown : RowG w B v n L) (b off m c : Nat) (M : List Gc) (hx : a.eval x = .slice (some ⟨b, off, none⟩) m c) (hy : Grs w (some ⟨b, off, none⟩) m M)
    (hn : n + m ≤ 1000000000000) (hB : B ≤ w.heap.size) (w0 : World) (hb : Below B w0 w)
    (h : ∀ v' w', RowG w' B v' (n + m) (L ++ M) → Below B w0 w' → wpList Try.prog ops Q rest (a.put o.dst v') w') : wpList Try.prog ops Q (o :: rest) a w := by
  obtain ⟨i0, hi, hz0, hz1, hz2⟩ := info_parts infoGr
  refine wpList_append_own w hgd s x 40 ho B 46 i0 _ 3 40 Try.underlying40 hi hz0 hz1 hz2 rfl (by decide) v n _ hs hown ⟨b, off, none⟩ m c (M.flatMap gcc) hx (by rw [fm_len gcc_len, hy.len]) ?_ (fm_one gcc_one M) (by unfold maxLen; omega) (by omega) hB ?_
  · rcases hy.place with h0 | ⟨b', off', e, _, hc⟩
    · intro j u hj
      have : M = [] := List.eq_nil_of_length_eq_zero (by rw [hy.len, h0])
      rw [this] at hj
      simp at hj
    · cases e
      exact news_at (by decide) gcc_len hc
  · intro v' w' hown' hgrow _
    refine h v' w' ?_ (hb.grown hgrow hB fun k hk => (hown.lt k hk).1)
    unfold RowG
    rw [List.flatMap_append]
    exact hown'
theorem RowG.grs {w : World} {B : Nat} {v : Value} {n : Nat} {F : List Gc} (h : RowG w B v n F) (hF : F.length = n) (he : ∀ x ∈ F, Ins w x.a x.n x.s) : ∃ a c, v = .slice a n c ∧ Grs w a n F := by
  rcases h.2 with ⟨rfl, rfl⟩ | ⟨g, cap, cur, rfl, hb, hg, hnc, hm, hsz, htake⟩
  · exact ⟨none, 0, rfl, ⟨hF, .inl rfl, he⟩⟩
  · refine ⟨some ⟨g, 0, none⟩, cap, rfl, ⟨hF, .inr ⟨g, 0, rfl, lt_of_block hg, fun k j x v hk hj => ?_⟩, he⟩⟩
    have hkl : k < F.length := by
      rcases Nat.lt_or_ge k F.length with h1 | h1
      · exact h1
      · rw [List.getElem?_eq_none h1] at hk; cases hk
    have hjl : j < 3 := by
      rcases Nat.lt_or_ge j (gcc x).length with h1 | h1
      · exact h1
      · rw [List.getElem?_eq_none h1] at hj; cases hj
    have hf := fm_get (enc := gcc) (k := 3) (by decide) gcc_len F (k * 3 + j) (by omega)
    rw [show (k * 3 + j) / 3 = k by omega, show (k * 3 + j) % 3 = j by omega, getElem!_pos F k hkl] at hf
    rw [List.getElem?_eq_getElem hkl] at hk
    cases hk
    rw [getElem!_pos _ j (by rw [gcc_len]; exact hjl)] at hf
    rw [List.getElem?_eq_getElem (by rw [gcc_len]; exact hjl)] at hj
    cases hj
    have hc := World.ownsRow.cells h (g := g) rfl (k * 3 + j) _ hf
    have e : (⟨g, 0, none⟩ : Addr).add (k * 3 + j) = ⟨g, 0 + k * 3 + j, none⟩ := by
      unfold Addr.add
      split
      · simp
      · simp_all
    rw [← e]
    exact hc
theorem Ifs.take {w : World} {a : Option Addr} {n k : Nat} {L : List Inf} (h : Ifs w a n L) (hk : k ≤ n) : Ifs w a k (L.take k) := by
  refine ⟨by rw [List.length_take, h.len]; omega, ?_⟩
  rcases h.place with h0 | ⟨b, off, e, hlt, hc⟩
  · exact .inl (by omega)
  · refine .inr ⟨b, off, e, hlt, fun i j x v hi hj => hc i j x v ?_ hj⟩
    rw [List.getElem?_take] at hi
    split at hi
    · exact hi
    · cases hi
theorem Ifs.drop {w : World} {b off n k : Nat} {L : List Inf} (h : Ifs w (some ⟨b, off, none⟩) n L) (hk : k ≤ n) : Ifs w (some ⟨b, off + k * 6, none⟩) (n - k) (L.drop k) := by
  refine ⟨by rw [List.length_drop, h.len], ?_⟩
  rcases h.place with h0 | ⟨b', off', e, hlt, hc⟩
  · exact .inl (by omega)
  · cases e
    refine .inr ⟨b, off + k * 6, rfl, hlt, fun i j x v hi hj => ?_⟩
    have := hc (k + i) j x v (by rw [← List.getElem?_drop]; exact hi) hj
    rw [show off + k * 6 + i * 6 + j = off + (k + i) * 6 + j by omega]
    exact this
theorem Grs.take {w : World} {a : Option Addr} {n k : Nat} {L : List Gc} (h : Grs w a n L) (hk : k ≤ n) : Grs w a k (L.take k) := by
  refine ⟨by rw [List.length_take, h.len]; omega, ?_, fun x hx => h.each x (List.mem_of_mem_take hx)⟩
  rcases h.place with h0 | ⟨b, off, e, hlt, hc⟩
  · exact .inl (by omega)
  · refine .inr ⟨b, off, e, hlt, fun i j x v hi hj => hc i j x v ?_ hj⟩
    rw [List.getElem?_take] at hi
    split at hi
    · exact hi
    · cases hi
theorem Grs.drop {w : World} {b off n k : Nat} {L : List Gc} (h : Grs w (some ⟨b, off, none⟩) n L) (hk : k ≤ n) : Grs w (some ⟨b, off + k * 3, none⟩) (n - k) (L.drop k) := by
  refine ⟨by rw [List.length_drop, h.len], ?_, fun x hx => h.each x (List.mem_of_mem_drop hx)⟩
  rcases h.place with h0 | ⟨b', off', e, hlt, hc⟩
  · exact .inl (by omega)
  · cases e
    refine .inr ⟨b, off + k * 3, rfl, hlt, fun i j x v hi hj => ?_⟩
    have := hc (k + i) j x v (by rw [← List.getElem?_drop]; exact hi) hj
    rw [show off + k * 3 + i * 3 + j = off + (k + i) * 3 + j by omega]
    exact this
end Go.Proofs.Ytcpplppccljmiaa
