/-
  The parts of a file's blocks between two places; the small calls, by contract.
-/
import Derived.Test.YtegcjpocdfmpfaaZae
set_option linter.unusedVariables false
set_option linter.unusedSimpArgs false
set_option maxRecDepth 100000
set_option maxHeartbeats 16000000
namespace Go.Proofs.Ytegcjpocdfmpfaa
open Go.RowKit

/-- How far the parts ahead of part i reach. -/
def psN (at' en i : Nat) : Nat := if i = 0 then at' else Nat.min en ((at' / 56 + i) * 56)
theorem psN_zero (at' en : Nat) : psN at' en 0 = at' := if_pos rfl
theorem psN_succ (at' en i : Nat) : psN at' en (i + 1) = Nat.min en ((at' / 56 + (i + 1)) * 56) := if_neg (by omega)
/-- What part i is. -/
def ptK (at' i : Nat) : Nat := at' / 56 + i
def ptF (at' en i : Nat) : Nat := psN at' en i % 56
def ptT (at' en i : Nat) : Nat := ptF at' en i + (psN at' en (i + 1) - psN at' en i)
theorem min_le_l {a b c : Nat} (h : c = Nat.min a b) : c ≤ a ∧ c ≤ b ∧ (c = a ∨ c = b) := by
  rw [h]
  exact ⟨Nat.min_le_left _ _, Nat.min_le_right _ _, by rcases Nat.le_total a b with h | h; exact .inl (Nat.min_eq_left h); exact .inr (Nat.min_eq_right h)⟩
/-- Part i, where there is one. -/
theorem pt_ok {at' en i : Nat} (h : psN at' en i < en) :
    psN at' en i / 56 = ptK at' i ∧ ptF at' en i < ptT at' en i ∧ ptT at' en i ≤ 56 ∧ psN at' en i = ptK at' i * 56 + ptF at' en i ∧ psN at' en (i + 1) = ptK at' i * 56 + ptT at' en i ∧
      (ptT at' en i : Int) = min 56 ((ptF at' en i : Int) + (en : Int) - (psN at' en i : Int)) ∧ psN at' en (i + 1) ≤ en ∧ psN at' en i < psN at' en (i + 1) := by
  obtain ⟨m1, m2, m3⟩ := min_le_l (psN_succ at' en i)
  have hps : psN at' en i / 56 = at' / 56 + i := by
    cases i with
    | zero => rw [psN_zero]; rfl
    | succ i =>
      obtain ⟨n1, n2, n3⟩ := min_le_l (psN_succ at' en i)
      rcases n3 with e | e
      · omega
      · rw [e, Nat.mul_div_cancel _ (by omega : 0 < 56)]
  unfold ptT ptF ptK
  obtain ⟨x, hx⟩ : ∃ x, x = psN at' en i := ⟨_, rfl⟩
  obtain ⟨y, hy⟩ : ∃ y, y = psN at' en (i + 1) := ⟨_, rfl⟩
  rw [← hx] at h hps ⊢
  rw [← hy] at m1 m2 m3 ⊢
  have h1 := Nat.div_add_mod x 56
  have h2 := Nat.mod_lt x (show 0 < 56 by omega)
  have e3 : (at' / 56 + (i + 1)) * 56 = x / 56 * 56 + 56 := by rw [hps, ← Nat.add_assoc, Nat.add_mul, Nat.one_mul]
  rw [e3] at m2 m3
  rw [← hps]
  obtain ⟨d, hd⟩ : ∃ d, d = x / 56 := ⟨_, rfl⟩
  obtain ⟨r, hr⟩ : ∃ r, r = x % 56 := ⟨_, rfl⟩
  rw [← hd] at h1 m2 m3 ⊢
  rw [← hr] at h1 h2 ⊢
  refine ⟨rfl, ?_, ?_, ?_, ?_, ?_, m1, ?_⟩ <;> omega
/-- Parts in memory. -/
def ptC (k f t : Nat) : Array Value := #[.int .i64 (k : Int), .int .i64 (f : Int), .int .i64 (t : Int)]
abbrev ptV (k f t : Nat) : Value := .agg #[.int .i64 (k : Int), .int .i64 (f : Int), .int .i64 (t : Int)]
def ptL (K F T : Nat → Nat) (n : Nat) : List Value := (List.range n).flatMap fun i => (ptC (K i) (F i) (T i)).toList
theorem ptL_succ (K F T : Nat → Nat) (n : Nat) : ptL K F T (n + 1) = ptL K F T n ++ (ptC (K n) (F n) (T n)).toList := by
  unfold ptL
  rw [List.range_succ, List.flatMap_append]
  simp
theorem ptL_len (K F T : Nat → Nat) (n : Nat) : (ptL K F T n).length = n * 3 := by
  induction n with
  | zero => rfl
  | succ n ih => rw [ptL_succ, List.length_append, ih]; simp [ptC]; omega
theorem ptL_at (K F T : Nat → Nat) {n i j : Nat} (hi : i < n) (hj : j < 3) : (ptL K F T n)[i * 3 + j]? = (ptC (K i) (F i) (T i))[j]? := by
  induction n with
  | zero => omega
  | succ n ih =>
    rw [ptL_succ]
    by_cases h : i = n
    · subst h
      rw [List.getElem?_append_right (by rw [ptL_len]; omega), ptL_len, show i * 3 + j - i * 3 = j by omega, Array.getElem?_toList]
    · rw [List.getElem?_append_left (by rw [ptL_len]; omega)]
      exact ih (by omega)
/-- A slice of parts. -/
def Pts (w : World) (a : Option Addr) (n : Nat) (K F T : Nat → Nat) : Prop :=
  n = 0 ∨ ∃ b off, a = some ⟨b, off, none⟩ ∧ b < w.heap.size ∧ ∀ i, i < n → w.cell? ⟨b, off + i * 3, none⟩ = some (.int .i64 (K i : Int)) ∧ w.cell? ⟨b, off + i * 3 + 1, none⟩ = some (.int .i64 (F i : Int)) ∧ w.cell? ⟨b, off + i * 3 + 2, none⟩ = some (.int .i64 (T i : Int))
theorem Pts.next {w w' : World} {a : Option Addr} {n : Nat} {K F T : Nat → Nat} (h : Pts w a n K F T) (hb : Below w.heap.size w w') : Pts w' a n K F T := by
  rcases h with h | ⟨b, off, e, hlt, hc⟩
  · exact .inl h
  · exact .inr ⟨b, off, e, Nat.lt_of_lt_of_le hlt hb.size, fun i hi =>
      ⟨(hb.cell (p := ⟨b, _, none⟩) hlt).trans (hc i hi).1, (hb.cell (p := ⟨b, _, none⟩) hlt).trans (hc i hi).2.1, (hb.cell (p := ⟨b, _, none⟩) hlt).trans (hc i hi).2.2⟩⟩
theorem pts_own {w : World} {B : Nat} {v : Value} {n : Nat} {K F T : Nat → Nat} (h : w.ownsRow B 130 3 v n (ptL K F T n)) : ∃ a c, v = .slice a n c ∧ Pts w a n K F T ∧ n ≤ c := by
  rcases h.2 with ⟨rfl, h0⟩ | ⟨g, cap, cur, rfl, hb, hg, hnc, hm, hsz, htake⟩
  · subst h0
    exact ⟨none, 0, rfl, .inl rfl, Nat.le_refl _⟩
  · refine ⟨some ⟨g, 0, none⟩, cap, rfl, .inr ⟨g, 0, rfl, lt_of_block hg, fun i hi => ?_⟩, hnc⟩
    have c := fun (j : Nat) (hj : j < 3) => (h.cellAt (i * 3 + j) (by omega)).trans (ptL_at K F T hi hj)
    rw [Nat.zero_add]
    exact ⟨c 0 (by decide), c 1 (by decide), c 2 (by decide)⟩
theorem infoPt : (Try.prog.info? 130).map (fun i => (i.zero, i.size, i.bytes)) = some (some (ptV 0 0 0), 3, 24) := by kernel_rfl
/-- 'append(out, part)'. -/
theorem wpList_apT {w : World} {ops : Array Oper} {rest : List Oper} {o : Oper} {a : Act} {Q : Exit → Act → World → Prop} (hgd : o.guard = none) (s x : Operand)
    (ho : o.op = .call { callee := .builtin .append, args := #[s, x], argTypes := #[127, 127] })
    (B : Nat) (v : Value) (n : Nat) (K F T : Nat → Nat) (hs : a.eval s = v) (hown : w.ownsRow B 130 3 v n (ptL K F T n)) (g : Nat) (hx : a.eval x = .slice (some ⟨g, 0, none⟩) 1 1)
    {t : TypeId} (hg : w.heap[g]? = some (.cells (ptC (K n) (F n) (T n)) t (0, 0))) (hn : n + 1 ≤ 1000000) (hB : B ≤ w.heap.size) (w0 : World) (hb : Below B w0 w)
    (h : ∀ v' w', w'.ownsRow B 130 3 v' (n + 1) (ptL K F T (n + 1)) → Below B w0 w' → wpList Try.prog ops Q rest (a.put o.dst v') w') : wpList Try.prog ops Q (o :: rest) a w := by
  obtain ⟨i0, hi, hz0, hz1, hz2⟩ := info_parts infoPt
  obtain ⟨v', w', hr, h2, h3, _, h5⟩ := run_append_own_at (P := Try.prog) w B 127 o.type 130 i0 (ptV 0 0 0) 3 24 Try.underlying127 hi hz0 hz1 hz2 rfl (by decide) v n _ hown ⟨g, 0, none⟩ 1 1 (ptC (K n) (F n) (T n)).toList rfl
    (World.news_of_block hg) (fun u hu => by
      simp [ptC] at hu
      rcases hu with rfl | rfl | rfl <;> rfl) (by unfold maxLen; omega) (by omega) hB
  refine wpList_plain hgd fun K' hK => ?_
  unfold Oper.wp execOp
  simp only [ho, resolve, invoke, builtin, Sem.run_bind, Sem.run_pure, Result.andThen_ok, List.map_toArray, List.map_cons, List.map_nil, hs, hx, hr]
  exact hK _ _ (h v' w' (by rw [ptL_succ]; exact h2) (hb.grown h3 hB fun k hk => (World.ownsRow.lt hown k hk).1))
/-- What parts answers. -/
def PtsP (w : World) (at' en : Nat) (e : Ending) (w' : World) : Prop :=
  ∃ a n c, e = .returned (.slice a n c) ∧ Pts w' a n (ptK at') (ptF at' en) (ptT at' en) ∧ (∀ i, i < n → psN at' en i < en) ∧ ¬ psN at' en n < en ∧ n ≤ 829 ∧ Below w.heap.size w w'
theorem parts_some (at' en : Nat) (he : en ≤ 46368) (w : World) :
    Calls Try.prog 73 #[.int .i64 (at' : Int), .int .i64 (en : Int)] w (PtsP w at' en) := by
  have HE := Lib.hid he
  have HO := Lib.hid (show w.ownsRow w.heap.size 130 3 (.slice none 0 0) 0 (ptL (ptK at') (ptF at' en) (ptT at' en) 0) from ⟨rfl, .inl ⟨rfl, rfl⟩⟩)
  clear he
  go_enter Try.func73, Try.ntmps73
  go_wp2_with (fail)
  go_loopw [0, 5, 6, 7, 8] (fun v0 v5 _ _ _ wr => ∃ i : Nat, v0 = .int .i64 (psN at' en i : Int) ∧ wr.ownsRow w.heap.size 130 3 v5 i (ptL (ptK at') (ptF at' en) (ptT at' en) i) ∧ (∀ k, k < i → psN at' en k < en) ∧ Below w.heap.size w wr) (fun v0 _ _ _ _ _ => en - (RowKit.intOf v0).toNat)
  case atStart => exact ⟨0, by rw [psN_zero], HO.out, (fun k hk => by omega), Below.refl _ _⟩
  case round =>
    obtain ⟨i, rfl, ho, hal, hb⟩ := hrel
    have HO2 := Lib.hid ho
    have HAL := Lib.hid hal
    have HB := Lib.hid hb
    have hi829 : i ≤ 829 := by
      rcases Nat.eq_zero_or_pos i with h | h
      · omega
      · have h1 := hal (i - 1) (by omega)
        obtain ⟨h2, _, _, h3, _⟩ := pt_ok h1
        unfold ptK at h2 h3
        have := HE.out
        omega
    clear ho hal hb
    by_cases hlt : psN at' en i < en
    · obtain ⟨q1, q2, q3, q4, q5, q6, q7, q8⟩ := pt_ok hlt
      have HQ := Lib.hid (And.intro q4 q5)
      obtain ⟨x, hx⟩ : ∃ x, x = psN at' en i := ⟨_, rfl⟩
      obtain ⟨y, hy⟩ : ∃ y, y = psN at' en (i + 1) := ⟨_, rfl⟩
      obtain ⟨kk, hkk⟩ : ∃ kk, kk = ptK at' i := ⟨_, rfl⟩
      obtain ⟨ff, hff⟩ : ∃ ff, ff = ptF at' en i := ⟨_, rfl⟩
      obtain ⟨tt, htt⟩ : ∃ tt, tt = ptT at' en i := ⟨_, rfl⟩
      have hmod : x % 56 = ff := by rw [hx, hff]; rfl
      rw [← hx] at hlt q1 q4 q6 q8 ⊢
      rw [← hy] at q5 q7 q8
      rw [← hkk] at q1 q4 q5
      rw [← hff] at q2 q4 q6
      rw [← htt] at q2 q3 q5 q6
      have hE := HE.out
      have z1 : (x : Int).tdiv 56 = (kk : Int) := by rw [Int.tdiv_eq_ediv_of_nonneg (by omega)]; omega
      have z2 : (x : Int).tmod 56 = (ff : Int) := by rw [Int.tmod_eq_emod_of_nonneg (by omega)]; omega
      have z3 : (x : Int) < (en : Int) := by omega
      have z4 : IntKind.i64.wrap ((ff : Int) + (en : Int)) = (ff : Int) + (en : Int) := IntWalk.i64_in _ (by omega)
      have z5 : IntKind.i64.wrap ((ff : Int) + (en : Int) - (x : Int)) = (ff : Int) + (en : Int) - (x : Int) := IntWalk.i64_in _ (by omega)
      have z6 : min (56 : Int) ((ff : Int) + (en : Int) - (x : Int)) = (tt : Int) := q6.symm
      have z7 : IntKind.i64.wrap ((tt : Int) - (ff : Int)) = (tt : Int) - (ff : Int) := IntWalk.i64_in _ (by omega)
      have z8 : IntKind.i64.wrap ((x : Int) + ((tt : Int) - (ff : Int))) = (y : Int) := by rw [IntWalk.i64_in _ (by omega)]; omega
      have z9 : IntKind.i64.wrap (kk : Int) = (kk : Int) := IntWalk.i64_in _ (by omega)
      have HXY := Lib.hid (And.intro hx (And.intro hy (And.intro hkk (And.intro hff htt))))
      have HLT := Lib.hid (And.intro hlt q8)
      clear hx hy hkk hff htt q1 q2 q3 q4 q5 q6 q7 q8 hmod hlt hE
      go_wp2_with (at_builtin; go_must (first
        | (refine wpList_apT rfl (.tmp 22) (.tmp 27) rfl w.heap.size u5 i (ptK at') (ptF at' en) (ptT at' en) rfl (HO2.out.alloc _) wr.heap.size rfl (by rw [← HXY.out.2.2.1, ← HXY.out.2.2.2.1, ← HXY.out.2.2.2.2]; exact heap_alloc_new wr _) (by omega) (by have := HB.out.size; simp; omega) w (HB.out.alloc HB.out.size _) ?_; intro v1 w2 ho1 hb1; have HO3 := Lib.hid ho1; have HB3 := Lib.hid hb1; clear ho1 hb1)))
      go_roundw
      case rel =>
        refine ⟨i + 1, by rw [← HXY.out.2.1], HO3.out, fun k hk => ?_, HB3.out⟩
        by_cases e : k = i
        · rw [e, ← HXY.out.1]; exact HLT.out.1
        · exact HAL.out k (by omega)
      case measure =>
        have := HLT.out
        simp [RowKit.intOf]
        omega
    · have z3 : ¬ ((psN at' en i : Nat) : Int) < (en : Int) := by omega
      obtain ⟨a, c, rfl, hp, _⟩ := pts_own HO2.out
      have HP := Lib.hid hp
      have HL := Lib.hid hlt
      clear hp hlt
      go_wp2_with (fail)
      go_ret
      exact ⟨a, i, c, rfl, HP.out, HAL.out, HL.out, hi829, HB.out⟩

theorem fisSize_any (n : Int) (w : World) : Calls Try.prog 70 #[.int .i64 n] w fun e w' => e = .returned (.bool (decide (0 ≤ n) && decide (n ≤ 46368))) ∧ w = w' := by
  go_enter Try.func70, Try.ntmps70
  by_cases h1 : 0 ≤ n
  · by_cases h2 : n ≤ 46368
    · have d1 : decide (0 ≤ n) = true := decide_eq_true h1
      have d2 : decide (n ≤ 46368) = true := decide_eq_true h2
      rw [d1, d2]
      go_wp2
      go_ret
      exact ⟨rfl, rfl⟩
    · have d1 : decide (0 ≤ n) = true := decide_eq_true h1
      have d2 : decide (n ≤ 46368) = false := decide_eq_false h2
      rw [d1, d2]
      go_wp2
      go_ret
      exact ⟨rfl, rfl⟩
  · have d1 : decide (0 ≤ n) = false := decide_eq_false h1
    rw [d1]
    go_wp2
    go_ret
    exact ⟨rfl, rfl⟩
theorem iisSize_any (n : Nat) (hn : n ≤ 46368) (w : World) : Calls Try.prog 112 #[.int .i64 (n : Int)] w fun e w' => e = .returned (.bool true) ∧ w = w' := by
  have h1 : (0 : Int) ≤ (n : Int) := by omega
  have h2 : (n : Int) ≤ 46368 := by omega
  go_enter Try.func112, Try.ntmps112
  go_wp2
  go_ret
  exact ⟨rfl, rfl⟩
theorem iblocks_any (n : Nat) (hn : n ≤ 46368) (w : World) : Calls Try.prog 71 #[.int .i64 (n : Int)] w fun e w' => e = .returned (.int .i64 (((n + 55) / 56 : Nat) : Int)) ∧ w = w' := by
  have hc := iisSize_any n hn w
  have z1 : IntKind.i64.wrap ((n : Int) + 56) = (n : Int) + 56 := IntWalk.i64_in _ (by omega)
  have z2 : IntKind.i64.wrap ((n : Int) + 56 - 1) = (n : Int) + 56 - 1 := IntWalk.i64_in _ (by omega)
  have z3 : ((n : Int) + 56 - 1).tdiv 56 = (((n + 55) / 56 : Nat) : Int) := by rw [Int.tdiv_eq_ediv_of_nonneg (by omega)]; omega
  have z4 : IntKind.i64.wrap (((n + 55) / 56 : Nat) : Int) = (((n + 55) / 56 : Nat) : Int) := IntWalk.i64_in _ (by omega)
  go_enter Try.func71, Try.ntmps71
  go_wp2_with (fail)
  refine hc.mono ?_
  rintro e w2 ⟨rfl, rfl⟩
  go_wp2_with (fail)
  go_ret
  exact ⟨rfl, rfl⟩
section
variable {w w' : World} {b s p : Nat} {fr : Value} {T D : Nat → Prop} {A : Nat → Int} {X : Nat → List Int}
theorem fsize_any (h : FlAt w b s p fr T D A X) : Calls Try.prog 36 #[.pointer (some ⟨b, 0, none⟩)] w fun e w' => e = .returned (.int .i64 (s : Int)) ∧ w = w' := by
  obtain ⟨c0, c1, c2, l0, f0⟩ := h.cells
  clear h
  go_enter Try.func36, Try.ntmps36
  go_wp2
  go_ret
  exact ⟨rfl, rfl⟩
theorem fmap_any (h : FlAt w b s p fr T D A X) : Calls Try.prog 37 #[.pointer (some ⟨b, 0, none⟩)] w fun e w' => e = .returned (.pointer (some ⟨p, 0, none⟩)) ∧ w = w' := by
  obtain ⟨c0, c1, c2, l0, f0⟩ := h.cells
  clear h
  go_enter Try.func37, Try.ntmps37
  go_wp2
  go_ret
  exact ⟨rfl, rfl⟩
end
/-- What kept answers. -/
def KeP (w : World) (A : Nat → Int) (X : Nat → List Int) (k f t : Nat) (e : Ending) (w' : World) : Prop :=
  ∃ er z, e = .returned (.tuple #[payV z, .int .i64 er]) ∧ z.length = 56 ∧ AllB z ∧ (er = 0 ∨ er = 14) ∧ ((∀ k, A k = 0) → er = 0 ∧ z = if t - f = 56 then no56 else blkC X k) ∧ Below w.heap.size w w'
theorem fkept_any {w : World} {b s p : Nat} {fr : Value} {T D : Nat → Prop} {A : Nat → Int} {X : Nat → List Int} (h : FlAt w b s p fr T D A X) (hs : Src w fr A) (k f t : Nat) (hk : k < 828) (hft : f ≤ t) (ht : t ≤ 56) :
    Calls Try.prog 74 #[.pointer (some ⟨b, 0, none⟩), ptV k f t] w (KeP w A X k f t) := by
  have HF := Lib.hid h
  have HS := Lib.hid hs
  have HK := Lib.hid hk
  have z1 : IntKind.i64.wrap ((t : Int) - (f : Int)) = ((t - f : Nat) : Int) := by rw [IntWalk.i64_in _ (by omega)]; omega
  clear h hs hk
  obtain ⟨wa, hwa⟩ : ∃ wa, wa = w.alloc (.cells #[.int .i64 (k : Int), .int .i64 (f : Int), .int .i64 (t : Int)] 130 (0, 0)) := ⟨_, rfl⟩
  have hba : Below w.heap.size w wa := by rw [hwa]; exact (Below.refl _ _).alloc (Nat.le_refl _) _
  have hra : wa.heap[w.heap.size]? = some (.cells #[.int .i64 (k : Int), .int .i64 (f : Int), .int .i64 (t : Int)] 130 (0, 0)) := by rw [hwa]; exact heap_alloc_new w _
  have HBA := Lib.hid hba
  have HRA := Lib.hid hra
  have HWA := Lib.hid hwa
  have HZA := Lib.hid (lt_of_block hra)
  have HSZ := Lib.hid (show wa.heap.size = w.heap.size + 1 by rw [hwa]; simp)
  clear hwa hba hra
  go_enter Try.func74, Try.ntmps74
  go_upto_region 1 with (first | (refine wpList_alY (by rfl) rfl ?_; intro wb hwb hyb hbb; rw [← HWA.out] at hyb hbb; clear hwb) | fail)
  have HYB := Lib.hid hyb
  have HB := Lib.hid (HBA.out.trans (hbb.mono HBA.out.size))
  have HRB := Lib.hid ((hbb.block _ HZA.out).trans HRA.out)
  obtain ⟨b4, hb4⟩ : ∃ b, b = w.heap.size + 1 := ⟨_, rfl⟩
  have HN := Lib.hid (show w.heap.size < b4 by omega)
  rw [HSZ.out, ← hb4] at HYB
  rw [← hb4]
  clear hyb hbb hb4
  have c0 := cell_of_row wb w.heap.size 0 _ _ (0, 0) HRB.out
  have c1 := cell_of_row wb w.heap.size 1 _ _ (0, 0) HRB.out
  have c2 := cell_of_row wb w.heap.size 2 _ _ (0, 0) HRB.out
  simp only [List.getElem?_toArray, List.getElem?_cons_zero, List.getElem?_cons_succ] at c0 c1 c2
  by_cases h56 : t - f = 56
  · have d0 : (((t - f : Nat) : Int) == 56) = true := by simp; omega
    have HT := Lib.hid h56
    clear h56
    go_wp2_with (first
      | (refine wpList_buY (by rfl) rfl ?_)
      | (refine wpList_stY (by rfl) (.tmp 4) (.tmp 12) rfl b4 rfl no56 no56 rfl HYB.out no56_len no56_small ?_; intro w5 hy5 ht5)
      | fail)
    refine bodyPost_ret (v := .tuple #[payV no56, .int .i64 0]) ?_ rfl ?_
    · exact res_ct rfl _ _ ⟨b4, 0, none⟩ _ _ rfl rfl hy5.load
    · exact ⟨0, no56, rfl, no56_len, no56_small, .inl rfl, fun _ => ⟨rfl, by rw [if_pos HT.out]⟩, below_of_turn HB.out (by have := HN.out; omega) ht5⟩
  · have d0 : (((t - f : Nat) : Int) == 56) = false := by simp; omega
    have HT := Lib.hid h56
    clear h56
    go_wp2_with (fail)
    refine (fby_any (HF.out.next HB.out) (HS.out.next HB.out) k HK.out).mono ?_
    rintro e w5 ⟨er, z, rfl, hl, hsm, her, hns, hb⟩
    have HYC := Lib.hid (HYB.out.next hb)
    have HB5 := Lib.hid (HB.out.trans (hb.mono HB.out.size))
    have HZ := Lib.hid (And.intro hl (And.intro hsm (And.intro her hns)))
    clear hb hl hsm her hns c0 c1 c2
    go_wp2_with (first
      | (refine wpList_stY (by rfl) (.tmp 4) (.tmp 17) rfl b4 rfl no56 z rfl HYC.out HZ.out.1 HZ.out.2.1 ?_; intro w6 hy6 ht6)
      | fail)
    refine bodyPost_ret (v := .tuple #[payV z, .int .i64 er]) ?_ rfl ?_
    · exact res_ct rfl _ _ ⟨b4, 0, none⟩ _ _ rfl rfl hy6.load
    · exact ⟨er, z, rfl, HZ.out.1, HZ.out.2.1, HZ.out.2.2.1, fun h => by obtain ⟨h1, h2⟩ := HZ.out.2.2.2 h; exact ⟨h1, by rw [if_neg HT.out]; exact h2⟩, below_of_turn HB5.out (by have := HN.out; omega) ht6⟩
/-- A new file. -/
def NwP (w : World) (s : Int) (ks : List Int) (fr : Value) (e : Ending) (w' : World) : Prop :=
  Below w.heap.size w w' ∧ ((e = .returned (.tuple #[.pointer none, .int .i64 28]) ∧ ¬ (0 ≤ s ∧ s ≤ 46368 ∧ ks.length ≤ (s.toNat + 55) / 56 ∧ nwO ks = true)) ∨ (0 ≤ s ∧ s ≤ 46368 ∧ ks.length ≤ 828 ∧ ∃ b p T D, e = .returned (.tuple #[.pointer (some ⟨b, 0, none⟩), .int .i64 0]) ∧ FlAt w' b s.toNat p fr T D (num ks) (fun _ => []) ∧ w.heap.size ≤ b ∧ ∀ j, D j → w.heap.size ≤ j))
theorem fnew_any (s : Int) (a : Option Addr) (n c : Nat) (ks : List Int) (gS : Nat) (w : World) (hi : Ins w a n ks) (hnil : a = none → n = 0 ∧ c = 0) (hn : n ≤ 1000) :
    Calls Try.prog 31 #[.int .i64 s, .slice a n c, .iface 41 (.pointer (some ⟨gS, 0, none⟩))] w (NwP w s ks (.iface 41 (.pointer (some ⟨gS, 0, none⟩)))) := by
  have HI := Lib.hid hi
  have HNL := Lib.hid hnil
  have hc := fisSize_any s w
  clear hi hnil
  by_cases h1 : 0 ≤ s ∧ s ≤ 46368
  · rw [decide_eq_true h1.1, decide_eq_true h1.2] at hc
    obtain ⟨m, rfl⟩ := Int.eq_ofNat_of_zero_le h1.1
    have hm : m ≤ 46368 := by omega
    have HM := Lib.hid hm
    clear h1
    go_enter Try.func31, Try.ntmps31
    go_wp2_with (fail)
    refine hc.mono ?_
    rintro e w2 ⟨rfl, rfl⟩
    go_wp2_with (fail)
    refine (iblocks_any m hm w).mono ?_
    rintro e w2 ⟨rfl, rfl⟩
    obtain ⟨q, hq⟩ : ∃ q, q = (m + 55) / 56 := ⟨_, rfl⟩
    have HQ := Lib.hid hq
    rw [← hq]
    clear hq hc hm
    by_cases h2 : q < n
    · have z1 : (q : Int) < (n : Int) := by omega
      have HLT := Lib.hid h2
      go_wp2_with (fail)
      go_ret2
      exact ⟨Below.refl _ _, .inl ⟨rfl, fun h => (by have h3 := h.2.2.1; rw [Int.toNat_natCast] at h3; have := HI.out.len; have := HQ.out; have := HLT.out; omega)⟩⟩
    · have z1 : ¬ (q : Int) < (n : Int) := by omega
      have HN := Lib.hid h2
      clear h2
      go_wp2_with (fail)
      refine (pmp_ok.new a n c ks w HI.out HNL.out (by omega)).mono ?_
      rintro e w3 ⟨h1, h2, hb⟩
      have HB := Lib.hid hb
      cases hnw : nwO ks with
      | false =>
        obtain rfl := h2 hnw
        have HNW := Lib.hid hnw
        clear h1 h2 hb hnw
        go_wp2_with (fail)
        go_ret2
        exact ⟨HB.out, .inl ⟨rfl, fun h => by have := h.2.2.2; rw [HNW.out] at this; cases this⟩⟩
      | true =>
        obtain ⟨p, T, D, rfl, hP, hD⟩ := h1 hnw
        have HP := Lib.hid hP
        have HD := Lib.hid hD
        have HL := Lib.hid (show ks.length ≤ 828 by simp only [nwO, Bool.and_eq_true, decide_eq_true_eq] at hnw; exact hnw.1)
        clear h1 h2 hb hnw hP hD
        go_wp2_with (fail)
        go_ret2
        have hbx := (Below.refl w3.heap.size w3).alloc (Nat.le_refl _) (.cells #[.int .i64 (m : Int), .pointer (some ⟨p, 0, none⟩), .iface 41 (.pointer (some ⟨gS, 0, none⟩))] 125 (0, 0))
        refine ⟨HB.out.trans (hbx.mono HB.out.size), .inr ⟨by omega, by have := HM.out; omega, HL.out, w3.heap.size, p, T, D, rfl, by rw [show ((m : Int)).toNat = m from Int.toNat_natCast m]; exact ⟨heap_alloc_new w3 _, pmp_ok.next HP.out hbx, fun h => (by have := pmp_ok.lt HP.out _ h; omega), HM.out, fun k => .inl rfl⟩, HB.out.size, HD.out⟩⟩
  · have d : (decide (0 ≤ s) && decide (s ≤ 46368)) = false := by
      by_cases h : 0 ≤ s
      · rw [decide_eq_false (p := s ≤ 46368) (by omega), Bool.and_false]
      · rw [decide_eq_false h]; rfl
    rw [d] at hc
    have HBAD := Lib.hid h1
    clear h1 d
    go_enter Try.func31, Try.ntmps31
    go_wp2_with (fail)
    refine hc.mono ?_
    rintro e w2 ⟨rfl, rfl⟩
    go_wp2_with (fail)
    go_ret2
    exact ⟨Below.refl _ _, .inl ⟨rfl, fun h => HBAD.out ⟨h.1, h.2.1⟩⟩⟩

/-- A file's bytes from a place on. -/
def rdB (X : Nat → List Int) (at' n : Nat) : List Int := (List.range n).map fun i => byt (X ((at' + i) / 56)) ((at' + i) % 56)
theorem rdB_len (X : Nat → List Int) (at' n : Nat) : (rdB X at' n).length = n := by simp [rdB]
theorem rdB_byt (X : Nat → List Int) (at' : Nat) {n i : Nat} (h : i < n) : byt (rdB X at' n) i = byt (X ((at' + i) / 56)) ((at' + i) % 56) := by simp [rdB, byt, List.getD, List.getElem?_range h]
theorem ps_ge {at' en i : Nat} (h : ∀ k, k < i → psN at' en k < en) : at' ≤ psN at' en i := by
  induction i with
  | zero => rw [psN_zero]; exact Nat.le_refl _
  | succ i ih =>
    have h1 := ih fun k hk => h k (by omega)
    have h2 := pt_ok (h i (by omega))
    omega
theorem blkC_len {X : Nat → List Int} (hf : ∀ k, X k = [] ∨ ((X k).length = 56 ∧ AllB (X k))) (k : Nat) : (blkC X k).length = 56 := by
  unfold blkC
  split
  · rfl
  · rename_i h
    rcases hf k with h1 | h1
    · exact absurd h1 h
    · exact h1.1
theorem rd_app {X : Nat → List Int} (hf : ∀ k, X k = [] ∨ ((X k).length = 56 ∧ AllB (X k))) {at' en i : Nat} (h : ∀ k, k < i + 1 → psN at' en k < en) :
    rdB X at' (psN at' en i - at') ++ ((blkC X (ptK at' i)).drop (ptF at' en i)).take (ptT at' en i - ptF at' en i) = rdB X at' (psN at' en (i + 1) - at') := by
  have h0 : at' ≤ psN at' en i := ps_ge fun k hk => h k (by omega)
  obtain ⟨q1, q2, q3, q4, q5, q6, q7, q8⟩ := pt_ok (h i (by omega))
  have hl := blkC_len hf (ptK at' i)
  have hl2 : (((blkC X (ptK at' i)).drop (ptF at' en i)).take (ptT at' en i - ptF at' en i)).length = ptT at' en i - ptF at' en i := by rw [List.length_take, List.length_drop, hl]; omega
  refine byt_ext (by rw [List.length_append, rdB_len, hl2, rdB_len]; omega) fun j hj => ?_
  rw [List.length_append, rdB_len, hl2] at hj
  rw [rdB_byt X at' (by omega)]
  by_cases hlt : j < psN at' en i - at'
  · rw [byt_app_left (by rw [rdB_len]; exact hlt), rdB_byt X at' hlt]
  · obtain ⟨m, rfl⟩ : ∃ m, j = (rdB X at' (psN at' en i - at')).length + m := ⟨j - (psN at' en i - at'), by rw [rdB_len]; omega⟩
    rw [byt_app_right, byt_take (by rw [rdB_len] at hj; omega), byt_drop, blkC_byt, rdB_len]
    rw [rdB_len] at hj
    have e1 : (at' + (psN at' en i - at' + m)) = ptK at' i * 56 + (ptF at' en i + m) := by omega
    rw [e1, Nat.mul_comm, Nat.mul_add_div (by omega), Nat.mul_add_mod, Nat.div_eq_of_lt (by omega), Nat.mod_eq_of_lt (by omega), Nat.add_zero]
/-- What Read answers. -/
def RdP (w : World) (zs : List Int) (e : Ending) (w' : World) : Prop :=
  ∃ a n c, e = .returned (.tuple #[.slice a n c, .int .i64 0]) ∧ Pin w' a n c zs ∧ (∀ y, a = some y → w.heap.size ≤ y.block) ∧ Below w.heap.size w w'
theorem fread_any {w : World} {b s p : Nat} {fr : Value} {T D : Nat → Prop} {X : Nat → List Int} (h : FlAt w b s p fr T D (fun _ => 0) X) (at' n : Nat) (ha : at' ≤ 1000000000000) (hn : n ≤ 1000000000000) :
    Calls Try.prog 34 #[.pointer (some ⟨b, 0, none⟩), .int .i64 (at' : Int), .int .i64 (n : Int)] w (RdP w (rdB X at' (Nat.min n (s - at')))) := by
  have hsz := h.sz
  obtain ⟨en, hen⟩ : ∃ en : Nat, en = if at' ≤ s then at' + Nat.min n (s - at') else s := ⟨_, rfl⟩
  obtain ⟨m1, m2, m3⟩ := min_le_l (show Nat.min n (s - at') = Nat.min n (s - at') from rfl)
  have hes : en ≤ 46368 := by rw [hen]; split <;> omega
  have hcnt : Nat.min n (s - at') = en - at' := by rw [hen]; split <;> omega
  rw [hcnt]
  have z1 : IntKind.i64.wrap ((s : Int) - (at' : Int)) = (s : Int) - (at' : Int) := IntWalk.i64_in _ (by omega)
  have z2 : IntKind.i64.wrap ((at' : Int) + min (n : Int) ((s : Int) - (at' : Int))) = (en : Int) := by
    have : (at' : Int) + min (n : Int) ((s : Int) - (at' : Int)) = (en : Int) := by
      rw [hen]
      split
      · rcases m3 with e | e <;> omega
      · omega
    rw [this]
    exact IntWalk.i64_in _ (by omega)
  have y1 : ¬ (at' : Int) < 0 := by omega
  have y2 : ¬ (n : Int) < 0 := by omega
  have HF := Lib.hid h
  have HES := Lib.hid hes
  clear h m1 m2 m3 hcnt hsz hen hes
  obtain ⟨c0, c1, c2, l0, f0⟩ := HF.out.cells
  go_enter Try.func34, Try.ntmps34
  go_wp2_with (fail)
  refine (parts_some at' en HES.out w).mono ?_
  rintro e w2 ⟨pa, pn, pc, rfl, hpts, hall, hend, hp829, hb⟩
  have HP := Lib.hid hpts
  have HALL := Lib.hid hall
  have HEND := Lib.hid hend
  have HB := Lib.hid hb
  clear hpts hall hend hb c0 c1 c2 l0 f0 z1 z2 y1 y2
  have HO := Lib.hid (show Own w2 w2.heap.size (.slice none 0 0) 0 [] from ⟨⟨rfl, .inl ⟨rfl, rfl⟩⟩, fun z hz => by cases hz⟩)
  go_wp2_with (fail)
  go_loopw [9, 11, 12, 13, 34] (fun v9 _ _ _ v34 wr => ∃ i : Nat, i ≤ pn ∧ v34 = .int .i64 i ∧ Own wr w2.heap.size v9 (psN at' en i - at') (rdB X at' (psN at' en i - at')) ∧ Below w2.heap.size w2 wr) (fun _ _ _ _ v34 _ => pn - (RowKit.intOf v34).toNat)
  case atStart => exact ⟨0, by omega, rfl, by rw [psN_zero, Nat.sub_self]; exact HO.out, Below.refl _ _⟩
  case round =>
    obtain ⟨i, hi, rfl, ho, hb⟩ := hrel
    have HO2 := Lib.hid ho
    have HB2 := Lib.hid hb
    clear ho hb
    by_cases hlt : i < pn
    · have hpi := HALL.out i hlt
      obtain ⟨q1, q2, q3, q4, q5, q6, q7, q8⟩ := pt_ok hpi
      have hap := rd_app HF.out.fit (at' := at') (en := en) (i := i) fun k hk => HALL.out k (by omega)
      have hge := ps_ge (at' := at') (en := en) (i := i) fun k hk => HALL.out k (by omega)
      rcases HP.out.next HB2.out with h0 | ⟨pb, po, rfl, hpl, hpc⟩
      · omega
      obtain ⟨d0, d1, d2⟩ := hpc i hlt
      obtain ⟨kk, hkk⟩ : ∃ kk, kk = ptK at' i := ⟨_, rfl⟩
      obtain ⟨ff, hff⟩ : ∃ ff, ff = ptF at' en i := ⟨_, rfl⟩
      obtain ⟨tt, htt⟩ : ∃ tt, tt = ptT at' en i := ⟨_, rfl⟩
      obtain ⟨xx, hxx⟩ : ∃ xx, xx = psN at' en i := ⟨_, rfl⟩
      obtain ⟨yy, hyy⟩ : ∃ yy, yy = psN at' en (i + 1) := ⟨_, rfl⟩
      rw [← hkk] at q4 q5 d0 hap
      rw [← hff] at q2 q4 d1 hap
      rw [← htt] at q2 q3 q5 d2 hap
      rw [← hxx] at q4 q8 hap hge HO2 hpi
      rw [← hyy] at q5 q7 q8 hap
      have hE := HES.out
      have hk8 : kk < 828 := by omega
      have HK8 := Lib.hid hk8
      have HQ := Lib.hid (And.intro q2 (And.intro q3 (And.intro q4 (And.intro q5 (And.intro q8 hge)))))
      have HAP := Lib.hid hap
      have HYY := Lib.hid hyy
      have HX7 := Lib.hid q7
      have k0 : (0 : Int) ≤ (i : Int) := by omega
      have k1 : (i : Int) < (pn : Int) := by omega
      have hsl0 := fun (g : Nat) (w : World) => run_slY_lh g ff (tt - ff) (by omega) (by omega) w
      have e1 : ff + (tt - ff) = tt := by omega
      rw [e1] at hsl0
      obtain ⟨mm, hmm⟩ : ∃ mm, mm = tt - ff := ⟨_, rfl⟩
      rw [← hmm] at hsl0 hap
      have HMM := Lib.hid hmm
      clear hkk hff htt hxx hyy q1 q2 q3 q4 q5 q6 q7 q8 hap hge hpi hk8 hE e1 hmm hpc
      go_upto_region 8 with fail
      obtain ⟨w3, hw3⟩ : ∃ w3, w3 = wr.alloc (.cells #[.int .i64 (kk : Int), .int .i64 (ff : Int), .int .i64 (tt : Int)] 130) := ⟨_, rfl⟩
      have hb3 : Below wr.heap.size wr w3 := by rw [hw3]; exact (Below.refl _ _).alloc (Nat.le_refl _) _
      have hr3 : w3.heap[wr.heap.size]? = some (.cells #[.int .i64 (kk : Int), .int .i64 (ff : Int), .int .i64 (tt : Int)] 130 (0, 0)) := by rw [hw3]; exact heap_alloc_new wr _
      rw [← hw3]
      obtain ⟨bp, hbp⟩ : ∃ b, b = wr.heap.size := ⟨_, rfl⟩
      rw [← hbp] at hr3 ⊢
      have HR3 := Lib.hid hr3
      have HB3 := Lib.hid (HB2.out.trans (hb3.mono HB2.out.size))
      have HO3 := Lib.hid (HO2.out.below (Nat.le_refl _) hb3)
      clear hw3 hb3 hr3 hbp d0 d1 d2
      have c0 := cell_of_row w3 bp 0 _ _ (0, 0) HR3.out
      simp only [List.getElem?_toArray, List.getElem?_cons_zero, List.getElem?_cons_succ] at c0
      go_wp2_with (fail)
      have HB3w := Lib.hid (HB.out.trans (HB3.out.mono HB.out.size))
      refine (fby_any (HF.out.next HB3w.out) (.inl fun _ => rfl) kk HK8.out).mono ?_
      rintro e w4 ⟨er, z, rfl, hl, hsm, her, hns, hb⟩
      obtain ⟨rfl, rfl⟩ := hns fun _ => rfl
      have HB4 := Lib.hid (HB3.out.trans (hb.mono HB3.out.size))
      have HO4 := Lib.hid (HO3.out.below (Nat.le_refl _) hb)
      have HR4 := Lib.hid ((hb.block _ (lt_of_block HR3.out)).trans HR3.out)
      have HL := Lib.hid (And.intro hl hsm)
      obtain ⟨zz, hzz⟩ : ∃ zz, zz = blkC X kk := ⟨_, rfl⟩
      rw [← hzz] at HL HAP
      rw [← hzz]
      clear hb hl hsm her hns hzz c0
      go_upto_region 9 with (first
        | (refine wpList_alY (by rfl) rfl ?_; intro w5 hw5 hy5 hb5; clear hw5)
        | (refine wpList_stY (by rfl) (.tmp 12) (.tmp 43) rfl w4.heap.size rfl no56 zz rfl hy5 HL.out.1 HL.out.2 ?_; intro w6 hy6 ht6)
        | fail)
      have hb6 : Below w4.heap.size w4 w6 := below_of_turn hb5 (Nat.le_refl _) ht6
      have HY6 := Lib.hid hy6
      have HB6 := Lib.hid (HB4.out.trans (hb6.mono HB4.out.size))
      have HO6 := Lib.hid (HO4.out.below (Nat.le_refl _) hb6)
      have HR6 := Lib.hid ((hb6.block _ (lt_of_block HR4.out)).trans HR4.out)
      obtain ⟨bz, hbz⟩ : ∃ b, b = w4.heap.size := ⟨_, rfl⟩
      rw [← hbz] at HY6 ⊢
      clear hy5 hb5 hy6 ht6 hb6 hbz
      have hsl := hsl0 bz
      have c1 := cell_of_row w6 bp 1 _ _ (0, 0) HR6.out
      have c2 := cell_of_row w6 bp 2 _ _ (0, 0) HR6.out
      simp only [List.getElem?_toArray, List.getElem?_cons_zero, List.getElem?_cons_succ] at c1 c2
      have HPIN := Lib.hid (HY6.out.pin (o := ff) (m := mm) (by have := HQ.out; have := HMM.out; omega) (c := 56 - ff) (by have := HQ.out; have := HMM.out; omega) (by omega))
      clear hsl0
      go_wp2_with (at_builtin; go_must (refine wpList_ap rfl (.tmp 48) (.tmp 53) rfl w2.heap.size u9 (xx - at') (rdB X at' (xx - at')) rfl HO6.out (some ⟨bz, ff, none⟩) mm (56 - ff) ((zz.drop ff).take mm) rfl HPIN.out.bys (fun h => by cases h) (by have := HQ.out; have := HX7.out; have := HES.out; have := HMM.out; omega) HB6.out.size w2 HB6.out ?_; intro v7 w7 ho7 hb7; have HO7 := Lib.hid ho7; have HB7 := Lib.hid hb7; clear ho7 hb7))
      go_roundw
      case rel =>
        refine ⟨i + 1, by omega, by go_num, ?_, HB7.out⟩
        rw [← HYY.out, ← HAP.out]
        have e : xx - at' + mm = yy - at' := by have := HQ.out; have := HMM.out; omega
        rw [← e, ← HMM.out]
        exact HO7.out
      case measure => simp [RowKit.intOf]; omega
    · obtain rfl : i = pn := by omega
      obtain ⟨a, c, rfl, hp, hlo⟩ := HO2.out.pin
      have HPN := Lib.hid hp
      have HLO := Lib.hid hlo
      have hcn : psN at' en i - at' = en - at' := by
        have h1 := HEND.out
        rcases Nat.eq_zero_or_pos i with h | h
        · subst h
          rw [psN_zero] at h1 ⊢
          omega
        · have h2 := (pt_ok (HALL.out (i - 1) (by omega))).2.2.2.2.2.2.1
          rw [show i - 1 + 1 = i by omega] at h2
          omega
      have HCN := Lib.hid hcn
      clear hp hlo hcn
      go_wp2_with (fail)
      go_ret2
      refine ⟨a, _, c, rfl, by rw [← HCN.out]; exact HPN.out, fun y e => Nat.le_trans HB.out.size (HLO.out y e).1, HB.out.trans (HB2.out.mono HB.out.size)⟩

theorem elemB : Try.prog.elem 50 = 5 := by kernel_rfl
theorem undB : Try.prog.underlying 50 = some (.slice (Try.prog.elem 50)) := by rw [elemB]; exact Try.underlying50
theorem add_off (g o k : Nat) : (⟨g, o, none⟩ : Addr).add k = ⟨g, o + k, none⟩ := by unfold Addr.add; split <;> simp_all
theorem run_slB (g o n c k : Nat) (hk : k ≤ n) (w : World) : (Instr.sliceAt 50 (.slice (some ⟨g, o, none⟩) n c) (some (.int .i64 (k : Int))) none none).run Try.prog w = .ok (.slice (some ⟨g, if c = k then o else o + k, none⟩) (n - k) (c - k)) w := by
  rw [run_sliceAt_slice w 50 _ _ _ _ undB, run_slice_l (ht := undB) (kl := .i64) (l := (k : Int)) (h0 := by omega) (h1 := by omega), elemB, size_byte, Result.andThen_ok, Int.toNat_natCast]
  unfold sliced
  by_cases e : c = k
  · simp [e]
  · simp [e, add_off]
/-- Payloads of the call's own. -/
def pyL (M : Nat → List Int) (n : Nat) : List Value := (List.range n).flatMap fun i => (payC (M i)).toList
theorem pyL_succ (M : Nat → List Int) (n : Nat) : pyL M (n + 1) = pyL M n ++ (payC (M n)).toList := by
  unfold pyL
  rw [List.range_succ, List.flatMap_append]
  simp
theorem payC_list {zs : List Int} : (payC zs).toList = zs.map (Value.int .u8) := by simp [payC]
theorem pyL_len {M : Nat → List Int} {n : Nat} (h : ∀ i, i < n → (M i).length = 56) : (pyL M n).length = n * 56 := by
  induction n with
  | zero => rfl
  | succ n ih => rw [pyL_succ, List.length_append, ih fun i hi => h i (by omega), payC_list, List.length_map, h n (by omega)]; omega
theorem pyL_at {M : Nat → List Int} {n i j : Nat} (h : ∀ i, i < n → (M i).length = 56) (hi : i < n) (hj : j < 56) : (pyL M n)[i * 56 + j]? = some (.int .u8 (byt (M i) j)) := by
  induction n with
  | zero => omega
  | succ n ih =>
    have hl : (pyL M n).length = n * 56 := pyL_len fun i hi => h i (by omega)
    rw [pyL_succ]
    by_cases e : i = n
    · subst e
      rw [List.getElem?_append_right (by rw [hl]; omega), hl, show i * 56 + j - i * 56 = j by omega, payC_list, List.getElem?_map]
      have := h i (by omega)
      simp [byt, List.getD, show j < (M i).length by omega]
    · rw [List.getElem?_append_left (by rw [hl]; omega)]
      exact ih (fun i hi => h i (by omega)) (by omega)
theorem pyL_congr {M N : Nat → List Int} {n : Nat} (h : ∀ i, i < n → M i = N i) : pyL M n = pyL N n := by
  unfold pyL
  rw [List.flatMap_def, List.flatMap_def]
  congr 1
  exact List.map_congr_left fun i hi => by rw [h i (List.mem_range.1 hi)]
def upM (M : Nat → List Int) (i : Nat) (z : List Int) : Nat → List Int := fun j => if j = i then z else M j
theorem pyL_up (M : Nat → List Int) (n : Nat) (z : List Int) : pyL (upM M n z) (n + 1) = pyL M n ++ (payC z).toList := by
  have h1 : pyL (upM M n z) n = pyL M n := pyL_congr fun i hi => by rw [upM, if_neg (by omega)]
  have h2 : upM M n z n = z := by rw [upM, if_pos rfl]
  rw [pyL_succ, h1, h2]
/-- 'append(made, b)'. -/
theorem wpList_apY {w : World} {ops : Array Oper} {rest : List Oper} {o : Oper} {a : Act} {Q : Exit → Act → World → Prop} (hgd : o.guard = none) (s x : Operand)
    (ho : o.op = .call { callee := .builtin .append, args := #[s, x], argTypes := #[126, 126] })
    (B : Nat) (v : Value) (n : Nat) (M : Nat → List Int) (z : List Int) (hs : a.eval s = v) (hown : w.ownsRow B 132 56 v n (pyL M n)) (hM : ∀ i, i < n → (M i).length = 56) (hz : z.length = 56) (g : Nat) (hx : a.eval x = .slice (some ⟨g, 0, none⟩) 1 1)
    {t : TypeId} (hg : w.heap[g]? = some (.cells (payC z) t (0, 0))) (hn : n + 1 ≤ 1000000) (hB : B ≤ w.heap.size) (w0 : World) (hb : Below B w0 w)
    (h : ∀ v' w', w'.ownsRow B 132 56 v' (n + 1) (pyL (upM M n z) (n + 1)) → Below B w0 w' → wpList Try.prog ops Q rest (a.put o.dst v') w') : wpList Try.prog ops Q (o :: rest) a w := by
  obtain ⟨i0, hi, hz0, hz1, hz2⟩ := info_parts payInf
  obtain ⟨v', w', hr, h2, h3, _, h5⟩ := run_append_own_at (P := Try.prog) w B 126 o.type 132 i0 (payV no56) 56 56 Try.underlying126 hi hz0 hz1 hz2 (by rw [payC_cells]; exact payC_size no56_len) (by decide) v n _ hown ⟨g, 0, none⟩ 1 1 (payC z).toList (by rw [payC_list, List.length_map, hz])
    (World.news_of_block hg) (fun u hu => by
      rw [payC_list] at hu
      obtain ⟨y, _, rfl⟩ := List.mem_map.1 hu
      rfl) (by unfold maxLen; omega) (by omega) hB
  refine wpList_plain hgd fun K' hK => ?_
  unfold Oper.wp execOp
  simp only [ho, resolve, invoke, builtin, Sem.run_bind, Sem.run_pure, Result.andThen_ok, List.map_toArray, List.map_cons, List.map_nil, hs, hx, hr]
  exact hK _ _ (h v' w' (by rw [pyL_up]; exact h2) (hb.grown h3 hB fun k hk => (World.ownsRow.lt hown k hk).1))
/-- Payloads in memory. -/
def Pys (w : World) (a : Option Addr) (n : Nat) (M : Nat → List Int) : Prop :=
  n = 0 ∨ ∃ b off, a = some ⟨b, off, none⟩ ∧ b < w.heap.size ∧ ∀ i, i < n → ∀ j, j < 56 → w.cell? ⟨b, off + i * 56 + j, none⟩ = some (.int .u8 (byt (M i) j))
theorem pys_own {w : World} {B : Nat} {v : Value} {n : Nat} {M : Nat → List Int} (h : w.ownsRow B 132 56 v n (pyL M n)) (hM : ∀ i, i < n → (M i).length = 56) : ∃ a c, v = .slice a n c ∧ Pys w a n M ∧ n ≤ c ∧ ∀ y, a = some y → B ≤ y.block ∧ y.block < w.heap.size := by
  rcases h.2 with ⟨rfl, h0⟩ | ⟨g, cap, cur, rfl, hb, hg, hnc, hm, hsz, htake⟩
  · subst h0
    exact ⟨none, 0, rfl, .inl rfl, Nat.le_refl _, (fun y e => by cases e)⟩
  · refine ⟨some ⟨g, 0, none⟩, cap, rfl, .inr ⟨g, 0, rfl, lt_of_block hg, fun i hi j hj => ?_⟩, hnc, fun y e => by cases e; exact ⟨hb, lt_of_block hg⟩⟩
    have := (h.cellAt (i * 56 + j) (by omega)).trans (pyL_at hM hi hj)
    rw [Nat.zero_add]
    exact this
theorem Pys.turn {N : Nat → Prop} {w w' : World} {a : Option Addr} {n : Nat} {M : Nat → List Int} (h : Pys w a n M) (ht : Turn N w w') (hm : ∀ y, a = some y → ¬ N y.block) : Pys w' a n M := by
  rcases h with h | ⟨b, off, rfl, hlt, hc⟩
  · exact .inl h
  · exact .inr ⟨b, off, rfl, Nat.lt_of_lt_of_le hlt ht.size, fun i hi j hj => (ht.cell (a := ⟨b, off + i * 56 + j, none⟩) hlt (hm ⟨b, off, none⟩ rfl)).trans (hc i hi j hj)⟩
/-- A block that is written: its bytes. -/
def nbL (X : Nat → List Int) (at' : Nat) (zs : List Int) (k : Nat) : List Int := (List.range 56).map fun j => if at' ≤ 56 * k + j ∧ 56 * k + j < at' + zs.length then byt zs (56 * k + j - at') else byt (X k) j
theorem nbL_len (X : Nat → List Int) (at' : Nat) (zs : List Int) (k : Nat) : (nbL X at' zs k).length = 56 := by simp [nbL]
theorem nbL_byt (X : Nat → List Int) (at' : Nat) (zs : List Int) (k : Nat) {j : Nat} (hj : j < 56) : byt (nbL X at' zs k) j = if at' ≤ 56 * k + j ∧ 56 * k + j < at' + zs.length then byt zs (56 * k + j - at') else byt (X k) j := by simp [nbL, byt, List.getD, List.getElem?_range hj]
/-- What is made of a part is the block that is written. -/
theorem nb_part {X : Nat → List Int} {at' en i : Nat} {zs z : List Int} (hen : en = at' + zs.length) (h : ∀ k, k < i + 1 → psN at' en k < en) (hz : z = if ptT at' en i - ptF at' en i = 56 then no56 else blkC X (ptK at' i)) (hl : z.length = 56) :
    cpY z (ptF at' en i) (ptT at' en i - ptF at' en i) (zs.drop (psN at' en i - at')) = nbL X at' zs (ptK at' i) := by
  have hge : at' ≤ psN at' en i := ps_ge fun k hk => h k (by omega)
  obtain ⟨q1, q2, q3, q4, q5, q6, q7, q8⟩ := pt_ok (h i (by omega))
  have hf : 0 < i → ptF at' en i = 0 := by
    intro hi
    have h1 := (pt_ok (h (i - 1) (by omega)))
    rw [show i - 1 + 1 = i by omega] at h1
    obtain ⟨n1, n2, n3⟩ := min_le_l (psN_succ at' en (i - 1))
    rw [show i - 1 + 1 = i by omega] at n1 n2 n3
    have h2 := h i (by omega)
    rcases n3 with e | e
    · omega
    · have : psN at' en i % 56 = 0 := by rw [e]; exact Nat.mul_mod_left _ _
      exact this
  have ht : ptT at' en i < 56 → psN at' en (i + 1) = en := by
    intro h1
    obtain ⟨n1, n2, n3⟩ := min_le_l (psN_succ at' en i)
    rcases n3 with e | e
    · exact e
    · unfold ptK at q5
      omega
  have hdl : (zs.drop (psN at' en i - at')).length = en - psN at' en i := by rw [List.length_drop]; omega
  refine byt_ext (by rw [cpY_len hl (by omega) (by rw [hdl]; omega), nbL_len]) fun j hj => ?_
  rw [cpY_len hl (by omega) (by rw [hdl]; omega)] at hj
  rw [byt_cpY hl (by omega) (by rw [hdl]; omega), nbL_byt X at' zs _ hj]
  by_cases h1 : ptF at' en i ≤ j ∧ j < ptF at' en i + (ptT at' en i - ptF at' en i)
  · rw [if_pos h1, if_pos (by omega), byt_drop]
    congr 1
    omega
  · rw [if_neg h1]
    have h3 : ¬ (at' ≤ 56 * ptK at' i + j ∧ 56 * ptK at' i + j < at' + zs.length) := by
      rintro ⟨h4, h5⟩
      apply h1
      by_cases hi : 0 < i
      · have h6 := hf hi
        refine ⟨by omega, ?_⟩
        rcases Nat.lt_or_ge (ptT at' en i) 56 with h7 | h7
        · have := ht h7; omega
        · omega
      · obtain rfl : i = 0 := by omega
        rw [psN_zero] at q4
        refine ⟨by omega, ?_⟩
        rcases Nat.lt_or_ge (ptT at' en 0) 56 with h7 | h7
        · have := ht h7; omega
        · omega
    rw [if_neg h3, hz]
    by_cases h56 : ptT at' en i - ptF at' en i = 56
    · omega
    · rw [if_neg h56, blkC_byt]
end Go.Proofs.Ytegcjpocdfmpfaa
