/-
  Rows of groups of the call's own; how they are sorted; what they are when all is done.
-/
import Derived.Test.YtcpplppccljmiaaSo
import Derived.Test.YtcpplppccljmiaaGrp
import Derived.Test.YtcpplppccljmiaaBk
namespace Go.Proofs.Ytcpplppccljmiaa
open Go.RowKit Go.Sort Go.Lib
set_option linter.unusedVariables false

/-- A group in a row: its numbers, its segments' slice and what that holds. -/
structure Gc where
  q : Int
  r : Int
  a : Option Addr
  n : Nat
  c : Nat
  s : List Int
instance : Inhabited Gc := ⟨⟨0, 0, none, 0, 0, []⟩⟩
def gcc (x : Gc) : List Value := [.int .i64 x.q, .int .i64 x.r, .slice x.a x.n x.c]
def Gc.gr (x : Gc) : Gr := ⟨x.q, x.r, x.s⟩
theorem gcc_len (x : Gc) : (gcc x).length = 3 := rfl
theorem gcc_one (x : Gc) : ∀ v ∈ gcc x, v.oneCell' = true := by
  intro v hv
  simp only [gcc, List.mem_cons, List.not_mem_nil, or_false] at hv
  rcases hv with rfl | rfl | rfl <;> rfl
/-- A row of groups of the call's own. -/
structure OwnG (w : World) (B : Nat) (v : Value) (n : Nat) (F : List Gc) : Prop where
  row : w.ownsRow B 46 3 v n (F.flatMap gcc)
  each : ∀ x ∈ F, OwnI w B (.slice x.a x.n x.c) x.n x.s
  apart : ∀ x ∈ F, ∀ g, (Value.slice x.a x.n x.c).ownBlock = some g → v.ownBlock ≠ some g
theorem OwnG.kept {w w' : World} {B : Nat} {v : Value} {n : Nat} {F : List Gc} {row : Option Nat} (h : OwnG w B v n F) (hg : w.grownBy w' row) (hr : ∀ g, row = some g → g < B) : OwnG w' B v n F := by
  refine ⟨h.row.kept hg ?_, fun x hx => World.ownsRow.kept (h.each x hx) hg ?_, h.apart⟩
  · cases hv : v.ownBlock with
    | none => exact .inl rfl
    | some g =>
      refine .inr fun e => ?_
      have := hr g e.symm
      have := (h.row.lt g hv).1
      omega
  · cases hv : (Value.slice x.a x.n x.c).ownBlock with
    | none => exact .inl rfl
    | some g =>
      refine .inr fun e => ?_
      have := hr g e.symm
      have := ((h.each x hx).lt g hv).1
      omega
theorem ownG_nil (w : World) (B : Nat) : OwnG w B (.slice none 0 0) 0 [] := ⟨World.ownsRow_nil _ _ _ _, (fun x hx => by cases hx), (fun x hx => by cases hx)⟩
theorem OwnG.len {w : World} {B : Nat} {v : Value} {n : Nat} {F : List Gc} (h : OwnG w B v n F) : F.length = n := by
  have := h.row.1
  rw [fm_len gcc_len] at this
  omega

theorem infoGr : (Try.prog.info? 46).map (fun i => (i.zero, i.size, i.bytes)) = some (some (.agg #[.int .i64 0, .int .i64 0, .slice none 0 0]), 3, 40) := by kernel_rfl
/-- 'append(gs, g)' of one group. -/
theorem wpList_apg {w : World} {ops : Array Oper} {rest : List Oper} {o : Oper} {a : Act} {Q : Exit → Act → World → Prop} (hgd : o.guard = none) (s x : Operand)
    (ho : o.op = .call { callee := .builtin .append, args := #[s, x], argTypes := #[40, 40] })
    (B : Nat) (v : Value) (n : Nat) (F : List Gc) (hs : a.eval s = v) (hown : OwnG w B v n F) (g : Nat) (z : Gc) (hx : a.eval x = .slice (some ⟨g, 0, none⟩) 1 1) (hg : ∀ j u, (gcc z)[j]? = some u → w.cell? ⟨g, j, none⟩ = some u)
    (hz : OwnI w B (.slice z.a z.n z.c) z.n z.s) (hza : ∀ g, (Value.slice z.a z.n z.c).ownBlock = some g → v.ownBlock ≠ some g)
    (hn : n + 1 ≤ 1000000000000) (hB : B ≤ w.heap.size)
    (h : ∀ g' cap w', OwnG w' B (.slice (some ⟨g', 0, none⟩) (n + 1) cap) (n + 1) (F ++ [z]) → w.grownBy w' v.ownBlock → wpList Try.prog ops Q rest (a.put o.dst (.slice (some ⟨g', 0, none⟩) (n + 1) cap)) w') : wpList Try.prog ops Q (o :: rest) a w := by
  obtain ⟨i0, hi, hz0, hz1, hz2⟩ := info_parts infoGr
  refine wpList_append_lies (P := Try.prog) w hgd s x 40 ho B 46 i0 _ 3 40 Try.underlying40 hi hz0 hz1 hz2 rfl (by decide) v n _ hs hown.row ⟨g, 0, none⟩ 1 1 (gcc z) hx rfl ?_ (gcc_one z) (by decide) (by unfold maxLen; omega) (by omega) hB _ rfl ?_
  · intro j u hj
    rw [show (⟨g, 0, none⟩ : Addr).add j = ⟨g, j, none⟩ by unfold Addr.add; split <;> simp_all]
    exact hg j u hj
  · intro g' cap w' hown' hgrow hat hlt
    have hk : ∀ x : Gc, OwnI w B (.slice x.a x.n x.c) x.n x.s → (∀ g, (Value.slice x.a x.n x.c).ownBlock = some g → v.ownBlock ≠ some g) → OwnI w' B (.slice x.a x.n x.c) x.n x.s ∧ ∀ g, (Value.slice x.a x.n x.c).ownBlock = some g → (Value.slice (some ⟨g', 0, none⟩) (n + 1) cap).ownBlock ≠ some g := by
      intro x h1 h2
      refine ⟨World.ownsRow.kept h1 hgrow ?_, fun g0 hg0 e => ?_⟩
      · cases hv : (Value.slice x.a x.n x.c).ownBlock with
        | none => exact .inl rfl
        | some g0 => exact .inr fun e => h2 g0 hv e.symm
      · have e' : g' = g0 := by simpa [Value.ownBlock] using e
        subst e'
        have hl := (h1.lt g' hg0).2
        rcases hat with h3 | h3
        · exact h2 g' hg0 h3
        · omega
    refine h g' cap w' ⟨?_, ?_, ?_⟩ hgrow
    · rw [List.flatMap_append]
      simpa using hown'
    · intro x hx
      rcases List.mem_append.1 hx with h1 | h1
      · exact (hk x (hown.each x h1) (hown.apart x h1)).1
      · rw [List.mem_singleton.1 h1]; exact (hk z hz hza).1
    · intro x hx
      rcases List.mem_append.1 hx with h1 | h1
      · exact (hk x (hown.each x h1) (hown.apart x h1)).2
      · rw [List.mem_singleton.1 h1]; exact (hk z hz hza).2

/-- By Seq, then by how many segments. -/
def cfG (x y : Gc) : Int := cmpG x.q y.q x.n y.n
theorem ltGc (x y : Gc) : Go.Proofs.ltOf cfG x y = decide (x.q < y.q ∨ (x.q = y.q ∧ x.n < y.n)) := by
  unfold Go.Proofs.ltOf cfG cmpG orI cmpI
  rcases (by omega : x.q < y.q ∨ y.q < x.q ∨ x.q = y.q) with h | h | h
  · simp [h]
  · have h' : ¬ x.q < y.q := by omega
    have h2 : ¬ x.q = y.q := by omega
    simp [h, h', h2]
  · have h' : ¬ x.q < y.q := by omega
    have h2 : ¬ y.q < x.q := by omega
    rcases (by omega : x.n < y.n ∨ y.n < x.n ∨ x.n = y.n) with g | g | g
    · simp [h, g]
    · have g' : ¬ x.n < y.n := by omega
      simp [h, g, g']
    · simp [h, g]
theorem swoG : SWO (Go.Proofs.ltOf cfG) where
  irrefl x := by rw [ltGc]; simp
  trans x y z h1 h2 := by rw [ltGc] at *; simp at *; omega
  ntrans x y z h1 h2 := by rw [ltGc] at *; simp at *; omega
def SgPost (w : World) (B : Nat) (v : Value) (n : Nat) (F : List Gc) (e : Ending) (w' : World) : Prop :=
  e = .returned (.tuple #[]) ∧ ∃ S : List Gc, S.Perm F ∧ S.Pairwise (fun a b => ¬ (b.q < a.q ∨ (b.q = a.q ∧ b.n < a.n))) ∧ OwnG w' B v n S ∧ w.grownBy w' v.ownBlock
theorem sortG_any {w : World} {B : Nat} {v : Value} {n : Nat} {F : List Gc} (ho : OwnG w B v n F) (hn : n ≤ 1000000000) :
    Calls Try.prog 29 #[v, .func (.func 30) #[] #[]] w (SgPost w B v n F) := by
  have hl := ho.len
  rcases ho.row.2 with ⟨rfl, rfl⟩ | ⟨g, cap, cur, rfl, _⟩
  · have hcon := AnyF.slices_SortFunc_none (P := Try.prog) (ρ := sortG_ren) { sortG with } none 0 (.func (.func 30) #[] #[]) w
    change Calls Try.prog 29 _ _ _ at hcon
    refine hcon.mono ?_
    rintro e w' ⟨rfl, rfl⟩
    obtain rfl : F = [] := List.eq_nil_of_length_eq_zero hl
    exact ⟨rfl, [], List.Perm.refl _, List.Pairwise.nil, ho, World.grownBy.refl _ _⟩
  · have hlt := (ho.row.lt g rfl).2
    have hH : HoldsK gcc 3 w g 0 F.toArray := holds_own (by decide) gcc_len ho.row
    have eg : ∀ args w, (callFunc 30 args).run Try.prog w = .ok (.enter 30 args) w := enters_of Try.func30 (by kernel_rfl) rfl
    have hcon := AnyQ.slices_SortFunc sortG 3 Try.isAgg46 Try.sizeOf46 gcc gcc_len gcc_one cfG swoG 30 #[] g 0 cap F.toArray w eg (fun _ _ _ _ x y => cl2_any x.q x.r x.a x.n x.c y.q y.r y.a y.n y.c _) hH hlt (by simp; omega)
    change Calls Try.prog 29 _ _ _ at hcon
    rw [show F.toArray.size = n by simp [hl]] at hcon
    refine hcon.mono ?_
    rintro e w' ⟨rfl, d', m, os, hp, hs, rfl⟩
    obtain ⟨p1, p2⟩ := perm_whole (d := F) (d' := d') (by rw [show F.toArray.size = n by simp [hl]]; exact hp)
    obtain ⟨o1, o2⟩ := own_sorted (by decide) gcc_len ho.row d' p1 m os
    refine ⟨rfl, d'.toList, p2, ?_, ⟨o1, fun x hx => ?_, fun x hx => ho.apart x (p2.mem_iff.1 hx)⟩, o2⟩
    · refine (sorted_whole hs (by rw [p1, hl])).imp ?_
      intro a b h
      rw [ltGc] at h
      exact of_decide_eq_false h
    · refine World.ownsRow.kept (ho.each x (p2.mem_iff.1 hx)) o2 ?_
      cases hv : (Value.slice x.a x.n x.c).ownBlock with
      | none => exact .inl rfl
      | some g0 => exact .inr fun e => ho.apart x (p2.mem_iff.1 hx) g0 hv e.symm

/-- Infos sorted by Index stand in order, if any order of them does. -/
theorem ord_sorted {S T : List Inf} (hp : S.Perm T) (hT : OrdI T) (hS : S.Pairwise fun a b => a.i ≤ b.i) : OrdI S := by
  have hTs : (T.map Inf.i).Pairwise (· ≤ ·) := by
    rw [List.pairwise_map, List.pairwise_iff_getElem]
    intro i j hi hj hij
    have a := hT i T[i] (List.getElem?_eq_getElem hi)
    have b := hT j T[j] (List.getElem?_eq_getElem hj)
    omega
  have hSs : (S.map Inf.i).Pairwise (· ≤ ·) := by rw [List.pairwise_map]; exact hS
  have e : S.map Inf.i = T.map Inf.i := List.Perm.eq_of_pairwise (le := (· ≤ ·)) (fun a b _ _ h1 h2 => by omega) hSs hTs (hp.map _)
  intro k x hx
  have h1 : (S.map Inf.i)[k]? = some x.i := by rw [List.getElem?_map, hx]; rfl
  rw [e, List.getElem?_map] at h1
  cases hT' : T[k]? with
  | none => rw [hT'] at h1; cases h1
  | some y =>
    rw [hT'] at h1
    have := hT k y hT'
    simp at h1
    omega
end Go.Proofs.Ytcpplppccljmiaa
