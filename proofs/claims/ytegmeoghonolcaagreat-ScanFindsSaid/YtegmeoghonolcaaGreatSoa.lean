/-
  slices.SortFunc of infos and of groups, by the library's contract.
-/
import Derived.Test.YtegmeoghonolcaaGreatKma
import Derived.Test.YtegmeoghonolcaaGreatLay
set_option linter.unusedSimpArgs false
set_option linter.unusedVariables false
namespace Go.Proofs.YtegmeoghonolcaaGreat
open Go.RowKit Go.Sort Go.Lib
set_option linter.unusedVariables false

section
variable {α : Type} [Inhabited α] {enc : α → List Value} {k : Nat}
omit [Inhabited α] in
theorem fm_len (hk : ∀ x, (enc x).length = k) (d : List α) : (d.flatMap enc).length = d.length * k := by
  induction d with
  | nil => simp
  | cons x r ih => rw [List.flatMap_cons, List.length_append, ih, hk, List.length_cons, Nat.add_mul]; omega
theorem fm_get (hk0 : 0 < k) (hk : ∀ x, (enc x).length = k) : ∀ (d : List α) (t : Nat), t < d.length * k → (d.flatMap enc)[t]? = some ((enc d[t / k]!)[t % k]!)
  | [], t, h => by simp at h
  | x :: r, t, h => by
    by_cases ht : t < k
    · rw [List.flatMap_cons, List.getElem?_append_left (by rw [hk]; exact ht), Nat.div_eq_of_lt ht, Nat.mod_eq_of_lt ht]
      have : t < (enc x).length := by rw [hk]; exact ht
      simp [this]
    · obtain ⟨u, rfl⟩ : ∃ u, t = k + u := ⟨t - k, by omega⟩
      rw [List.flatMap_cons, List.getElem?_append_right (by rw [hk]; omega), hk, Nat.add_sub_cancel_left, fm_get hk0 hk r u (by rw [List.length_cons, Nat.add_mul] at h; omega)]
      rw [Nat.add_div_left u hk0, Nat.add_mod_left]
      simp
theorem flatK_list (hk0 : 0 < k) (hk : ∀ x, (enc x).length = k) (d : Array α) : (flatK enc k d).toList = d.toList.flatMap enc := by
  apply List.ext_getElem?
  intro t
  by_cases ht : t < d.size * k
  · have h1 := get_flatK enc k d t ht
    have h2 := fm_get hk0 hk d.toList t (by simpa using ht)
    rw [h2]
    have hs : t < (flatK enc k d).size := by rw [size_flatK]; exact ht
    rw [getElem!_pos _ t hs] at h1
    have hq : t / k < d.size := Nat.div_lt_of_lt_mul (by rw [Nat.mul_comm]; exact ht)
    rw [Array.getElem?_toList, Array.getElem?_eq_getElem hs, h1, getElem!_pos d (t / k) hq, getElem!_pos d.toList (t / k) (by simpa using hq), Array.getElem_toList]
  · rw [List.getElem?_eq_none (by simp; omega), List.getElem?_eq_none (by rw [fm_len hk]; simp; omega)]
/-- A row of the call's own holds its elements. -/
theorem holds_own (hk0 : 0 < k) (hk : ∀ x, (enc x).length = k) {w : World} {B g n cap : Nat} {e : TypeId} {d : List α} (ho : w.ownsRow B e k (.slice (some ⟨g, 0, none⟩) n cap) n (d.flatMap enc)) : HoldsK enc k w g 0 d.toArray := by
  intro j hj
  rcases ho.2 with ⟨h, _⟩ | ⟨g', cap', cur, h, hb, hg, hnc, hm, hsz, htake⟩
  · cases h
  · cases h
    have hl := ho.1
    rw [fm_len hk] at hl
    have hj' : j < d.length * k := by simpa using hj
    have h2 : (flatK enc k d.toArray)[j]! = (enc d[j / k]!)[j % k]! := by rw [get_flatK _ _ _ _ (by simpa using hj')]; simp
    rw [h2]
    refine ⟨?_, frozen_of_row w g (0 + j) cur e hg⟩
    rw [cell_of_row w g (0 + j) cur e (0, 0) hg, Nat.zero_add]
    have h3 := fm_get hk0 hk d j hj'
    rw [← htake, List.getElem?_take, if_pos (by omega)] at h3
    simpa using h3
/-- .. and behind the sort it is one of the call's own still; nothing else has turned. -/
theorem own_sorted (hk0 : 0 < k) (hk : ∀ x, (enc x).length = k) {w : World} {B g n cap : Nat} {e : TypeId} {d : List α} (ho : w.ownsRow B e k (.slice (some ⟨g, 0, none⟩) n cap) n (d.flatMap enc)) (d' : Array α) (hd : d'.size = d.length) (m : Nat) (os : Array Obj) :
    (Go.Proofs.sortWorldK enc k w g 0 m d' os).ownsRow B e k (.slice (some ⟨g, 0, none⟩) n cap) n (d'.toList.flatMap enc) ∧ w.grownBy (Go.Proofs.sortWorldK enc k w g 0 m d' os) (some g) := by
  rcases ho.2 with ⟨h, _⟩ | ⟨g', cap', cur, h, hb, hg, hnc, hm, hsz, htake⟩
  · cases h
  · cases h
    have hl := ho.1
    rw [fm_len hk] at hl
    have hlt : g < w.heap.size := lt_of_block hg
    have hheap : ∀ i, i < w.heap.size → (Go.Proofs.sortWorldK enc k w g 0 m d' os).heap[i]? = (w.heap.modify g (onCells (putCells id 0 (flatK enc k d'))))[i]? := fun i hi => by
      show ((w.heap.modify g (onCells (putCells id 0 (flatK enc k d')))) ++ os)[i]? = _
      rw [Array.getElem?_append_left (by simpa using hi)]
    refine ⟨⟨by rw [fm_len hk, ← hl, ← hd]; simp, .inr ⟨g, cap, putCells id 0 (flatK enc k d') cur, rfl, hb, ?_, hnc, hm, by simp [putCells, hsz], ?_⟩⟩, rfl, rfl, rfl, ?_, ?_⟩
    · rw [hheap g hlt, Array.getElem?_modify, if_pos rfl, hg]
      rfl
    · rw [← flatK_list hk0 hk]
      have hs : (flatK enc k d').size = n * k := by rw [size_flatK, hd, hl]
      have hcs : n * k ≤ cur.size := by rw [hsz]; exact Nat.mul_le_mul_right k hnc
      apply List.ext_getElem?
      intro t
      rw [List.getElem?_take]
      by_cases ht : t < n * k
      · rw [if_pos ht]
        have h1 : t < (flatK enc k d').size := by omega
        have h2 : t < cur.size := by omega
        rw [Array.getElem?_toList, Array.getElem?_toList, Array.getElem?_eq_getElem h1, putCells, Array.getElem?_mapIdx, Array.getElem?_eq_getElem h2, Option.map_some, if_pos ⟨Nat.zero_le _, by omega⟩, Nat.sub_zero, getElem!_pos _ t h1]
        rfl
      · rw [if_neg ht, List.getElem?_eq_none (by rw [Array.length_toList, hs]; omega)]
    · show w.heap.size ≤ ((w.heap.modify g (onCells (putCells id 0 (flatK enc k d')))) ++ os).size
      simp
    · intro i hi hne
      rw [hheap i hi, Array.getElem?_modify, if_neg (fun e => hne (by rw [e]))]
end

/-- The library's permutation of a whole row. -/
theorem perm_whole {α : Type} [Inhabited α] {d : List α} {d' : Array α} (h : PermIn 0 d.toArray.size d.toArray d') : d'.size = d.length ∧ d'.toList.Perm d := by
  obtain ⟨h1, _, h3⟩ := h
  have hs : d'.size = d.length := by rw [h1]; simp
  refine ⟨hs, ?_⟩
  have e1 : (d'.extract 0 d.toArray.size).toList = d'.toList := by
    rw [← h1]
    simp
  have e2 : (d.toArray.extract 0 d.toArray.size).toList = d := by simp
  rw [e1, e2] at h3
  exact h3
theorem sorted_whole {α : Type} [Inhabited α] {lt : α → α → Bool} {n : Nat} {d : Array α} (h : SortedIn lt 0 n d) (hn : n = d.size) : d.toList.Pairwise fun a b => lt b a = false := by
  rw [List.pairwise_iff_getElem]
  intro i j hi hj hij
  have := h i j (Nat.zero_le _) hij (by rw [hn]; simpa using hj)
  rw [getElem!_pos d j (by simpa using hj), getElem!_pos d i (by simpa using hi)] at this
  simpa using this

theorem cmpI_lt (x y : Int) : decide (cmpI x y < 0) = decide (x < y) := by
  unfold cmpI
  by_cases h1 : x < y
  · simp [h1]
  · by_cases h2 : y < x <;> simp [h1, h2]
/-- By Index. -/
def cfI (x y : Inf) : Int := cmpI x.i y.i
theorem ltI (x y : Inf) : Go.Proofs.ltOf cfI x y = decide (x.i < y.i) := cmpI_lt _ _
theorem swoI : SWO (Go.Proofs.ltOf cfI) where
  irrefl x := by rw [ltI]; simp
  trans x y z h1 h2 := by rw [ltI] at *; simp at *; omega
  ntrans x y z h1 h2 := by rw [ltI] at *; simp at *; omega
theorem ifc_len (x : Inf) : (ifc x).length = 6 := rfl
theorem ifc_one (x : Inf) : ∀ v ∈ ifc x, v.oneCell' = true := by
  intro v hv
  simp only [ifc, List.mem_cons, List.not_mem_nil, or_false] at hv
  rcases hv with rfl | rfl | rfl | rfl | rfl | rfl <;> rfl

/-- What sorting a row of infos leaves. -/
def SiPost (w : World) (B g n cap : Nat) (L : List Inf) (e : Ending) (w' : World) : Prop :=
  e = .returned (.tuple #[]) ∧ ∃ S : List Inf, S.Perm L ∧ S.Pairwise (fun a b => a.i ≤ b.i) ∧ OwnF w' B (.slice (some ⟨g, 0, none⟩) n cap) n S ∧ w.grownBy w' (some g)
theorem sortI_any {w : World} {B g n cap : Nat} {L : List Inf} (ho : OwnF w B (.slice (some ⟨g, 0, none⟩) n cap) n L) (hn : n ≤ 1000000000) :
    Calls Tryz.prog 57 #[.slice (some ⟨g, 0, none⟩) n cap, .func (.func 58) #[] #[]] w (SiPost w B g n cap L) := by
  have hl := ho.len
  have hlt := (ho.lt g rfl).2
  have hH : HoldsK ifc 6 w g 0 L.toArray := holds_own (by decide) ifc_len ho
  have eg : ∀ args w, (callFunc 58 args).run Tryz.prog w = .ok (.enter 58 args) w := enters_of Tryz.func58 (by kernel_rfl) rfl
  have hcon := AnyQ.slices_SortFunc sortI 6 Tryz.isAgg59 Tryz.sizeOf59 ifc ifc_len ifc_one cfI swoI 58 #[] g 0 cap L.toArray w eg (fun _ _ _ _ x y => cl1_any x y _) hH hlt (by simp; omega)
  have e0 : (L.toArray.size : Int) = (n : Int) := by simp [hl]
  change Calls Tryz.prog 57 _ _ _ at hcon
  rw [show L.toArray.size = n by simp [hl]] at hcon
  refine hcon.mono ?_
  rintro e w' ⟨rfl, d', m, os, hp, hs, rfl⟩
  obtain ⟨p1, p2⟩ := perm_whole (d := L) (d' := d') (by rw [show L.toArray.size = n by simp [hl]]; exact hp)
  obtain ⟨o1, o2⟩ := own_sorted (by decide) ifc_len ho d' p1 m os
  refine ⟨rfl, d'.toList, p2, ?_, o1, o2⟩
  refine (sorted_whole hs (by rw [p1, hl])).imp ?_
  intro a b h
  rw [ltI] at h
  simp at h
  omega
end Go.Proofs.YtegmeoghonolcaaGreat

/-
  Rows of groups of the call's own; how they are sorted; what they are when all is done.
-/
namespace Go.Proofs.YtegmeoghonolcaaGreat
open Go.RowKit Go.Sort Go.Lib
set_option linter.unusedVariables false

/-- A group in a row: its numbers, its segments' slice and what that holds. -/
structure Gc where
  q : Int
  r : Int
  a : Option Addr
  n : Nat
  c : Nat
  s : List Int
instance : Inhabited Gc := ⟨⟨0, 0, none, 0, 0, []⟩⟩
def gcc (x : Gc) : List Value := [.int .i64 x.q, .int .i64 x.r, .slice x.a x.n x.c]
def Gc.gr (x : Gc) : Gr := ⟨x.q, x.r, x.s⟩
theorem gcc_len (x : Gc) : (gcc x).length = 3 := rfl
theorem gcc_one (x : Gc) : ∀ v ∈ gcc x, v.oneCell' = true := by
  intro v hv
  simp only [gcc, List.mem_cons, List.not_mem_nil, or_false] at hv
  rcases hv with rfl | rfl | rfl <;> rfl
/-- A row of groups of the call's own. -/
structure OwnG (w : World) (B : Nat) (v : Value) (n : Nat) (F : List Gc) : Prop where
  row : w.ownsRow B 63 3 v n (F.flatMap gcc)
  each : ∀ x ∈ F, OwnI w B (.slice x.a x.n x.c) x.n x.s
  apart : ∀ x ∈ F, ∀ g, (Value.slice x.a x.n x.c).ownBlock = some g → v.ownBlock ≠ some g
theorem OwnG.kept {w w' : World} {B : Nat} {v : Value} {n : Nat} {F : List Gc} {row : Option Nat} (h : OwnG w B v n F) (hg : w.grownBy w' row) (hr : ∀ g, row = some g → g < B) : OwnG w' B v n F := by
  refine ⟨h.row.kept hg ?_, fun x hx => World.ownsRow.kept (h.each x hx) hg ?_, h.apart⟩
  · cases hv : v.ownBlock with
    | none => exact .inl rfl
    | some g =>
      refine .inr fun e => ?_
      have := hr g e.symm
      have := (h.row.lt g hv).1
      omega
  · cases hv : (Value.slice x.a x.n x.c).ownBlock with
    | none => exact .inl rfl
    | some g =>
      refine .inr fun e => ?_
      have := hr g e.symm
      have := ((h.each x hx).lt g hv).1
      omega
theorem ownG_nil (w : World) (B : Nat) : OwnG w B (.slice none 0 0) 0 [] := ⟨World.ownsRow_nil _ _ _ _, (fun x hx => by cases hx), (fun x hx => by cases hx)⟩
theorem OwnG.len {w : World} {B : Nat} {v : Value} {n : Nat} {F : List Gc} (h : OwnG w B v n F) : F.length = n := by
  have := h.row.1
  rw [fm_len gcc_len] at this
  omega

theorem infoGr : (Tryz.prog.info? 63).map (fun i => (i.zero, i.size, i.bytes)) = some (some (.agg #[.int .i64 0, .int .i64 0, .slice none 0 0]), 3, 40) := by kernel_rfl
/-- 'append(gs, g)' of one group. -/
theorem wpList_apg {w : World} {ops : Array Oper} {rest : List Oper} {o : Oper} {a : Act} {Q : Exit → Act → World → Prop} (hgd : o.guard = none) (s x : Operand)
    (ho : o.op = .call { callee := .builtin .append, args := #[s, x], argTypes := #[61, 61] })
    (B : Nat) (v : Value) (n : Nat) (F : List Gc) (hs : a.eval s = v) (hown : OwnG w B v n F) (g : Nat) (z : Gc) (hx : a.eval x = .slice (some ⟨g, 0, none⟩) 1 1) (hg : ∀ j u, (gcc z)[j]? = some u → w.cell? ⟨g, j, none⟩ = some u)
    (hz : OwnI w B (.slice z.a z.n z.c) z.n z.s) (hza : ∀ g, (Value.slice z.a z.n z.c).ownBlock = some g → v.ownBlock ≠ some g)
    (hn : n + 1 ≤ 1000000000000) (hB : B ≤ w.heap.size)
    (h : ∀ g' cap w', OwnG w' B (.slice (some ⟨g', 0, none⟩) (n + 1) cap) (n + 1) (F ++ [z]) → w.grownBy w' v.ownBlock → wpList Tryz.prog ops Q rest (a.put o.dst (.slice (some ⟨g', 0, none⟩) (n + 1) cap)) w') : wpList Tryz.prog ops Q (o :: rest) a w := by
  obtain ⟨i0, hi, hz0, hz1, hz2⟩ := info_parts infoGr
  refine wpList_append_lies (P := Tryz.prog) w hgd s x 61 ho B 63 i0 _ 3 40 Tryz.underlying61 hi hz0 hz1 hz2 rfl (by decide) v n _ hs hown.row ⟨g, 0, none⟩ 1 1 (gcc z) hx rfl ?_ (gcc_one z) (by decide) (by unfold maxLen; omega) (by omega) hB _ rfl ?_
  · intro j u hj
    rw [show (⟨g, 0, none⟩ : Addr).add j = ⟨g, j, none⟩ by unfold Addr.add; split <;> simp_all]
    exact hg j u hj
  · intro g' cap w' hown' hgrow hat hlt
    have hk : ∀ x : Gc, OwnI w B (.slice x.a x.n x.c) x.n x.s → (∀ g, (Value.slice x.a x.n x.c).ownBlock = some g → v.ownBlock ≠ some g) → OwnI w' B (.slice x.a x.n x.c) x.n x.s ∧ ∀ g, (Value.slice x.a x.n x.c).ownBlock = some g → (Value.slice (some ⟨g', 0, none⟩) (n + 1) cap).ownBlock ≠ some g := by
      intro x h1 h2
      refine ⟨World.ownsRow.kept h1 hgrow ?_, fun g0 hg0 e => ?_⟩
      · cases hv : (Value.slice x.a x.n x.c).ownBlock with
        | none => exact .inl rfl
        | some g0 => exact .inr fun e => h2 g0 hv e.symm
      · have e' : g' = g0 := by simpa [Value.ownBlock] using e
        subst e'
        have hl := (h1.lt g' hg0).2
        rcases hat with h3 | h3
        · exact h2 g' hg0 h3
        · omega
    refine h g' cap w' ⟨?_, ?_, ?_⟩ hgrow
    · rw [List.flatMap_append]
      simpa using hown'
    · intro x hx
      rcases List.mem_append.1 hx with h1 | h1
      · exact (hk x (hown.each x h1) (hown.apart x h1)).1
      · rw [List.mem_singleton.1 h1]; exact (hk z hz hza).1
    · intro x hx
      rcases List.mem_append.1 hx with h1 | h1
      · exact (hk x (hown.each x h1) (hown.apart x h1)).2
      · rw [List.mem_singleton.1 h1]; exact (hk z hz hza).2

/-- By Seq, then by how many segments. -/
def cfG (x y : Gc) : Int := cmpG x.q y.q x.n y.n
theorem ltGc (x y : Gc) : Go.Proofs.ltOf cfG x y = decide (x.q < y.q ∨ (x.q = y.q ∧ x.n < y.n)) := by
  unfold Go.Proofs.ltOf cfG cmpG orI cmpI
  rcases (by omega : x.q < y.q ∨ y.q < x.q ∨ x.q = y.q) with h | h | h
  · simp [h]
  · have h' : ¬ x.q < y.q := by omega
    have h2 : ¬ x.q = y.q := by omega
    simp [h, h', h2]
  · have h' : ¬ x.q < y.q := by omega
    have h2 : ¬ y.q < x.q := by omega
    rcases (by omega : x.n < y.n ∨ y.n < x.n ∨ x.n = y.n) with g | g | g
    · simp [h, g]
    · have g' : ¬ x.n < y.n := by omega
      simp [h, g, g']
    · simp [h, g]
theorem swoG : SWO (Go.Proofs.ltOf cfG) where
  irrefl x := by rw [ltGc]; simp
  trans x y z h1 h2 := by rw [ltGc] at *; simp at *; omega
  ntrans x y z h1 h2 := by rw [ltGc] at *; simp at *; omega
def SgPost (w : World) (B : Nat) (v : Value) (n : Nat) (F : List Gc) (e : Ending) (w' : World) : Prop :=
  e = .returned (.tuple #[]) ∧ ∃ S : List Gc, S.Perm F ∧ S.Pairwise (fun a b => ¬ (b.q < a.q ∨ (b.q = a.q ∧ b.n < a.n))) ∧ OwnG w' B v n S ∧ w.grownBy w' v.ownBlock
theorem sortG_any {w : World} {B : Nat} {v : Value} {n : Nat} {F : List Gc} (ho : OwnG w B v n F) (hn : n ≤ 1000000000) :
    Calls Tryz.prog 62 #[v, .func (.func 63) #[] #[]] w (SgPost w B v n F) := by
  have hl := ho.len
  rcases ho.row.2 with ⟨rfl, rfl⟩ | ⟨g, cap, cur, rfl, _⟩
  · have hcon := AnyF.slices_SortFunc_none (P := Tryz.prog) (ρ := sortG_ren) { sortG with } none 0 (.func (.func 63) #[] #[]) w
    change Calls Tryz.prog 62 _ _ _ at hcon
    refine hcon.mono ?_
    rintro e w' ⟨rfl, rfl⟩
    obtain rfl : F = [] := List.eq_nil_of_length_eq_zero hl
    exact ⟨rfl, [], List.Perm.refl _, List.Pairwise.nil, ho, World.grownBy.refl _ _⟩
  · have hlt := (ho.row.lt g rfl).2
    have hH : HoldsK gcc 3 w g 0 F.toArray := holds_own (by decide) gcc_len ho.row
    have eg : ∀ args w, (callFunc 63 args).run Tryz.prog w = .ok (.enter 63 args) w := enters_of Tryz.func63 (by kernel_rfl) rfl
    have hcon := AnyQ.slices_SortFunc sortG 3 Tryz.isAgg63 Tryz.sizeOf63 gcc gcc_len gcc_one cfG swoG 63 #[] g 0 cap F.toArray w eg (fun _ _ _ _ x y => cl2_any x.q x.r x.a x.n x.c y.q y.r y.a y.n y.c _) hH hlt (by simp; omega)
    change Calls Tryz.prog 62 _ _ _ at hcon
    rw [show F.toArray.size = n by simp [hl]] at hcon
    refine hcon.mono ?_
    rintro e w' ⟨rfl, d', m, os, hp, hs, rfl⟩
    obtain ⟨p1, p2⟩ := perm_whole (d := F) (d' := d') (by rw [show F.toArray.size = n by simp [hl]]; exact hp)
    obtain ⟨o1, o2⟩ := own_sorted (by decide) gcc_len ho.row d' p1 m os
    refine ⟨rfl, d'.toList, p2, ?_, ⟨o1, fun x hx => ?_, fun x hx => ho.apart x (p2.mem_iff.1 hx)⟩, o2⟩
    · refine (sorted_whole hs (by rw [p1, hl])).imp ?_
      intro a b h
      rw [ltGc] at h
      exact of_decide_eq_false h
    · refine World.ownsRow.kept (ho.each x (p2.mem_iff.1 hx)) o2 ?_
      cases hv : (Value.slice x.a x.n x.c).ownBlock with
      | none => exact .inl rfl
      | some g0 => exact .inr fun e => ho.apart x (p2.mem_iff.1 hx) g0 hv e.symm

/-- Infos sorted by Index stand in order, if any order of them does. -/
theorem ord_sorted {S T : List Inf} (hp : S.Perm T) (hT : OrdI T) (hS : S.Pairwise fun a b => a.i ≤ b.i) : OrdI S := by
  have hTs : (T.map Inf.i).Pairwise (· ≤ ·) := by
    rw [List.pairwise_map, List.pairwise_iff_getElem]
    intro i j hi hj hij
    have a := hT i T[i] (List.getElem?_eq_getElem hi)
    have b := hT j T[j] (List.getElem?_eq_getElem hj)
    omega
  have hSs : (S.map Inf.i).Pairwise (· ≤ ·) := by rw [List.pairwise_map]; exact hS
  have e : S.map Inf.i = T.map Inf.i := List.Perm.eq_of_pairwise (le := (· ≤ ·)) (fun a b _ _ h1 h2 => by omega) hSs hTs (hp.map _)
  intro k x hx
  have h1 : (S.map Inf.i)[k]? = some x.i := by rw [List.getElem?_map, hx]; rfl
  rw [e, List.getElem?_map] at h1
  cases hT' : T[k]? with
  | none => rw [hT'] at h1; cases h1
  | some y =>
    rw [hT'] at h1
    have := hT k y hT'
    simp at h1
    omega
end Go.Proofs.YtegmeoghonolcaaGreat

/-
  The program's Groups, by contract.
-/
namespace Go.Proofs.YtegmeoghonolcaaGreat
open Go.RowKit Go.Maps
set_option linter.unusedVariables false

/-- The rows that are still to come. -/
def Rows (w : World) (B H0 : Nat) (L : List Inf) (D : DataW Unit) (left : Lit → Bool) : Prop :=
  ∀ f c, grp L f c ≠ [] → left (keyK f c) = true → ∃ g cap, D.atKey (keyK f c) .nil = ptG g (grp L f c).length cap ∧ g < H0 ∧ OwnF w B (.slice (some ⟨g, 0, none⟩) (grp L f c).length cap) (grp L f c).length (grp L f c)
theorem Rows.kept {w w' : World} {B H0 : Nat} {L : List Inf} {D : DataW Unit} {left : Lit → Bool} {row : Option Nat} (h : Rows w B H0 L D left) (hg : w.grownBy w' row) (hr : ∀ g, row = some g → H0 ≤ g) : Rows w' B H0 L D left := by
  intro f c hne hl
  obtain ⟨g, cap, a, b, o⟩ := h f c hne hl
  refine ⟨g, cap, a, b, World.ownsRow.kept o hg (.inr fun e => ?_)⟩
  have := hr g e.symm
  omega
/-- One row has been gone over: it may have turned. -/
theorem Rows.struck {w w' : World} {B H0 n : Nat} {L : List Inf} {D : DataW Unit} {left : Lit → Bool} {f c : Int} {g k : Nat} (h : Rows w B H0 L D left) (hW : AllW L) (hap : ∀ f c f' c' g n k n' k', grp L f c ≠ [] → grp L f' c' ≠ [] → D.atKey (keyK f c) .nil = ptG g n k → D.atKey (keyK f' c') .nil = ptG g n' k' → f = f' ∧ c = c')
    (hne : grp L f c ≠ []) (ha : D.atKey (keyK f c) .nil = ptG g n k) (hg : w.grownBy w' (some g)) : Rows w' B H0 L D (fun z => left z && !z.sameKey (keyK f c)) := by
  intro f' c' hne' hl
  simp only [Bool.and_eq_true, Bool.not_eq_true'] at hl
  obtain ⟨g', cap, a, b, o⟩ := h f' c' hne' hl.1
  refine ⟨g', cap, a, b, World.ownsRow.kept o hg (.inr fun e => ?_)⟩
  have e' : g' = g := by simpa [Value.ownBlock] using e
  subst e'
  obtain ⟨rfl, rfl⟩ := hap f' c' f c _ _ _ _ _ hne' hne a ha
  obtain ⟨w1, w2⟩ := grp_wn hW hne
  have := WideAt.sameKey_self (isKeyK w1 w2)
  rw [this] at hl
  cases hl.2
/-- The groups of the kin that have been gone over. -/
structure Done (L : List Inf) (left : Lit → Bool) (F : List Gc) : Prop where
  nodup : (F.map Gc.gr).Nodup
  mem : ∀ G, G ∈ F.map Gc.gr ↔ ∃ f c, grp L f c ≠ [] ∧ left (keyK f c) = false ∧ IsG L f c G
theorem IsG.ne {L : List Inf} {f c : Int} {G : Gr} (h : IsG L f c G) : grp L f c ≠ [] := by
  obtain ⟨S, a, b, _⟩ := h
  intro e
  rw [e] at a
  exact b a.eq_nil
theorem left_struck {L : List Inf} (hW : AllW L) {left : Lit → Bool} {f c f' c' : Int} (hne : grp L f c ≠ []) (hne' : grp L f' c' ≠ []) (h : ¬ (f' = f ∧ c' = c)) : (left (keyK f' c') && !(keyK f' c').sameKey (keyK f c)) = left (keyK f' c') := by
  obtain ⟨w1, w2⟩ := grp_wn hW hne
  obtain ⟨w3, w4⟩ := grp_wn hW hne'
  rw [sameKey_ne (fun e => h (keyK_inj w3 w4 w1 w2 e))]
  simp
theorem left_self {L : List Inf} (hW : AllW L) {left : Lit → Bool} {f c : Int} (hne : grp L f c ≠ []) : (left (keyK f c) && !(keyK f c).sameKey (keyK f c)) = false := by
  obtain ⟨w1, w2⟩ := grp_wn hW hne
  rw [WideAt.sameKey_self (isKeyK w1 w2)]
  simp
theorem Done.no {L : List Inf} {left : Lit → Bool} {F : List Gc} {f c : Int} (h : Done L left F) (hW : AllW L) (hne : grp L f c ≠ []) (hl : left (keyK f c) = true) (hno : ∀ G, ¬ IsG L f c G) : Done L (fun z => left z && !z.sameKey (keyK f c)) F := by
  refine ⟨h.nodup, fun G => ?_⟩
  rw [h.mem G]
  constructor
  · rintro ⟨f', c', a, b, d⟩
    refine ⟨f', c', a, ?_, d⟩
    show (left (keyK f' c') && _) = false
    rw [b]; rfl
  · rintro ⟨f', c', a, b, d⟩
    by_cases e : f' = f ∧ c' = c
    · obtain ⟨rfl, rfl⟩ := e
      exact absurd d (hno G)
    · refine ⟨f', c', a, ?_, d⟩
      have b' : (left (keyK f' c') && !(keyK f' c').sameKey (keyK f c)) = false := b
      rw [left_struck hW hne a e] at b'
      exact b'
theorem Done.yes {L : List Inf} {left : Lit → Bool} {F : List Gc} {f c : Int} {z : Gc} (h : Done L left F) (hW : AllW L) (hne : grp L f c ≠ []) (hl : left (keyK f c) = true) (hz : IsG L f c z.gr) : Done L (fun z => left z && !z.sameKey (keyK f c)) (F ++ [z]) := by
  constructor
  · rw [List.map_append, List.nodup_append]
    refine ⟨h.nodup, by simp, fun a ha b hb e => ?_⟩
    simp only [List.map_cons, List.map_nil, List.mem_singleton] at hb
    rw [h.mem a] at ha
    obtain ⟨f', c', a1, a2, a3⟩ := ha
    subst e hb
    obtain ⟨p1, p2⟩ := hz.seq
    obtain ⟨q1, q2⟩ := a3.seq
    obtain rfl : f' = f := by rw [← p1, ← q1]
    obtain rfl : c' = c := by rw [← p2, ← q2]
    rw [hl] at a2
    cases a2
  · intro G
    rw [List.map_append, List.mem_append, h.mem G]
    simp only [List.map_cons, List.map_nil, List.mem_singleton]
    constructor
    · rintro (⟨f', c', a, b, d⟩ | rfl)
      · refine ⟨f', c', a, ?_, d⟩
        show (left (keyK f' c') && _) = false
        rw [b]; rfl
      · exact ⟨f, c, hne, left_self hW hne, hz⟩
    · rintro ⟨f', c', a, b, d⟩
      by_cases e : f' = f ∧ c' = c
      · obtain ⟨rfl, rfl⟩ := e
        exact .inr (d.uniq hz)
      · refine .inl ⟨f', c', a, ?_, d⟩
        have b' : (left (keyK f' c') && !(keyK f' c').sameKey (keyK f c)) = false := b
        rw [left_struck hW hne a e] at b'
        exact b'

/-- The step of a range over the rows. -/
theorem wpList_next_rows {w : World} {ops : Array Oper} {rest : List Oper} {o : Oper} {a : Act} {Q : Exit → Act → World → Prop} (hg : o.guard = none) (it : Operand) (hop : o.op = Op.next it false)
    (w0 : World) (B mb r n m : Nat) (L : List Inf) (D : DataW Unit) (hgm : GmD w0 B mb m L D) (hW : AllW L) (left : Lit → Bool) (cnt : Nat) (hit : a.eval it = .pointer (some ⟨r, 0, none⟩)) (h : w.ranges Tryz.prog 123 elemG mb r n D left cnt)
    (hDone : cnt = 0 → (∀ kl, left kl = false) → wpList Tryz.prog ops Q rest (a.put o.dst (.tuple #[.bool false])) w)
    (hMore : ∀ (f c : Int) (g cap : Nat) (w' : World) (cnt' : Nat), grp L f c ≠ [] → D.atKey (keyK f c) .nil = ptG g (grp L f c).length cap → left (keyK f c) = true → w'.ranges Tryz.prog 123 elemG mb r n D (fun z => left z && !z.sameKey (keyK f c)) cnt' → cnt' < cnt → w.grownBy w' (some r) → w'.heap.size = w.heap.size →
      (Instr.entry (.pointer (some ⟨r, 0, none⟩))).run Tryz.prog w' = .ok (.tuple #[.agg #[.int .i64 f, .int .i64 c], .slice (some ⟨g, 0, none⟩) (grp L f c).length cap]) w' →
      wpList Tryz.prog ops Q rest (a.put o.dst (.tuple #[.bool true, .agg #[.int .i64 f, .int .i64 c], .slice (some ⟨g, 0, none⟩) (grp L f c).length cap])) w') :
    wpList Tryz.prog ops Q (o :: rest) a w :=
  wpList_next_ranges w hg it hop 123 lawG elemG id id (fun key _ _ => ⟨key, rfl⟩) (fun v _ _ => ⟨v, rfl⟩) mb r n D left cnt hit h hDone (fun x v kl y w' cnt' hkey hlk hv hat hrg hlt hgr hsz hen => by
    obtain ⟨f, c, rfl, hne⟩ := hgm.keys kl (has_true_of_atKey hat)
    obtain ⟨w1, w2⟩ := grp_wn hW hne
    obtain rfl : x = .agg #[.int .i64 f, .int .i64 c] := lawG.inj hkey (keyK_of w1 w2)
    obtain ⟨g, cap, ha, _⟩ := hgm.rows f c hne
    obtain ⟨y1, y2⟩ := y
    have := hat .nil
    rw [ha] at this
    simp only at this
    rw [← this] at hv
    obtain rfl := elemG_pt hv
    exact hMore f c g cap w' cnt' hne ha hlk hrg hlt hgr hsz hen)
end Go.Proofs.YtegmeoghonolcaaGreat
