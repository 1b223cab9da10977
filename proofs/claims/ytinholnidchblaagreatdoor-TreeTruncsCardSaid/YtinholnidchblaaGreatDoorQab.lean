/-
  Numbering, plainly: the nodes as they are met, over any children; what numbering anew leaves as it is.
-/
import Derived.Test.YtinholnidchblaaGreatDoorQaa
import Derived.Shelf.Abstract
set_option linter.unusedVariables false
set_option linter.unusedSimpArgs false
namespace Go.Proofs.YtinholnidchblaaGreatDoor
set_option linter.unusedVariables false
set_option linter.unusedSimpArgs false

/-- The nodes from one on as they are met, put to those that were. -/
def ord (ch : Nat → List Nat) : Nat → Nat → List Nat → List Nat
  | 0, a, met => met ++ [a]
  | d + 1, a, met => (ch a).foldl (fun m k => if k ∈ m then m else ord ch d k m) (met ++ [a])
/-- One more of them. -/
def ordS (ch : Nat → List Nat) (d : Nat) (m : List Nat) (k : Nat) : List Nat := if k ∈ m then m else ord ch d k m
theorem ord_zero (ch : Nat → List Nat) (a : Nat) (met : List Nat) : ord ch 0 a met = met ++ [a] := rfl
theorem ord_succ (ch : Nat → List Nat) (d a : Nat) (met : List Nat) : ord ch (d + 1) a met = (ch a).foldl (ordS ch d) (met ++ [a]) := rfl

theorem foldS_ext {ch : Nat → List Nat} {d : Nat} (ih : ∀ a met, ∃ r, ord ch d a met = met ++ a :: r) : ∀ (ks m : List Nat), ∃ r, ks.foldl (ordS ch d) m = m ++ r
  | [], m => ⟨[], by simp⟩
  | k :: ks, m => by
    obtain ⟨r, hr⟩ := foldS_ext ih ks (ordS ch d m k)
    by_cases h : k ∈ m
    · refine ⟨r, ?_⟩
      rw [List.foldl_cons, hr, ordS, if_pos h]
    · obtain ⟨s, hs⟩ := ih k m
      refine ⟨k :: s ++ r, ?_⟩
      rw [List.foldl_cons, hr, ordS, if_neg h, hs]
      simp
theorem ord_ext (ch : Nat → List Nat) : ∀ d a met, ∃ r, ord ch d a met = met ++ a :: r
  | 0, a, met => ⟨[], rfl⟩
  | d + 1, a, met => by
    obtain ⟨r, hr⟩ := foldS_ext (ord_ext ch d) (ch a) (met ++ [a])
    exact ⟨r, by rw [ord_succ, hr]; simp⟩
theorem ordS_ext (ch : Nat → List Nat) (d : Nat) (m : List Nat) (k : Nat) : ∃ r, ordS ch d m k = m ++ r := by
  unfold ordS
  split
  · exact ⟨[], by simp⟩
  · obtain ⟨r, hr⟩ := ord_ext ch d k m
    exact ⟨k :: r, hr⟩
theorem ordS_mem (ch : Nat → List Nat) (d : Nat) (m : List Nat) (k : Nat) : k ∈ ordS ch d m k := by
  unfold ordS
  split
  · assumption
  · obtain ⟨r, hr⟩ := ord_ext ch d k m
    rw [hr]; simp
theorem fold_sub (ch : Nat → List Nat) (d : Nat) (ks m : List Nat) {x : Nat} (h : x ∈ m) : x ∈ ks.foldl (ordS ch d) m := by
  obtain ⟨r, hr⟩ := foldS_ext (ord_ext ch d) ks m
  rw [hr]
  exact List.mem_append_left _ h
theorem ord_sub (ch : Nat → List Nat) (d a : Nat) (m : List Nat) {x : Nat} (h : x ∈ m) : x ∈ ord ch d a m := by
  obtain ⟨r, hr⟩ := ord_ext ch d a m
  rw [hr]
  exact List.mem_append_left _ h
theorem ord_self (ch : Nat → List Nat) (d a : Nat) (m : List Nat) : a ∈ ord ch d a m := by
  obtain ⟨r, hr⟩ := ord_ext ch d a m
  rw [hr]; simp

/-- What holds of a step holds of all. -/
theorem foldS_ind {ch : Nat → List Nat} {d : Nat} {P : List Nat → Prop} {ks : List Nat} (h : ∀ k ∈ ks, ∀ m, P m → k ∉ m → P (ord ch d k m)) {m : List Nat} (h0 : P m) : P (ks.foldl (ordS ch d) m) := by
  induction ks generalizing m with
  | nil => exact h0
  | cons k ks ih =>
    rw [List.foldl_cons]
    refine ih (fun k hk => h k (List.mem_cons_of_mem _ hk)) ?_
    unfold ordS
    split
    · exact h0
    · exact h k (by simp) m h0 (by assumption)

/-- None is met twice. -/
theorem ord_nodup (ch : Nat → List Nat) : ∀ d a met, met.Nodup → a ∉ met → (ord ch d a met).Nodup
  | 0, a, met, h, k => by
    rw [ord_zero, List.nodup_append]
    exact ⟨h, by simp, fun x hx y hy => by rintro rfl; simp at hy; exact k (hy ▸ hx)⟩
  | d + 1, a, met, h, k => by
    rw [ord_succ]
    refine foldS_ind (P := List.Nodup) (fun k _ m hm hk => ord_nodup ch d k m hm hk) ?_
    rw [List.nodup_append]
    exact ⟨h, by simp, fun x hx y hy => by rintro rfl; simp at hy; exact k (hy ▸ hx)⟩
/-- All that are met are of what is closed. -/
theorem ord_in {ch : Nat → List Nat} {S : Nat → Prop} (hc : ∀ x, S x → ∀ k ∈ ch x, S k) : ∀ d a met, S a → (∀ x ∈ met, S x) → ∀ x ∈ ord ch d a met, S x
  | 0, a, met, ha, hm => fun x hx => by
    rw [ord_zero, List.mem_append, List.mem_singleton] at hx
    rcases hx with hx | rfl
    · exact hm x hx
    · exact ha
  | d + 1, a, met, ha, hm => by
    rw [ord_succ]
    refine foldS_ind (P := fun m => ∀ x ∈ m, S x) (fun k hk m hm _ => ord_in hc d k m (hc a ha k hk) hm) ?_
    intro x hx
    rw [List.mem_append, List.mem_singleton] at hx
    rcases hx with hx | rfl
    · exact hm x hx
    · exact ha
/-- What is met is met from one that is. -/
theorem ord_from (ch : Nat → List Nat) : ∀ d a met, ∀ x ∈ ord ch d a met, x ∈ met ∨ x = a ∨ ∃ y ∈ ord ch d a met, x ∈ ch y
  | 0, a, met, x, hx => by
    rw [ord_zero, List.mem_append, List.mem_singleton] at hx
    rcases hx with hx | hx
    · exact .inl hx
    · exact .inr (.inl hx)
  | d + 1, a, met, x, hx => by
    have key : ∀ (ks m : List Nat), (∀ k ∈ ks, k ∈ ch a) → a ∈ m → ∀ x ∈ ks.foldl (ordS ch d) m, x ∈ m ∨ ∃ y ∈ ks.foldl (ordS ch d) m, x ∈ ch y := by
      intro ks
      induction ks with
      | nil => intro m _ _ x hx; exact .inl hx
      | cons k ks ih =>
        intro m hk ha x hx
        rw [List.foldl_cons] at hx ⊢
        have ha' : a ∈ ordS ch d m k := by
          obtain ⟨r, hr⟩ := ordS_ext ch d m k
          rw [hr]; exact List.mem_append_left _ ha
        rcases ih (ordS ch d m k) (fun y hy => hk y (List.mem_cons_of_mem _ hy)) ha' x hx with h | h
        · by_cases hkm : k ∈ m
          · rw [ordS, if_pos hkm] at h
            exact .inl h
          · have h' := h
            rw [ordS, if_neg hkm] at h'
            rcases ord_from ch d k m x h' with h1 | rfl | ⟨y, hy, hxy⟩
            · exact .inl h1
            · exact .inr ⟨a, fold_sub ch d ks _ ha', hk x (by simp)⟩
            · refine .inr ⟨y, fold_sub ch d ks _ ?_, hxy⟩
              rw [ordS, if_neg hkm]; exact hy
        · exact .inr h
    rw [ord_succ] at hx ⊢
    rcases key (ch a) (met ++ [a]) (fun _ h => h) (by simp) x hx with h | h
    · rw [List.mem_append, List.mem_singleton] at h
      rcases h with h | h
      · exact .inl h
      · exact .inr (.inl h)
    · exact .inr (.inr h)
theorem nodup_len {n : Nat} {l : List Nat} (h : l.Nodup) (k : ∀ x ∈ l, x < n) : l.length ≤ n := by
  have := List.Nodup.length_le_of_subset h (l₂ := List.range n) (fun x hx => List.mem_range.2 (k x hx))
  simpa using this
/-- Where there is depth enough, each that is newly met has its children met. -/
theorem ord_closed {ch : Nat → List Nat} {n : Nat} (hc : ∀ x, x < n → ∀ k ∈ ch x, k < n) : ∀ d a met, a < n → (∀ x ∈ met, x < n) → met.Nodup → a ∉ met → n ≤ d + met.length → ∀ x ∈ ord ch d a met, x ∉ met → ∀ k ∈ ch x, k ∈ ord ch d a met
  | 0, a, met, ha, hm, hn, hk, hd => by
    exfalso
    have h1 := ord_nodup ch 0 a met hn hk
    have h2 := nodup_len h1 (ord_in (S := (· < n)) hc 0 a met ha hm)
    rw [ord_zero, List.length_append, List.length_singleton] at h2
    omega
  | d + 1, a, met, ha, hm, hn, hk, hd => by
    have key : ∀ (ks m : List Nat), (∀ k ∈ ks, k < n) → (∀ x ∈ m, x < n) → m.Nodup → n ≤ d + m.length → (∀ x ∈ ks.foldl (ordS ch d) m, x ∉ m → ∀ k ∈ ch x, k ∈ ks.foldl (ordS ch d) m) ∧ ∀ k ∈ ks, k ∈ ks.foldl (ordS ch d) m := by
      intro ks
      induction ks with
      | nil => intro m _ _ _ _; exact ⟨fun x hx h => absurd hx h, fun _ h => by cases h⟩
      | cons k ks ih =>
        intro m hks hm hn hd
        have hkn : k < n := hks k (by simp)
        have h1 : (∀ x ∈ ordS ch d m k, x < n) ∧ (ordS ch d m k).Nodup ∧ n ≤ d + (ordS ch d m k).length ∧ (∀ x ∈ ordS ch d m k, x ∉ m → ∀ j ∈ ch x, j ∈ ordS ch d m k) := by
          unfold ordS
          split
          · exact ⟨hm, hn, hd, fun x hx h => absurd hx h⟩
          · rename_i hkm
            refine ⟨ord_in (S := (· < n)) hc d k m hkn hm, ord_nodup ch d k m hn hkm, ?_, ord_closed hc d k m hkn hm hn hkm hd⟩
            obtain ⟨r, hr⟩ := ord_ext ch d k m
            rw [hr, List.length_append]; omega
        obtain ⟨a1, a2, a3, a4⟩ := h1
        obtain ⟨b1, b2⟩ := ih (ordS ch d m k) (fun y hy => hks y (List.mem_cons_of_mem _ hy)) a1 a2 a3
        rw [List.foldl_cons]
        refine ⟨fun x hx hxm j hj => ?_, fun j hj => ?_⟩
        · by_cases hx1 : x ∈ ordS ch d m k
          · exact fold_sub ch d ks _ (a4 x hx1 hxm j hj)
          · exact b1 x hx hx1 j hj
        · rcases List.mem_cons.1 hj with rfl | hj
          · exact fold_sub ch d ks _ (ordS_mem ch d m j)
          · exact b2 j hj
    have hm' : ∀ x ∈ met ++ [a], x < n := fun x hx => by
      rw [List.mem_append, List.mem_singleton] at hx
      rcases hx with hx | rfl
      · exact hm x hx
      · exact ha
    have hn' : (met ++ [a]).Nodup := ord_nodup ch 0 a met hn hk
    obtain ⟨b1, b2⟩ := key (ch a) (met ++ [a]) (hc a ha) hm' hn' (by rw [List.length_append, List.length_singleton]; omega)
    rw [ord_succ]
    intro x hx hxm j hj
    by_cases hxa : x = a
    · rw [hxa] at hj; exact b2 j hj
    · exact b1 x hx (by rw [List.mem_append, List.mem_singleton]; rintro (h | h); exact hxm h; exact hxa h) j hj
/-- Under other numbers what is met is met alike. -/
theorem ord_map {ch ch' : Nat → List Nat} {f : Nat → Nat} {S : Nat → Prop} (hc : ∀ x, S x → ∀ k ∈ ch x, S k) (hi : ∀ x y, S x → S y → f x = f y → x = y) (he : ∀ x, S x → ch' (f x) = (ch x).map f) : ∀ d a met, S a → (∀ x ∈ met, S x) → ord ch' d (f a) (met.map f) = (ord ch d a met).map f
  | 0, a, met, ha, hm => by rw [ord_zero, ord_zero, List.map_append]; rfl
  | d + 1, a, met, ha, hm => by
    have key : ∀ (ks m : List Nat), (∀ k ∈ ks, S k) → (∀ x ∈ m, S x) → (ks.map f).foldl (ordS ch' d) (m.map f) = (ks.foldl (ordS ch d) m).map f := by
      intro ks
      induction ks with
      | nil => intro m _ _; rfl
      | cons k ks ih =>
        intro m hks hm
        have hk := hks k (by simp)
        have hks' : ∀ j ∈ ks, S j := fun j hj => hks j (List.mem_cons_of_mem _ hj)
        rw [List.map_cons, List.foldl_cons, List.foldl_cons]
        have hiff : f k ∈ m.map f ↔ k ∈ m := by
          rw [List.mem_map]
          constructor
          · rintro ⟨y, hy, e⟩
            rw [← hi y k (hm y hy) hk e]; exact hy
          · intro h; exact ⟨k, h, rfl⟩
        by_cases h : k ∈ m
        · have h1 : ordS ch' d (m.map f) (f k) = m.map f := by rw [ordS, if_pos (hiff.2 h)]
          have h2 : ordS ch d m k = m := by rw [ordS, if_pos h]
          rw [h1, h2]
          exact ih m hks' hm
        · have h1 : ordS ch' d (m.map f) (f k) = (ord ch d k m).map f := by
            rw [ordS, if_neg (fun h' => h (hiff.1 h'))]
            exact ord_map hc hi he d k m hk hm
          have h2 : ordS ch d m k = ord ch d k m := by rw [ordS, if_neg h]
          rw [h1, h2]
          exact ih _ hks' (ord_in hc d k m hk hm)
    rw [ord_succ, ord_succ, he a ha]
    have : met.map f ++ [f a] = (met ++ [a]).map f := by simp
    rw [this]
    refine key (ch a) (met ++ [a]) (hc a ha) (fun x hx => ?_)
    rw [List.mem_append, List.mem_singleton] at hx
    rcases hx with hx | rfl
    · exact hm x hx
    · exact ha

/-- All as they are met from the root on. -/
def met (ch : Nat → List Nat) : List Nat := ord ch 60 0 []
theorem met_head (ch : Nat → List Nat) : ∃ r, met ch = 0 :: r := by
  obtain ⟨r, hr⟩ := ord_ext ch 60 0 []
  exact ⟨r, by rw [met, hr]; rfl⟩
theorem met_nodup (ch : Nat → List Nat) : (met ch).Nodup := ord_nodup ch 60 0 [] List.nodup_nil (by simp)
theorem met_zero (ch : Nat → List Nat) : 0 ∈ met ch := ord_self ch 60 0 []
theorem met_lt {ch : Nat → List Nat} {n : Nat} (hc : ∀ x, x < n → ∀ k ∈ ch x, k < n) (h0 : 0 < n) : ∀ x ∈ met ch, x < n := ord_in (S := (· < n)) hc 60 0 [] h0 (fun _ h => by cases h)
theorem met_len {ch : Nat → List Nat} {n : Nat} (hc : ∀ x, x < n → ∀ k ∈ ch x, k < n) (h0 : 0 < n) : (met ch).length ≤ n := nodup_len (met_nodup ch) (met_lt hc h0)
theorem met_closed {ch : Nat → List Nat} {n : Nat} (hc : ∀ x, x < n → ∀ k ∈ ch x, k < n) (h0 : 0 < n) (hn : n ≤ 60) : ∀ x ∈ met ch, ∀ k ∈ ch x, k ∈ met ch := fun x hx => ord_closed hc 60 0 [] h0 (fun _ h => by cases h) List.nodup_nil (by simp) (by simp; omega) x hx (by simp)
theorem met_from (ch : Nat → List Nat) : ∀ x ∈ met ch, x = 0 ∨ ∃ y ∈ met ch, x ∈ ch y := fun x hx => by
  rcases ord_from ch 60 0 [] x hx with h | h | h
  · cases h
  · exact .inl h
  · exact .inr h
/-- Nothing but what is closed is met. -/
theorem met_in {ch : Nat → List Nat} {S : Nat → Prop} (hc : ∀ x, S x → ∀ k ∈ ch x, S k) (h0 : S 0) : ∀ x ∈ met ch, S x := ord_in hc 60 0 [] h0 (fun _ h => by cases h)
theorem met_map {ch ch' : Nat → List Nat} {f : Nat → Nat} {S : Nat → Prop} (hc : ∀ x, S x → ∀ k ∈ ch x, S k) (hi : ∀ x y, S x → S y → f x = f y → x = y) (he : ∀ x, S x → ch' (f x) = (ch x).map f) (h0 : S 0) (f0 : f 0 = 0) : met ch' = (met ch).map f := by
  have := ord_map hc hi he 60 0 [] h0 (fun _ h => by cases h)
  rw [f0] at this
  exact this
/-- The place of a node among those that are met. -/
def plc (ch : Nat → List Nat) (k : Nat) : Nat := (met ch).idxOf k
theorem plc_zero (ch : Nat → List Nat) : plc ch 0 = 0 := by
  obtain ⟨r, hr⟩ := met_head ch
  rw [plc, hr]; simp
theorem plc_lt {ch : Nat → List Nat} {k : Nat} (h : k ∈ met ch) : plc ch k < (met ch).length := List.idxOf_lt_length_of_mem h
theorem met_plc {ch : Nat → List Nat} {k : Nat} (h : k ∈ met ch) : (met ch)[plc ch k]'(plc_lt h) = k := List.getElem_idxOf _
theorem plc_met {ch : Nat → List Nat} {i : Nat} (h : i < (met ch).length) : plc ch ((met ch)[i]) = i := (met_nodup ch).idxOf_getElem i h
theorem plc_inj {ch : Nat → List Nat} {x y : Nat} (hx : x ∈ met ch) (hy : y ∈ met ch) (h : plc ch x = plc ch y) : x = y := by
  have h1 := met_plc hx
  have h2 := met_plc hy
  rw [← h1, ← h2]
  simp only [h]
theorem map_plc (ch : Nat → List Nat) : (met ch).map (plc ch) = List.range (met ch).length := by
  refine List.ext_getElem (by simp) (fun i h1 h2 => ?_)
  rw [List.getElem_map, List.getElem_range]
  exact plc_met (by simpa using h1)
/-- Numbered anew, they are met in their order. -/
theorem met_num {ch ch' : Nat → List Nat} (hc : ∀ x ∈ met ch, ∀ k ∈ ch x, k ∈ met ch) (he : ∀ x ∈ met ch, ch' (plc ch x) = (ch x).map (plc ch)) : met ch' = List.range (met ch).length := by
  rw [met_map (S := (· ∈ met ch)) hc (fun x y => plc_inj) he (met_zero ch) (plc_zero ch), map_plc]
end Go.Proofs.YtinholnidchblaaGreatDoor

/-
  Trees, plainly: nodes by number, numbering anew, what is right; other numbers for the same tree; walks.
-/
namespace Go.Proofs.YtinholnidchblaaGreatDoor
set_option linter.unusedVariables false
set_option linter.unusedSimpArgs false

/-- A node. -/
structure Nd where
  k : Int
  l : Int
  d : List Int
  e : List En
deriving DecidableEq
instance : Inhabited Nd := ⟨⟨0, 0, [], []⟩⟩
/-- The node at a place. -/
def nat (L : List Nd) (i : Nat) : Nd := L.getD i default
theorem nat_get {L : List Nd} {i : Nat} (h : i < L.length) : nat L i = L[i] := by simp [nat, List.getD, h]
theorem nat_out {L : List Nd} {i : Nat} (h : L.length ≤ i) : nat L i = default := by simp [nat, List.getD, h]
theorem nat_ext {L M : List Nd} (h : L.length = M.length) (k : ∀ i, i < L.length → nat L i = nat M i) : L = M := by
  refine List.ext_getElem h (fun i h1 h2 => ?_)
  rw [← nat_get h1, ← nat_get h2]
  exact k i h1
theorem nat_set (L : List Nd) (i j : Nat) (x : Nd) (h : i < L.length) : nat (L.set i x) j = if i = j then x else nat L j := by
  simp only [nat, List.getD_eq_getElem?_getD, List.getElem?_set]
  split
  · rfl
  · rfl
theorem nat_map {α : Type} (f : α → Nd) (l : List α) {i : Nat} (h : i < l.length) : nat (l.map f) i = f l[i] := by
  rw [nat_get (by simpa using h), List.getElem_map]
/-- Is it a directory? -/
def isD (x : Nd) : Bool := x.k == 2
/-- The place that an entry tells. -/
def inoN (x : En) : Nat := x.i.toNat
/-- The places that its entries tell. -/
def inos (x : Nd) : List Nat := x.e.map inoN
/-- The places in a tree that a node's entries tell. -/
def chs (L : List Nd) (a : Nat) : List Nat := inos (nat L a)
/-- An entry with another number. -/
def setI (f : Nat → Nat) (y : En) : En := ⟨y.s, (f (inoN y) : Int)⟩
theorem inoN_setI (f : Nat → Nat) (y : En) : inoN (setI f y) = f (inoN y) := by simp [inoN, setI]
/-- A node with other numbers, its links aside. -/
def ren (f : Nat → Nat) (x : Nd) : Nd := ⟨x.k, 0, x.d, x.e.map (setI f)⟩
theorem inos_ren (f : Nat → Nat) (x : Nd) : inos (ren f x) = (inos x).map f := by
  simp only [inos, ren, List.map_map]
  congr 1
theorem isD_ren (f : Nat → Nat) (x : Nd) : isD (ren f x) = isD x := rfl
theorem ren_ren (f g : Nat → Nat) (x : Nd) : ren g (ren f x) = ren (fun a => g (f a)) x := by
  simp only [ren, List.map_map]
  congr 2
theorem ren_congr {f g : Nat → Nat} {x : Nd} (h : ∀ k ∈ inos x, f k = g k) : ren f x = ren g x := by
  simp only [ren]
  congr 1
  refine List.map_congr_left fun y hy => ?_
  simp only [setI]
  rw [h (inoN y) (List.mem_map.2 ⟨y, hy, rfl⟩)]
/-- Numbered anew, links aside. -/
def numR (L : List Nd) : List Nd := (met (chs L)).map fun a => ren (plc (chs L)) (nat L a)
theorem numR_len (L : List Nd) : (numR L).length = (met (chs L)).length := by simp [numR]
theorem nat_numR {L : List Nd} {x : Nat} (h : x ∈ met (chs L)) : nat (numR L) (plc (chs L) x) = ren (plc (chs L)) (nat L x) := by
  rw [numR, nat_map _ _ (plc_lt h), met_plc h]
/-- The entries that tell a place. -/
def up (L : List Nd) (i : Nat) : Nat := ((List.range L.length).map fun a => (chs L a).count i).sum
/-- A node's links by the entries. -/
def lnk (L : List Nd) (i : Nat) : Int := if isD (nat L i) then 2 + ((inos (nat L i)).countP fun j => isD (nat L j) : Nat) else (up L i : Int)
/-- With the links that the entries tell. -/
def fixL (L : List Nd) : List Nd := (List.range L.length).map fun i => { nat L i with l := lnk L i }
theorem fixL_len (L : List Nd) : (fixL L).length = L.length := by simp [fixL]
theorem nat_fixL {L : List Nd} {i : Nat} (h : i < L.length) : nat (fixL L) i = { nat L i with l := lnk L i } := by
  rw [fixL, nat_map _ _ (by simpa using h), List.getElem_range]
theorem nat_fixE (L : List Nd) (i : Nat) : (nat (fixL L) i).e = (nat L i).e ∧ (nat (fixL L) i).k = (nat L i).k ∧ (nat (fixL L) i).d = (nat L i).d := by
  by_cases h : i < L.length
  · rw [nat_fixL h]; exact ⟨rfl, rfl, rfl⟩
  · rw [nat_out (by rw [fixL_len]; omega), nat_out (by omega)]; exact ⟨rfl, rfl, rfl⟩
theorem chs_fixL (L : List Nd) : chs (fixL L) = chs L := by
  funext a
  simp only [chs, inos, (nat_fixE L a).1]
theorem isD_fixL (L : List Nd) (i : Nat) : isD (nat (fixL L) i) = isD (nat L i) := by simp only [isD, (nat_fixE L i).2.1]
theorem up_fixL (L : List Nd) (i : Nat) : up (fixL L) i = up L i := by simp only [up, fixL_len, chs_fixL]
theorem lnk_fixL (L : List Nd) (i : Nat) : lnk (fixL L) i = lnk L i := by
  have h : inos (nat (fixL L) i) = inos (nat L i) := by simp only [inos, (nat_fixE L i).1]
  simp only [lnk, isD_fixL, up_fixL, h]
/-- Numbered anew. -/
def num (L : List Nd) : List Nd := fixL (numR L)

/-- Is it a file as it should be, links aside? -/
def fileOk (x : Nd) : Prop := x.k = 1 ∧ x.e = [] ∧ x.d.length ≤ 46368
/-- Is it a directory as it should be, links aside? -/
def dirOk (n : Nat) (x : Nd) : Prop := x.k = 2 ∧ x.d = [] ∧ x.e.length ≤ 64 ∧ (∀ y ∈ x.e, nmB y.s.data.toList = true ∧ 1 ≤ y.i ∧ y.i < n) ∧ ris x.e = true
/-- A right tree. -/
structure Rgt (L : List Nd) : Prop where
  pos : 1 ≤ L.length
  few : L.length ≤ 56
  root : isD (nat L 0) = true
  node : ∀ i, i < L.length → fileOk (nat L i) ∧ 1 ≤ (nat L i).l ∧ (nat L i).l ≤ 200 ∨ dirOk L.length (nat L i)
  met : met (chs L) = List.range L.length
  link : ∀ i, i < L.length → lnk L i = (nat L i).l
  one : ∀ i, 0 < i → i < L.length → isD (nat L i) = true → up L i = 1
/-- A tree that is right when it is numbered anew. -/
structure Snd (L : List Nd) : Prop where
  pos : 1 ≤ L.length
  few : L.length ≤ 56
  root : isD (nat L 0) = true
  node : ∀ i, i < L.length → fileOk (nat L i) ∨ dirOk L.length (nat L i)
  many : ∀ i, i < L.length → isD (nat L i) = false → up L i ≤ 200
  one : ∀ i, 0 < i → i < L.length → isD (nat L i) = true → up L i ≤ 1

theorem isD_file {x : Nd} (h : fileOk x) : isD x = false := by rw [isD, h.1]; rfl
theorem isD_dir {n : Nat} {x : Nd} (h : dirOk n x) : isD x = true := by rw [isD, h.1]; rfl
theorem node_ino {n : Nat} {x : Nd} (h : fileOk x ∨ dirOk n x) : ∀ k ∈ inos x, 1 ≤ k ∧ k < n := by
  intro k hk
  obtain ⟨y, hy, rfl⟩ := List.mem_map.1 hk
  rcases h with h | h
  · rw [h.2.1] at hy; cases hy
  · have := (h.2.2.2.1 y hy).2
    unfold inoN
    omega
theorem Rgt.snd {L : List Nd} (h : Rgt L) : Snd L := by
  refine ⟨h.pos, h.few, h.root, fun i hi => ?_, fun i hi hd => ?_, fun i h0 hi hd => by rw [h.one i h0 hi hd]; omega⟩
  · rcases h.node i hi with h | h
    · exact .inl h.1
    · exact .inr h
  · have h1 := h.link i hi
    rw [lnk, hd, if_neg (by decide)] at h1
    rcases h.node i hi with h2 | h2
    · have := h2.2.2
      omega
    · rw [isD_dir h2] at hd; cases hd
theorem Snd.ino {L : List Nd} (h : Snd L) {i : Nat} (hi : i < L.length) : ∀ k ∈ chs L i, 1 ≤ k ∧ k < L.length := node_ino (h.node i hi)
theorem Snd.lt {L : List Nd} (h : Snd L) : ∀ x, x < L.length → ∀ k ∈ chs L x, k < L.length := fun x hx k hk => (h.ino hx k hk).2
theorem Snd.closed {L : List Nd} (h : Snd L) : ∀ x ∈ met (chs L), ∀ k ∈ chs L x, k ∈ met (chs L) := met_closed h.lt (by have := h.pos; omega) (by have := h.few; omega)
theorem Snd.metlt {L : List Nd} (h : Snd L) : ∀ x ∈ met (chs L), x < L.length := met_lt h.lt (by have := h.pos; omega)
theorem Snd.metlen {L : List Nd} (h : Snd L) : (met (chs L)).length ≤ L.length := met_len h.lt (by have := h.pos; omega)

/-- A right tree has its numbers. -/
theorem Rgt.plc {L : List Nd} (h : Rgt L) {i : Nat} (hi : i < L.length) : plc (chs L) i = i := by
  have h1 : i < (Go.Proofs.YtinholnidchblaaGreatDoor.met (chs L)).length := by rw [h.met]; simpa using hi
  have h2 := plc_met h1
  have h3 : (Go.Proofs.YtinholnidchblaaGreatDoor.met (chs L))[i] = i := by simp [h.met]
  rw [h3] at h2
  exact h2
theorem Rgt.numR {L : List Nd} (h : Rgt L) {i : Nat} (hi : i < L.length) : nat (numR L) i = { nat L i with l := 0 } := by
  have h0 : i ∈ Go.Proofs.YtinholnidchblaaGreatDoor.met (chs L) := by rw [h.met]; exact List.mem_range.2 hi
  have h1 := nat_numR h0
  rw [h.plc hi] at h1
  rw [h1]
  have h2 : ren (Go.Proofs.YtinholnidchblaaGreatDoor.plc (chs L)) (nat L i) = ren id (nat L i) := ren_congr fun k hk => h.plc (h.snd.lt i hi k hk)
  rw [h2]
  simp only [ren]
  congr 1
  refine (List.map_congr_left (g := id) fun y hy => ?_).trans (List.map_id _)
  have := h.snd.ino hi (inoN y) (List.mem_map.2 ⟨y, hy, rfl⟩)
  have e : ((inoN y : Nat) : Int) = y.i := by unfold inoN at *; omega
  simp only [setI, id]
  exact En.ext' rfl e
theorem Rgt.num {L : List Nd} (h : Rgt L) : num L = L := by
  have hl : (Go.Proofs.YtinholnidchblaaGreatDoor.numR L).length = L.length := by rw [numR_len, h.met, List.length_range]
  have hc : chs (Go.Proofs.YtinholnidchblaaGreatDoor.numR L) = chs L := by
    funext a
    by_cases ha : a < L.length
    · simp only [chs, inos, h.numR ha]
    · simp only [chs]
      rw [nat_out (by omega), nat_out (by omega)]
  have hd : ∀ i, isD (nat (Go.Proofs.YtinholnidchblaaGreatDoor.numR L) i) = isD (nat L i) := fun i => by
    by_cases ha : i < L.length
    · rw [h.numR ha]; rfl
    · rw [nat_out (by omega), nat_out (by omega)]
  have hk : ∀ i, lnk (Go.Proofs.YtinholnidchblaaGreatDoor.numR L) i = lnk L i := fun i => by
    have e : inos (nat (Go.Proofs.YtinholnidchblaaGreatDoor.numR L) i) = inos (nat L i) := congrFun hc i
    simp only [lnk, up, hl, hc, hd, e]
  unfold Go.Proofs.YtinholnidchblaaGreatDoor.num
  refine nat_ext (by rw [fixL_len, hl]) (fun i hi => ?_)
  rw [fixL_len, hl] at hi
  rw [nat_fixL (by omega), h.numR hi, hk, h.link i hi]

theorem count_map_inj {f : Nat → Nat} {x : Nat} : ∀ {l : List Nat}, (∀ y ∈ l, f y = f x → y = x) → (l.map f).count (f x) = l.count x
  | [], _ => rfl
  | y :: l, h => by
    rw [List.map_cons, List.count_cons, List.count_cons, count_map_inj (fun z hz => h z (List.mem_cons_of_mem _ hz))]
    congr 1
    by_cases e : y = x
    · rw [e]; simp
    · have : f y ≠ f x := fun e' => e (h y (by simp) e')
      simp [e, this]
theorem sum_sub {g : Nat → Nat} {l : List Nat} {n : Nat} (h : l.Nodup) (k : ∀ x ∈ l, x < n) : (l.map g).sum ≤ ((List.range n).map g).sum := by
  have hp : List.Perm (l ++ (List.range n).filter fun x => !(l.contains x)) (List.range n) := by
    rw [List.perm_ext_iff_of_nodup]
    · intro a
      rw [List.mem_append, List.mem_filter, List.mem_range]
      constructor
      · rintro (h | h)
        · exact k a h
        · exact h.1
      · intro ha
        by_cases hm : a ∈ l
        · exact .inl hm
        · exact .inr ⟨ha, by simpa using hm⟩
    · rw [List.nodup_append]
      refine ⟨h, List.Pairwise.filter _ List.nodup_range, fun x hx y hy => ?_⟩
      rintro rfl
      have := (List.mem_filter.1 hy).2
      simp [hx] at this
    · exact List.nodup_range
  have := (hp.map g).sum_nat
  rw [List.map_append, List.sum_append] at this
  omega
theorem sum_mem {g : Nat → Nat} {l : List Nat} {x : Nat} (h : x ∈ l) : g x ≤ (l.map g).sum := by
  induction l with
  | nil => cases h
  | cons y l ih =>
    rw [List.map_cons, List.sum_cons]
    rcases List.mem_cons.1 h with rfl | h
    · omega
    · have := ih h; omega
/-- The entries that tell a place, among those that are met. -/
theorem Snd.up_num {L : List Nd} (h : Snd L) {x : Nat} (hx : x ∈ met (chs L)) : up (numR L) (plc (chs L) x) = ((met (chs L)).map fun a => (chs L a).count x).sum := by
  have h1 : up (numR L) (plc (chs L) x) = ((List.range (met (chs L)).length).map fun a => (chs (numR L) a).count (plc (chs L) x)).sum := by rw [up, numR_len]
  rw [h1, ← map_plc, List.map_map]
  congr 1
  refine List.map_congr_left fun a ha => ?_
  simp only [Function.comp]
  have e : chs (numR L) (plc (chs L) a) = (chs L a).map (plc (chs L)) := by
    simp only [chs]
    rw [nat_numR ha, inos_ren]
  rw [e]
  exact count_map_inj fun y hy e => plc_inj (h.closed a ha y hy) hx e
theorem Snd.up_le {L : List Nd} (h : Snd L) {x : Nat} (hx : x ∈ met (chs L)) : up (numR L) (plc (chs L) x) ≤ up L x := by
  rw [h.up_num hx, up]
  exact sum_sub (g := fun a => (chs L a).count x) (met_nodup _) h.metlt
theorem Snd.up_pos {L : List Nd} (h : Snd L) {x : Nat} (hx : x ∈ met (chs L)) (h0 : x ≠ 0) : 1 ≤ up (numR L) (plc (chs L) x) := by
  rw [h.up_num hx]
  rcases met_from (chs L) x hx with rfl | ⟨y, hy, hxy⟩
  · exact absurd rfl h0
  · have h1 := sum_mem (g := fun a => (chs L a).count x) hy
    have h2 := List.count_pos_iff.2 hxy
    have h3 : 1 ≤ (chs L y).count x := h2
    exact Nat.le_trans h3 h1
theorem ris_setI {f : Nat → Nat} : ∀ {l : List En}, ris (l.map (setI f)) = ris l
  | [] => rfl
  | [_] => rfl
  | x :: y :: r => by
    have := ris_setI (f := f) (l := y :: r)
    rw [List.map_cons] at this
    rw [List.map_cons, List.map_cons, ris, ris, this]
    rfl
theorem plc_pos {L : List Nd} {x : Nat} (hx : x ∈ met (chs L)) (h0 : x ≠ 0) : 1 ≤ plc (chs L) x := by
  by_cases e : plc (chs L) x = 0
  · exact absurd (plc_inj hx (met_zero _) (by rw [e, plc_zero])) h0
  · omega
/-- Numbered anew, it is right. -/
theorem Snd.right {L : List Nd} (h : Snd L) : Rgt (num L) := by
  have hl : (num L).length = (met (chs L)).length := by rw [num, fixL_len, numR_len]
  have hpos : 0 < (met (chs L)).length := by
    obtain ⟨r, hr⟩ := met_head (chs L)
    rw [hr]; simp
  have hat : ∀ i, i < (met (chs L)).length → ∃ x, x ∈ met (chs L) ∧ plc (chs L) x = i ∧ nat (numR L) i = ren (plc (chs L)) (nat L x) := fun i hi => by
    refine ⟨_, List.getElem_mem hi, plc_met hi, ?_⟩
    have := nat_numR (List.getElem_mem hi)
    rw [plc_met hi] at this
    exact this
  have hc : chs (num L) = chs (numR L) := chs_fixL _
  have hroot : isD (nat (numR L) 0) = true := by
    have := nat_numR (met_zero (chs L))
    rw [plc_zero] at this
    rw [this, isD_ren]; exact h.root
  refine ⟨by omega, by have := h.metlen; have := h.few; omega, by rw [num, isD_fixL]; exact hroot, fun i hi => ?_, ?_, fun i hi => ?_, fun i h0 hi hd => ?_⟩
  · rw [hl] at hi
    obtain ⟨x, hx, hp, e⟩ := hat i hi
    have hn : nat (num L) i = { ren (plc (chs L)) (nat L x) with l := lnk (numR L) i } := by rw [num, nat_fixL (by rw [numR_len]; exact hi), e]
    rcases h.node x (h.metlt x hx) with hf | hd
    · left
      have hfd : isD (nat (numR L) i) = false := by rw [e, isD_ren]; exact isD_file hf
      have hlk : lnk (numR L) i = (up (numR L) i : Int) := by rw [lnk, hfd, if_neg (by decide)]
      have hx0 : x ≠ 0 := by
        rintro rfl
        have := h.root
        rw [isD_file hf] at this; cases this
      have u1 := h.up_le hx
      have u2 := h.up_pos hx hx0
      have u3 := h.many x (h.metlt x hx) (isD_file hf)
      rw [hp] at u1 u2
      rw [hn]
      refine ⟨⟨hf.1, ?_, hf.2.2⟩, ?_, ?_⟩
      · show (nat L x).e.map _ = []
        rw [hf.2.1]; rfl
      · show 1 ≤ lnk (numR L) i
        rw [hlk]; omega
      · show lnk (numR L) i ≤ 200
        rw [hlk]; omega
    · right
      rw [hn, hl]
      refine ⟨hd.1, hd.2.1, ?_, ?_, ?_⟩
      · show ((nat L x).e.map _).length ≤ 64
        rw [List.length_map]; exact hd.2.2.1
      · intro y hy
        obtain ⟨z, hz, rfl⟩ := List.mem_map.1 hy
        have h1 := hd.2.2.2.1 z hz
        have h2 := h.closed x hx (inoN z) (List.mem_map.2 ⟨z, hz, rfl⟩)
        refine ⟨h1.1, ?_, ?_⟩
        · have := plc_pos h2 (by unfold inoN; omega)
          simp only [setI]; omega
        · have := plc_lt h2
          simp only [setI]; omega
      · show ris ((nat L x).e.map _) = true
        rw [ris_setI]; exact hd.2.2.2.2
  · rw [hc, hl]
    refine met_num h.closed fun x hx => ?_
    simp only [chs]
    rw [nat_numR hx, inos_ren]
  · rw [hl] at hi
    have : (nat (num L) i).l = lnk (numR L) i := by rw [num, nat_fixL (by rw [numR_len]; exact hi)]
    rw [this, num, lnk_fixL]
  · rw [hl] at hi
    obtain ⟨x, hx, hp, e⟩ := hat i hi
    have hx0 : x ≠ 0 := by
      rintro rfl
      rw [plc_zero] at hp; omega
    have hdx : isD (nat L x) = true := by
      rw [num, isD_fixL, e, isD_ren] at hd
      exact hd
    have u1 := h.up_le hx
    have u2 := h.up_pos hx hx0
    have u3 := h.one x (by omega) (h.metlt x hx) hdx
    rw [hp] at u1 u2
    rw [num, up_fixL]
    omega

/-- The same tree by other numbers, as far as S goes. -/
structure Iso (L M : List Nd) (f : Nat → Nat) (S : Nat → Prop) : Prop where
  z : S 0
  f0 : f 0 = 0
  cl : ∀ x, S x → ∀ k ∈ chs L x, S k
  inj : ∀ x y, S x → S y → f x = f y → x = y
  node : ∀ x, S x → ren id (nat M (f x)) = ren f (nat L x)
theorem ren_id_inos {x : Nd} : inos (ren id x) = inos x := by rw [inos_ren]; simp
theorem Iso.chs {L M : List Nd} {f : Nat → Nat} {S : Nat → Prop} (h : Iso L M f S) {x : Nat} (hx : S x) : chs M (f x) = (chs L x).map f := by
  have := congrArg inos (h.node x hx)
  rw [ren_id_inos, inos_ren] at this
  exact this
theorem Iso.met {L M : List Nd} {f : Nat → Nat} {S : Nat → Prop} (h : Iso L M f S) : met (Go.Proofs.YtinholnidchblaaGreatDoor.chs M) = (met (Go.Proofs.YtinholnidchblaaGreatDoor.chs L)).map f :=
  met_map h.cl h.inj (fun x hx => h.chs hx) h.z h.f0
theorem idxOf_map {f : Nat → Nat} {x : Nat} : ∀ {l : List Nat}, (∀ y ∈ l, f y = f x → y = x) → (l.map f).idxOf (f x) = l.idxOf x
  | [], _ => rfl
  | y :: l, h => by
    rw [List.map_cons, List.idxOf_cons, List.idxOf_cons, idxOf_map (fun z hz => h z (List.mem_cons_of_mem _ hz))]
    by_cases e : y = x
    · rw [e]; simp
    · have : f y ≠ f x := fun e' => e (h y (by simp) e')
      have e1 : (f y == f x) = false := by simpa using this
      have e2 : (y == x) = false := by simpa using e
      rw [e1, e2]
theorem Iso.plc {L M : List Nd} {f : Nat → Nat} {S : Nat → Prop} (h : Iso L M f S) {x : Nat} (hx : S x) : plc (Go.Proofs.YtinholnidchblaaGreatDoor.chs M) (f x) = plc (Go.Proofs.YtinholnidchblaaGreatDoor.chs L) x := by
  unfold Go.Proofs.YtinholnidchblaaGreatDoor.plc
  rw [h.met]
  exact idxOf_map fun y hy e => h.inj y x (met_in h.cl h.z y hy) hx e
/-- Numbered anew they are one. -/
theorem Iso.numR {L M : List Nd} {f : Nat → Nat} {S : Nat → Prop} (h : Iso L M f S) : numR M = numR L := by
  unfold Go.Proofs.YtinholnidchblaaGreatDoor.numR
  rw [h.met, List.map_map]
  refine List.map_congr_left fun x hx => ?_
  have hS := met_in h.cl h.z x hx
  simp only [Function.comp]
  have h1 : ren (Go.Proofs.YtinholnidchblaaGreatDoor.plc (Go.Proofs.YtinholnidchblaaGreatDoor.chs M)) (nat M (f x)) = ren (Go.Proofs.YtinholnidchblaaGreatDoor.plc (Go.Proofs.YtinholnidchblaaGreatDoor.chs M)) (ren id (nat M (f x))) := by
    rw [ren_ren]; rfl
  rw [h1, h.node x hS, ren_ren]
  exact ren_congr fun k hk => h.plc (h.cl x hS k hk)
theorem Iso.num {L M : List Nd} {f : Nat → Nat} {S : Nat → Prop} (h : Iso L M f S) : num M = num L := by rw [Go.Proofs.YtinholnidchblaaGreatDoor.num, Go.Proofs.YtinholnidchblaaGreatDoor.num, h.numR]
/-- Numbering anew is such. -/
theorem Snd.iso {L : List Nd} (h : Snd L) : Iso L (num L) (plc (chs L)) (· ∈ met (chs L)) := by
  refine ⟨met_zero _, plc_zero _, h.closed, fun x y => plc_inj, fun x hx => ?_⟩
  have e : ren id (nat (num L) (plc (chs L) x)) = ren id (nat (numR L) (plc (chs L) x)) := by
    rw [num, nat_fixL (by rw [numR_len]; exact plc_lt hx)]
    rfl
  rw [e, nat_numR hx, ren_ren]
  rfl
end Go.Proofs.YtinholnidchblaaGreatDoor

/-
  Slices of nodes: what they hold.
-/
namespace Go.Proofs.YtinholnidchblaaGreatDoor
open Go.RowKit
set_option linter.unusedVariables false
set_option linter.unusedSimpArgs false

/-- A node, as a slice of nodes has it. -/
structure Nc where
  k : Int
  l : Int
  da : Option Addr
  dn : Nat
  dc : Nat
  d : List Int
  ea : Option Addr
  en : Nat
  ec : Nat
  e : List En
instance : Inhabited Nc := ⟨⟨0, 0, none, 0, 0, [], none, 0, 0, []⟩⟩
/-- The node that it is. -/
def Nc.nd (x : Nc) : Nd := ⟨x.k, x.l, x.d, x.e⟩
/-- A slice of entries that came in, with its room. -/
structure Enz (w : World) (a : Option Addr) (n c : Nat) (L : List En) : Prop where
  ens : Ens w a n L
  nil : a = none → n = 0 ∧ c = 0
  cap : n ≤ c
  max : c ≤ 9223372036854775807
theorem Enz.below {w w' : World} {a : Option Addr} {n c : Nat} {L : List En} (h : Enz w a n c L) {B : Nat} (hB : w.heap.size ≤ B) (hb : Below B w w') : Enz w' a n c L := ⟨h.ens.below hB hb, h.nil, h.cap, h.max⟩
theorem Enz.next {w w' : World} {a : Option Addr} {n c : Nat} {L : List En} (h : Enz w a n c L) (hb : Below w.heap.size w w') : Enz w' a n c L := h.below (Nat.le_refl _) hb
theorem Enz.zero (w : World) : Enz w none 0 0 [] := ⟨ens_nil _ _, fun _ => ⟨rfl, rfl⟩, Nat.le_refl _, by omega⟩
theorem OwnE.enz {w : World} {B : Nat} {v : Value} {n : Nat} {L : List En} (h : OwnE w B v n L) : ∃ a c, v = .slice a n c ∧ Enz w a n c L ∧ (∀ x, a = some x → B ≤ x.block ∧ x.block < w.heap.size) := by
  obtain ⟨a, c, hv, h1, h2, h3, h4, h5⟩ := h.ens
  exact ⟨a, c, hv, ⟨h1, h4, h2, h3⟩, h5⟩
/-- The slice at a, of n nodes. -/
structure Nds (w : World) (a : Option Addr) (n : Nat) (f : Nat → Nc) : Prop where
  place : n = 0 ∨ ∃ b off, a = some ⟨b, off, none⟩ ∧ b < w.heap.size ∧ ∀ i, i < n → w.cell? ⟨b, off + i * 4, none⟩ = some (.int .i64 (f i).k) ∧ w.cell? ⟨b, off + i * 4 + 1, none⟩ = some (.int .i64 (f i).l) ∧
    w.cell? ⟨b, off + i * 4 + 2, none⟩ = some (.slice (f i).da (f i).dn (f i).dc) ∧ w.cell? ⟨b, off + i * 4 + 3, none⟩ = some (.slice (f i).ea (f i).en (f i).ec)
  data : ∀ i, i < n → Pin w (f i).da (f i).dn (f i).dc (f i).d
  ents : ∀ i, i < n → Enz w (f i).ea (f i).en (f i).ec (f i).e
theorem Nds.below {w w' : World} {a : Option Addr} {n : Nat} {f : Nat → Nc} (h : Nds w a n f) {B : Nat} (hB : w.heap.size ≤ B) (hb : Below B w w') : Nds w' a n f := by
  refine ⟨?_, fun i hi => (h.data i hi).below hB hb, fun i hi => (h.ents i hi).below hB hb⟩
  rcases h.place with h0 | ⟨b, off, ha, hlt, hc⟩
  · exact .inl h0
  · refine .inr ⟨b, off, ha, Nat.lt_of_lt_of_le hlt hb.size, fun i hi => ?_⟩
    obtain ⟨c0, c1, c2, c3⟩ := hc i hi
    exact ⟨(hb.cell (p := ⟨b, off + i * 4, none⟩) (by show b < B; omega)).trans c0, (hb.cell (p := ⟨b, off + i * 4 + 1, none⟩) (by show b < B; omega)).trans c1,
      (hb.cell (p := ⟨b, off + i * 4 + 2, none⟩) (by show b < B; omega)).trans c2, (hb.cell (p := ⟨b, off + i * 4 + 3, none⟩) (by show b < B; omega)).trans c3⟩
theorem Nds.next {w w' : World} {a : Option Addr} {n : Nat} {f : Nat → Nc} (h : Nds w a n f) (hb : Below w.heap.size w w') : Nds w' a n f := h.below (Nat.le_refl _) hb
theorem Nds.alloc {w : World} {a : Option Addr} {n : Nat} {f : Nat → Nc} (h : Nds w a n f) (o : Obj) : Nds (w.alloc o) a n f := h.next ((Below.refl _ _).alloc (Nat.le_refl _) o)
theorem Nds.drewN {w : World} {a : Option Addr} {n : Nat} {f : Nat → Nc} (h : Nds w a n f) (q : Nat) : Nds (w.drewN q) a n f := h.next (below_drewN (Below.refl _ _) q)
theorem Nds.at {w : World} {a : Option Addr} {n : Nat} {f : Nat → Nc} (h : Nds w a n f) {i : Nat} (hi : i < n) :
    ∃ b off, a = some ⟨b, off, none⟩ ∧ b < w.heap.size ∧ w.cell? ⟨b, off + i * 4, none⟩ = some (.int .i64 (f i).k) ∧ w.cell? ⟨b, off + i * 4 + 1, none⟩ = some (.int .i64 (f i).l) ∧
      w.cell? ⟨b, off + i * 4 + 2, none⟩ = some (.slice (f i).da (f i).dn (f i).dc) ∧ w.cell? ⟨b, off + i * 4 + 3, none⟩ = some (.slice (f i).ea (f i).en (f i).ec) := by
  rcases h.place with h0 | ⟨b, off, ha, hlt, hc⟩
  · omega
  · obtain ⟨c0, c1, c2, c3⟩ := hc i hi
    exact ⟨b, off, ha, hlt, c0, c1, c2, c3⟩
/-- The tree that a slice of nodes is. -/
def ndL (f : Nat → Nc) (n : Nat) : List Nd := (List.range n).map fun i => (f i).nd
theorem ndL_len (f : Nat → Nc) (n : Nat) : (ndL f n).length = n := by simp [ndL]
theorem nat_ndL {f : Nat → Nc} {n i : Nat} (h : i < n) : nat (ndL f n) i = (f i).nd := by
  rw [ndL, nat_map _ _ (by simpa using h), List.getElem_range]
end Go.Proofs.YtinholnidchblaaGreatDoor

/-
  Name, of the program and of the document, by contract.
-/
namespace Go.Proofs.YtinholnidchblaaGreatDoor
open Go.RowKit
set_option linter.unusedVariables false
set_option linter.unusedSimpArgs false

/-- The byte at a place, as a number. -/
def bat (l : List UInt8) (i : Nat) : Int := ((l.getD i 0).toNat : Int)
theorem bat_ok (l : List UInt8) (i : Nat) : okB (l.getD i 0) = !(bat l i == 0 || bat l i == 47) := by
  unfold bat okB
  generalize l.getD i 0 = b
  have h0 : (b == 0) = ((b.toNat : Int) == 0) := by
    rw [Bool.eq_iff_iff, beq_iff_eq, beq_iff_eq]
    constructor
    · intro h; subst h; rfl
    · intro e
      exact UInt8.toNat_inj.1 (by rw [show (0 : UInt8).toNat = 0 from rfl]; omega)
  have h1 : (b == 47) = ((b.toNat : Int) == 47) := by
    rw [Bool.eq_iff_iff, beq_iff_eq, beq_iff_eq]
    constructor
    · intro h; subst h; rfl
    · intro e
      exact UInt8.toNat_inj.1 (by rw [show (47 : UInt8).toNat = 47 from rfl]; omega)
  rw [h0, h1]
  cases ((b.toNat : Int) == 0) <;> cases ((b.toNat : Int) == 47) <;> rfl

set_option maxHeartbeats 1000000 in
theorem bad_any (x : Int) (w : World) : Calls Tryz.prog 127 #[.int .u8 x] w fun e w' => e = .returned (.bool (x == 0 || x == 47)) ∧ w' = w := by
  go_enter Tryz.func127, Tryz.ntmps127
  go_wp2
  all_goals go_ret
  all_goals refine ⟨?_, rfl⟩
  · simp [*]
  · rfl
/-- The bytes ahead of place k are those of a name. -/
def OkTo (l : List UInt8) (k : Nat) : Prop := ∀ j, j < k → okB (l.getD j 0) = true
theorem OkTo.zero (l : List UInt8) : OkTo l 0 := fun j h => by omega
theorem OkTo.succ {l : List UInt8} {k : Nat} (h : OkTo l k) (e : okB (l.getD k 0) = true) : OkTo l (k + 1) := fun j hj => by
  by_cases hk : j = k
  · rw [hk]; exact e
  · exact h j (by omega)
theorem OkTo.all {l : List UInt8} (h : OkTo l l.length) : l.all okB = true := by
  rw [List.all_eq_true]
  intro x hx
  obtain ⟨i, hi, rfl⟩ := List.getElem_of_mem hx
  have := h i hi
  simpa [List.getD, hi] using this
theorem not_all {l : List UInt8} {k : Nat} (hk : k < l.length) (e : okB (l.getD k 0) = false) : l.all okB = false := by
  rw [List.all_eq_false]
  refine ⟨l.getD k 0, by simp [List.getD, hk], by rw [e]; decide⟩
def IxI (w0 : World) (l : List UInt8) (v8 : Value) (w : World) : Prop := ∃ k : Nat, k ≤ l.length ∧ v8 = .int .i64 k ∧ w = w0 ∧ OkTo l k
set_option maxHeartbeats 1000000 in
theorem indexB_any (w : World) (b n c : Nat) (l : List UInt8) (hl : l.length = n) (hn : n ≤ 1000000) (hc : ∀ i, i < n → w.cell? ⟨b, i, none⟩ = some (.int .u8 (bat l i))) :
    Calls Tryz.prog 143 #[.slice (some ⟨b, 0, none⟩) n c, .func (.func 127) #[] #[]] w fun e w' => ∃ r : Int, e = .returned (.int .i64 r) ∧ decide (0 ≤ r) = !(l.all okB) ∧ w' = w := by
  subst hl
  go_enter Tryz.func143, Tryz.ntmps143
  go_wp2_with (fail)
  go_loopw [5, 8] (fun _ v wr => IxI w l v wr) (fun _ v _ => l.length - (RowKit.intOf v).toNat)
  case atStart => exact ⟨0, by omega, rfl, rfl, OkTo.zero _⟩
  case round =>
    obtain ⟨k, hk, rfl, rfl, hI⟩ := hrel
    have HI := Lib.hid hI
    clear hI
    by_cases hlt : k < l.length
    · have k1 : (k : Int) < (l.length : Int) := by omega
      have k0 : (0 : Int) ≤ (k : Int) := by omega
      have x1 := hc k hlt
      clear hc
      cases hb : okB (l.getD k 0) with
      | true =>
        have hbb := bat_ok l k
        rw [hb] at hbb
        have hbf : (bat l k == 0 || bat l k == 47) = false := by simpa using hbb.symm
        have hcall := bad_any (bat l k) wr
        rw [hbf] at hcall
        clear hbb hbf
        go_wp2_with (fail)
        refine hcall.mono ?_
        rintro e w' ⟨rfl, rfl⟩
        go_wp2_with (fail)
        go_roundw
        case rel => exact ⟨k + 1, by omega, by go_num, rfl, HI.out.succ hb⟩
        case measure => simp [RowKit.intOf]; omega
      | false =>
        have hbb := bat_ok l k
        rw [hb] at hbb
        have hbf : (bat l k == 0 || bat l k == 47) = true := by
          cases h : (bat l k == 0 || bat l k == 47) with
          | true => rfl
          | false => rw [h] at hbb; cases hbb
        have hcall := bad_any (bat l k) wr
        rw [hbf] at hcall
        clear hbb hbf
        go_wp2_with (fail)
        refine hcall.mono ?_
        rintro e w' ⟨rfl, rfl⟩
        go_wp2_with (fail)
        go_ret
        exact ⟨k, rfl, by rw [not_all hlt hb]; simp, rfl⟩
    · obtain rfl : k = l.length := by omega
      clear hc
      go_wp2_with (fail)
      go_ret
      exact ⟨-1, rfl, by rw [HI.out.all]; rfl, rfl⟩
set_option maxHeartbeats 1000000 in
theorem containsB_any (w : World) (b n c : Nat) (l : List UInt8) (hl : l.length = n) (hn : n ≤ 1000000) (hc : ∀ i, i < n → w.cell? ⟨b, i, none⟩ = some (.int .u8 (bat l i))) :
    Calls Tryz.prog 126 #[.slice (some ⟨b, 0, none⟩) n c, .func (.func 127) #[] #[]] w fun e w' => e = .returned (.bool (!(l.all okB))) ∧ w' = w := by
  have hi := indexB_any w b n c l hl hn hc
  clear hc
  go_enter Tryz.func126, Tryz.ntmps126
  go_wp2_with (fail)
  refine hi.mono ?_
  rintro e w' ⟨r, rfl, hr, rfl⟩
  go_wp2_with (fail)
  go_ret
  exact ⟨by rw [← hr]; rfl, rfl⟩
theorem nmB_short {l : List UInt8} (h : l.length < 1) : nmB l = false := by unfold nmB; rw [decide_eq_false (by omega : ¬ 1 ≤ l.length)]; rfl
theorem nmB_long {l : List UInt8} (h : 12 < l.length) : nmB l = false := by unfold nmB; rw [decide_eq_false (by omega : ¬ l.length ≤ 12), Bool.and_false]; rfl
theorem nmB_all {l : List UInt8} (h1 : 1 ≤ l.length) (h2 : l.length ≤ 12) (h3 : l ≠ [46]) (h4 : l ≠ [46, 46]) : nmB l = l.all okB := by
  unfold nmB
  rw [decide_eq_true h1, decide_eq_true h2, beq_eq_false_iff_ne.2 h3, beq_eq_false_iff_ne.2 h4]
  simp
theorem byte_at (s : ByteArray) {k : Nat} (h : k < s.size) : (((s[k]'h).toNat : Nat) : Int) = bat s.data.toList k := by
  unfold bat
  have h' : k < s.data.toList.length := by rw [← Lib.size_eq]; exact h
  have : s.data.toList.getD k 0 = s[k]'h := by simp only [List.getD, List.getElem?_eq_getElem h', Option.getD_some]; rfl
  rw [this]
theorem bytes_cell (w : World) (s : ByteArray) : ∀ i, i < s.data.toList.length → (Lib.bytesWorld w 5 s).cell? ⟨w.heap.size, i, none⟩ = some (.int .u8 (bat s.data.toList i)) := fun i hi =>
  Lib.bytesWorld_cell w 5 s i (by rw [Lib.size_eq]; exact hi)
theorem bytes_below (w : World) (s : ByteArray) : Below w.heap.size w (Lib.bytesWorld w 5 s) :=
  ⟨rfl, rfl, rfl, by rw [Lib.bytesWorld_size]; omega, fun k hk => Lib.bytesWorld_at_old w 5 s k hk⟩
set_option maxHeartbeats 1000000 in
theorem name_any (s : ByteArray) (w : World) : Calls Tryz.prog 94 #[.string s] w fun e w' => e = .returned (.bool (nmB s.data.toList)) ∧ Below w.heap.size w w' := by
  by_cases h1 : s.size < 1
  · have k1 : (s.size : Int) < 1 := by omega
    go_enter Tryz.func94, Tryz.ntmps94
    go_wp2_with (fail)
    go_ret
    exact ⟨by rw [nmB_short (by rw [← Lib.size_eq]; omega)]; rfl, Below.refl _ _⟩
  have k1 : ¬ (s.size : Int) < 1 := by omega
  by_cases h2 : 12 < s.size
  · have k2 : (12 : Int) < (s.size : Int) := by omega
    go_enter Tryz.func94, Tryz.ntmps94
    go_wp2_with (fail)
    go_ret
    exact ⟨by rw [nmB_long (by rw [← Lib.size_eq]; omega)]; rfl, Below.refl _ _⟩
  have k2 : ¬ (12 : Int) < (s.size : Int) := by omega
  by_cases h3 : s = ⟨#[46]⟩
  · subst h3
    clear k1 k2 h1 h2
    go_enter Tryz.func94, Tryz.ntmps94
    go_wp2_with (fail)
    go_ret
    exact ⟨rfl, Below.refl _ _⟩
  by_cases h4 : s = ⟨#[46, 46]⟩
  · subst h4
    clear k1 k2 h1 h2 h3
    go_enter Tryz.func94, Tryz.ntmps94
    go_wp2_with (fail)
    go_ret
    exact ⟨rfl, Below.refl _ _⟩
  have n3 : s.data.toList ≠ [46] := fun e => h3 (by rw [← tx_data s, e]; rfl)
  have n4 : s.data.toList ≠ [46, 46] := fun e => h4 (by rw [← tx_data s, e]; rfl)
  have m3 : (s.toList == [46]) = false := by rw [Lib.toList_data]; exact beq_eq_false_iff_ne.2 n3
  have m4 : (s.toList == [46, 46]) = false := by rw [Lib.toList_data]; exact beq_eq_false_iff_ne.2 n4
  have hnm := Lib.hid (nmB_all (l := s.data.toList) (by rw [← Lib.size_eq]; omega) (by rw [← Lib.size_eq]; omega) n3 n4)
  have hcv := Lib.run_convert_string_bytes (P := Tryz.prog) w 9 29 5 s Tryz.underlying9 Tryz.underlying29 Tryz.underlying5
  have hct := containsB_any (Lib.bytesWorld w 5 s) w.heap.size s.size (grownCap w s.size 0 5) s.data.toList (Lib.size_eq s).symm (by omega) (fun i hi => bytes_cell w s i (by rw [← Lib.size_eq]; exact hi))
  have HB := Lib.hid (bytes_below w s)
  clear h1 h2 h3 h4 n3 n4
  go_enter Tryz.func94, Tryz.ntmps94
  go_wp2_with (fail)
  refine hct.mono ?_
  rintro e w' ⟨rfl, rfl⟩
  go_wp2_with (fail)
  go_ret
  exact ⟨by rw [hnm.out]; simp, HB.out⟩
set_option maxHeartbeats 1000000 in
theorem rname_any (s : ByteArray) (w : World) : Calls Tryz.prog 89 #[.string s] w fun e w' => e = .returned (.bool (nmB s.data.toList)) ∧ w' = w := by
  by_cases h1 : s.size < 1
  · have k1 : (s.size : Int) < 1 := by omega
    go_enter Tryz.func89, Tryz.ntmps89
    go_wp2_with (fail)
    go_ret
    exact ⟨by rw [nmB_short (by rw [← Lib.size_eq]; omega)]; rfl, rfl⟩
  have k1 : ¬ (s.size : Int) < 1 := by omega
  by_cases h2 : 12 < s.size
  · have k2 : (12 : Int) < (s.size : Int) := by omega
    go_enter Tryz.func89, Tryz.ntmps89
    go_wp2_with (fail)
    go_ret
    exact ⟨by rw [nmB_long (by rw [← Lib.size_eq]; omega)]; rfl, rfl⟩
  have k2 : ¬ (12 : Int) < (s.size : Int) := by omega
  by_cases h3 : s = ⟨#[46]⟩
  · subst h3
    clear k1 k2 h1 h2
    go_enter Tryz.func89, Tryz.ntmps89
    go_wp2_with (fail)
    go_ret
    exact ⟨rfl, rfl⟩
  by_cases h4 : s = ⟨#[46, 46]⟩
  · subst h4
    clear k1 k2 h1 h2 h3
    go_enter Tryz.func89, Tryz.ntmps89
    go_wp2_with (fail)
    go_ret
    exact ⟨rfl, rfl⟩
  have n3 : s.data.toList ≠ [46] := fun e => h3 (by rw [← tx_data s, e]; rfl)
  have n4 : s.data.toList ≠ [46, 46] := fun e => h4 (by rw [← tx_data s, e]; rfl)
  have m3 : (s.toList == [46]) = false := by rw [Lib.toList_data]; exact beq_eq_false_iff_ne.2 n3
  have m4 : (s.toList == [46, 46]) = false := by rw [Lib.toList_data]; exact beq_eq_false_iff_ne.2 n4
  have hnm := Lib.hid (nmB_all (l := s.data.toList) (by rw [← Lib.size_eq]; omega) (by rw [← Lib.size_eq]; omega) n3 n4)
  have hsz := Lib.hid (Lib.size_eq s)
  clear h3 h4 n3 n4
  go_enter Tryz.func89, Tryz.ntmps89
  go_wp2_with (fail)
  go_loopw [3] (fun v wr => ∃ k : Nat, k ≤ s.size ∧ v = .int .i64 k ∧ wr = w ∧ OkTo s.data.toList k) (fun v _ => s.size - (RowKit.intOf v).toNat)
  case atStart => exact ⟨0, by omega, rfl, rfl, OkTo.zero _⟩
  case round =>
    obtain ⟨k, hk, rfl, rfl, hI⟩ := hrel
    have HI := Lib.hid hI
    clear hI
    by_cases hlt : k < s.size
    · have k3 : (k : Int) < (s.size : Int) := by omega
      have k4 : (0 : Int) ≤ (k : Int) := by omega
      have hb := bat_ok s.data.toList k
      obtain ⟨x, hx⟩ : ∃ x, bat s.data.toList k = x := ⟨_, rfl⟩
      rw [hx] at hb
      have hat : (((s[k]'hlt).toNat : Nat) : Int) = x := by rw [← hx]; exact byte_at s hlt
      have hle : k < s.data.toList.length := by rw [← hsz.out]; exact hlt
      have HLE := Lib.hid hle
      have HBB := Lib.hid hb
      clear hb hx hle
      by_cases h0 : x = 0
      · have q0 : (x == 0) = true := by rw [h0]; rfl
        clear h0
        go_wp2_with (fail)
        go_ret
        exact ⟨by rw [hnm.out, not_all HLE.out (by rw [HBB.out, q0]; rfl)]; rfl, rfl⟩
      have q0 : (x == 0) = false := beq_eq_false_iff_ne.2 h0
      by_cases h7 : x = 47
      · have q7 : (x == 47) = true := by rw [h7]; rfl
        clear h0 h7
        go_wp2_with (fail)
        go_ret
        exact ⟨by rw [hnm.out, not_all HLE.out (by rw [HBB.out, q0, q7]; rfl)]; rfl, rfl⟩
      have q7 : (x == 47) = false := beq_eq_false_iff_ne.2 h7
      clear h0 h7
      go_wp2_with (fail)
      go_roundw
      case rel => exact ⟨k + 1, by omega, by go_num, trivial, HI.out.succ (by rw [HBB.out, q0, q7]; rfl)⟩
      case measure => simp [RowKit.intOf]; omega
    · obtain rfl : k = s.size := by omega
      go_wp2_with (fail)
      go_ret
      exact ⟨by rw [hnm.out, OkTo.all (by rw [← hsz.out]; exact HI.out)]; rfl, rfl⟩
end Go.Proofs.YtinholnidchblaaGreatDoor

/-
  The program's tests of entries: isWrong; slices.IndexFunc, slices.ContainsFunc and slices.DeleteFunc's closures, by contract.
-/
namespace Go.Proofs.YtinholnidchblaaGreatDoor
open Go.RowKit
set_option linter.unusedVariables false
set_option linter.unusedSimpArgs false

set_option maxHeartbeats 1000000 in
theorem wrong_any (x : En) (w : World) : Calls Tryz.prog 151 #[env x] w fun e w' => e = .returned (.bool (!okE x)) ∧ Below w.heap.size w w' := by
  obtain ⟨s, i⟩ := x
  have hn := name_any s (w.alloc (.cells #[.string s, .int .i64 i] 77 (0, 0)))
  have hb0 : Below w.heap.size w (w.alloc (.cells #[.string s, .int .i64 i] 77 (0, 0))) := (Below.refl _ _).alloc (Nat.le_refl _) _
  have c1 : (w.alloc (.cells #[.string s, .int .i64 i] 77 (0, 0))).cell? ⟨w.heap.size, 1, none⟩ = some (.int .i64 i) := by simp
  have HB := Lib.hid hb0
  have C1 := Lib.hid c1
  have hok : okE ⟨s, i⟩ = (nmB s.data.toList && decide (1 ≤ i) && decide (i ≤ 56)) := rfl
  have HOK := Lib.hid hok
  clear hb0 c1 hok
  unfold env
  simp only
  cases hm : nmB s.data.toList with
  | false =>
    rw [hm] at hn
    go_enter Tryz.func151, Tryz.ntmps151
    go_wp2_with (fail)
    refine hn.mono ?_
    rintro e w2 ⟨rfl, hb2⟩
    have HB2 := Lib.hid (HB.out.trans (hb2.mono HB.out.size))
    clear hb2 hn
    go_wp2_with (fail)
    go_ret
    exact ⟨by rw [HOK.out, hm]; rfl, HB2.out⟩
  | true =>
    rw [hm] at hn
    by_cases h1 : i < 1
    · go_enter Tryz.func151, Tryz.ntmps151
      go_wp2_with (fail)
      refine hn.mono ?_
      rintro e w2 ⟨rfl, hb2⟩
      have HB2 := Lib.hid (HB.out.trans (hb2.mono HB.out.size))
      have c1 := (hb2.cell (p := ⟨w.heap.size, 1, none⟩) (by simp)).trans C1.out
      clear hb2 hn
      go_wp2_with (fail)
      go_ret
      exact ⟨by rw [HOK.out, hm, decide_eq_false (by omega : ¬ 1 ≤ i)]; rfl, HB2.out⟩
    · by_cases h2 : 56 < i
      · go_enter Tryz.func151, Tryz.ntmps151
        go_wp2_with (fail)
        refine hn.mono ?_
        rintro e w2 ⟨rfl, hb2⟩
        have HB2 := Lib.hid (HB.out.trans (hb2.mono HB.out.size))
        have c1 := (hb2.cell (p := ⟨w.heap.size, 1, none⟩) (by simp)).trans C1.out
        clear hb2 hn
        go_wp2_with (fail)
        go_ret
        exact ⟨by rw [HOK.out, hm, decide_eq_false (by omega : ¬ i ≤ 56), Bool.and_false]; rfl, HB2.out⟩
      · go_enter Tryz.func151, Tryz.ntmps151
        go_wp2_with (fail)
        refine hn.mono ?_
        rintro e w2 ⟨rfl, hb2⟩
        have HB2 := Lib.hid (HB.out.trans (hb2.mono HB.out.size))
        have c1 := (hb2.cell (p := ⟨w.heap.size, 1, none⟩) (by simp)).trans C1.out
        clear hb2 hn
        go_wp2_with (fail)
        go_ret
        exact ⟨by rw [HOK.out, hm, decide_eq_true (by omega : 1 ≤ i), decide_eq_true (by omega : i ≤ 56)]; simp [h1, h2], HB2.out⟩

/-- What a closure answers: p, wherever all that lay in w0 lies still; it makes memory at most. -/
def Gives (g : FuncId) (lb : Array Value) (p : En → Bool) (w0 : World) : Prop :=
  ∀ (x : En) (w : World), Below w0.heap.size w0 w → Calls Tryz.prog g (#[env x] ++ lb) w fun e w' => e = .returned (.bool (p x)) ∧ Below w.heap.size w w'
/-- The first k entries don't meet p. -/
def NoTo (p : En → Bool) (L : List En) (k : Nat) : Prop := ∀ j, j < k → p (eat L j) = false
theorem NoTo.zero (p : En → Bool) (L : List En) : NoTo p L 0 := fun j h => by omega
theorem NoTo.succ {p : En → Bool} {L : List En} {k : Nat} (h : NoTo p L k) (e : p (eat L k) = false) : NoTo p L (k + 1) := fun j hj => by
  by_cases hk : j = k
  · rw [hk]; exact e
  · exact h j (by omega)
/-- IndexFunc's answer. -/
def IxO (p : En → Bool) (L : List En) (r : Int) : Prop := (r = -1 ∧ NoTo p L L.length) ∨ ∃ k : Nat, k < L.length ∧ r = (k : Int) ∧ NoTo p L k ∧ p (eat L k) = true
set_option maxHeartbeats 1000000 in
theorem index_any (g : FuncId) (lb : Array Value) (eg : ∀ args w, (callFunc g args).run Tryz.prog w = .ok (.enter g args) w) (p : En → Bool) (w : World) (hg : Gives g lb p w) (a : Option Addr) (n c : Nat) (L : List En) (h : Ens w a n L) (hn : n ≤ 1000000000000) :
    Calls Tryz.prog 138 #[.slice a n c, .func (.func g) #[] lb] w fun e w' => ∃ r : Int, e = .returned (.int .i64 r) ∧ IxO p L r ∧ Below w.heap.size w w' := by
  have hl := h.len
  subst hl
  go_enter Tryz.func138, Tryz.ntmps138
  go_wp2_with (fail)
  go_loopw [5, 8] (fun _ v wr => ∃ k : Nat, k ≤ L.length ∧ v = .int .i64 k ∧ Below w.heap.size w wr ∧ NoTo p L k) (fun _ v _ => L.length - (RowKit.intOf v).toNat)
  case atStart => exact ⟨0, by omega, rfl, Below.refl _ _, NoTo.zero _ _⟩
  case round =>
    obtain ⟨k, hk, rfl, hB, hI⟩ := hrel
    have HI := Lib.hid hI
    have HB := Lib.hid hB
    by_cases hlt : k < L.length
    · have k1 : (k : Int) < (L.length : Int) := by omega
      have k0 : (0 : Int) ≤ (k : Int) := by omega
      obtain ⟨b, off, rfl, hbl, hc1, hc2⟩ := h.at hlt
      have x1 := (hB.cell (p := ⟨b, off + k * 2, none⟩) hbl).trans hc1
      have x2 := (hB.cell (p := ⟨b, off + k * 2 + 1, none⟩) hbl).trans hc2
      have hcall := hg (eat L k) wr hB
      unfold env at hcall
      clear hc1 hc2 h hB hI hg
      cases hb : p (eat L k) with
      | false =>
        rw [hb] at hcall
        go_wp2_with (go_at_fn g; refine hcall.mono ?_; rintro e w' ⟨rfl, hb'⟩)
        have HB2 := Lib.hid (HB.out.trans (hb'.mono HB.out.size))
        clear hb' hcall
        go_roundw
        case rel => exact ⟨k + 1, by omega, by go_num, HB2.out, HI.out.succ hb⟩
        case measure => simp [RowKit.intOf]; omega
      | true =>
        rw [hb] at hcall
        go_wp2_with (go_at_fn g; refine hcall.mono ?_; rintro e w' ⟨rfl, hb'⟩)
        have HB2 := Lib.hid (HB.out.trans (hb'.mono HB.out.size))
        clear hb' hcall
        go_ret
        exact ⟨k, rfl, .inr ⟨k, hlt, rfl, HI.out, hb⟩, HB2.out⟩
    · obtain rfl : k = L.length := by omega
      clear h hB hI hg
      go_wp2_with (fail)
      go_ret
      exact ⟨-1, rfl, .inl ⟨rfl, HI.out⟩, HB.out⟩
theorem IxO.any {p : En → Bool} {L : List En} {r : Int} (h : IxO p L r) : decide (0 ≤ r) = L.any p := by
  rcases h with ⟨rfl, h⟩ | ⟨k, hk, rfl, _, e⟩
  · symm
    rw [show decide ((0 : Int) ≤ -1) = false from rfl, List.any_eq_false]
    intro x hx
    obtain ⟨i, hi, rfl⟩ := List.getElem_of_mem hx
    have := h i hi
    have e : L[i] = eat L i := by simp [eat, List.getD, hi]
    rw [e, this]; decide
  · symm
    rw [decide_eq_true (by omega), List.any_eq_true]
    exact ⟨eat L k, eat_mem hk, e⟩
set_option maxHeartbeats 1000000 in
theorem contains_any (g : FuncId) (lb : Array Value) (eg : ∀ args w, (callFunc g args).run Tryz.prog w = .ok (.enter g args) w) (p : En → Bool) (w : World) (hg : Gives g lb p w) (a : Option Addr) (n c : Nat) (L : List En) (h : Ens w a n L) (hn : n ≤ 1000000000000) :
    Calls Tryz.prog 119 #[.slice a n c, .func (.func g) #[] lb] w fun e w' => e = .returned (.bool (L.any p)) ∧ Below w.heap.size w w' := by
  have hi := index_any g lb eg p w hg a n c L h hn
  clear hg h
  go_enter Tryz.func119, Tryz.ntmps119
  go_wp2_with (fail)
  refine hi.mono ?_
  rintro e w' ⟨r, rfl, hr, hb⟩
  have hr' := hr.any
  have HB := Lib.hid hb
  clear hr hb hi
  go_wp2_with (fail)
  go_ret
  exact ⟨by rw [← hr']; rfl, HB.out⟩
end Go.Proofs.YtinholnidchblaaGreatDoor
