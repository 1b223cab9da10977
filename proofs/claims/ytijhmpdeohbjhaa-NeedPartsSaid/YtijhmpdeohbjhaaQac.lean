/-
  The two maps that a worker makes: the places of what was met, and how many entries lead where: what they hold, what a store leaves.
-/
import Derived.Test.YtijhmpdeohbjhaaQaa
import Derived.Maps.OwnSet
import Derived.Maps.OwnOps
import Derived.Maps.Ext
import Derived.Maps.RangeWalk
import Derived.Test.YtijhmpdeohbjhaaQab
import Derived.Deep.RegionHeld
set_option linter.unusedVariables false
set_option linter.unusedSimpArgs false
namespace Go.Proofs.Ytijhmpdeohbjhaa
open Go.RowKit Go.Maps
set_option linter.unusedVariables false
set_option linter.unusedSimpArgs false

theorem lawN : Keyed Try.prog 3 := int_keyed Try.underlying3
theorem zeroN (w : World) : (zeroValue 3).run Try.prog w = .ok (.int .i64 0) w := by kernel_rfl
/-- A place as a key. -/
def kI (k : Nat) : Lit := .int .i64 (k : Int)
theorem kI_inj {a b : Nat} (h : kI a = kI b) : a = b := by
  simp only [kI, Lit.int.injEq] at h
  omega
theorem kI_wf {k : Nat} (h : k ≤ 9223372036854775807) : (Lit.int .i64 (k : Int)).wf = true := WalkArith.wf_i64 (by omega)
theorem kI_of {k : Nat} (h : k ≤ 9223372036854775807) : keyOf Try.prog 3 (.int .i64 (k : Int)) = some (kI k) := keyOf_int_mk Try.underlying3 (kI_wf h)
theorem kI_key {k : Nat} (h : k ≤ 9223372036854775807) : WideAt.IsKeyLit (kI k) := lawN.key (kI_of h)
/-- A number as a map's element. -/
def nI (x : Int) : DataW Unit := .lit (.int .i64 x)
theorem nI_inj {x y : Int} (h : nI x = nI y) : x = y := by simpa [nI] using h

/-- A map that has the places of what was met. -/
structure PlM (D : DataW Unit) (m : List Nat) : Prop where
  tidy : Tidy D
  has : ∀ k : Nat, Maps.has D (kI k) = decide (k ∈ m)
  keys : ∀ kl, Maps.has D kl = true → ∃ k, k ∈ m ∧ kl = kI k
  at_ : ∀ k, k ∈ m → ∀ z, D.atKey (kI k) z = nI (m.idxOf k : Nat)
  size : Maps.size D = m.length
theorem PlM.none : PlM (.map []) [] := ⟨tidy_empty, fun k => rfl, fun kl (h : false = true) => (by cases h), fun k (h : k ∈ []) => (by cases h), rfl⟩
theorem PlM.snoc {D : DataW Unit} {m : List Nat} (h : PlM D m) {a : Nat} (ha : a ∉ m) (hb : a ≤ 9223372036854775807) : PlM (D.put (kI a) (nI (m.length : Nat))) (m ++ [a]) := by
  have hk := kI_key hb
  have hm := h.tidy.isMap
  refine ⟨h.tidy.put hk _, fun k => ?_, fun kl hl => ?_, fun k hkm z => ?_, ?_⟩
  · by_cases e : k = a
    · subst e
      rw [has_put_same hm hk]; simp
    · rw [has_put_other (fun x => e (kI_inj x)), h.has]
      simp [e]
  · by_cases e : kl = kI a
    · exact ⟨a, by simp, e⟩
    · rw [has_put_other e] at hl
      obtain ⟨k, hk, e⟩ := h.keys kl hl
      exact ⟨k, by simp [hk], e⟩
  · by_cases e : k = a
    · subst e
      rw [atKey_put_same hm hk, List.idxOf_append, if_neg ha]; simp [List.idxOf_cons]
    · have hkm' : k ∈ m := by simpa [e] using hkm
      rw [atKey_put_other (fun x => e (kI_inj x)), h.at_ k hkm', List.idxOf_append, if_pos hkm']
  · rw [size_put h.tidy, h.has, decide_eq_false ha, h.size]; simp
/-- A map that has how many entries lead where. -/
structure EnM (D : DataW Unit) (E : Nat → Nat) : Prop where
  isMap : IsMap D
  at_ : ∀ k : Nat, D.atKey (kI k) (nI 0) = nI (E k : Nat)
theorem EnM.none : EnM (.map []) (fun _ => 0) := ⟨isMap_empty, fun k => rfl⟩
theorem EnM.inc {D : DataW Unit} {E F : Nat → Nat} (h : EnM D E) {a : Nat} (hb : a ≤ 9223372036854775807) {c : Int} (hc : c = (E a : Int) + 1) (hF : ∀ i, F i = E i + if a = i then 1 else 0) : EnM (D.put (kI a) (nI c)) F := by
  have hk := kI_key hb
  refine ⟨h.isMap.put _ _, fun k => ?_⟩
  by_cases e : k = a
  · subst e
    rw [atKey_put_same h.isMap hk, hF, if_pos rfl, hc]
    rfl
  · rw [atKey_put_other (fun x => e (kI_inj x)), h.at_ k, hF, if_neg (fun x => e x.symm)]
    rfl

/-- The block of the places of what was met. -/
def PlAt (w : World) (b : Nat) (m : List Nat) : Prop := ∃ D, w.ownsMap Try.prog 3 (plainElem Try.prog 3) b m.length D ∧ PlM D m
/-- The block of how many entries lead where. -/
def EnAt (w : World) (b : Nat) (E : Nat → Nat) (N : Nat) : Prop := ∃ D, w.ownsMap Try.prog 3 (plainElem Try.prog 3) b N D ∧ EnM D E
theorem ownsMap_block {P : Program} {k : TypeId} {R : Value → Option (DataW Unit × List MemPlace)} {w w' : World} {b n : Nat} {D : DataW Unit} (h : w.ownsMap P k R b n D) (hb : w'.heap[b]? = w.heap[b]?) : w'.ownsMap P k R b n D := by
  obtain ⟨es, clock, h1, h2⟩ := h
  exact ⟨es, clock, hb.trans h1, h2⟩
theorem PlAt.block {w w' : World} {b : Nat} {m : List Nat} (h : PlAt w b m) (hb : w'.heap[b]? = w.heap[b]?) : PlAt w' b m := by
  obtain ⟨D, h1, h2⟩ := h
  exact ⟨D, ownsMap_block h1 hb, h2⟩
theorem EnAt.block {w w' : World} {b N : Nat} {E : Nat → Nat} (h : EnAt w b E N) (hb : w'.heap[b]? = w.heap[b]?) : EnAt w' b E N := by
  obtain ⟨D, h1, h2⟩ := h
  exact ⟨D, ownsMap_block h1 hb, h2⟩
theorem PlAt.lt {w : World} {b : Nat} {m : List Nat} (h : PlAt w b m) : b < w.heap.size := by
  obtain ⟨D, h1, h2⟩ := h
  exact h1.lt
theorem EnAt.lt {w : World} {b N : Nat} {E : Nat → Nat} (h : EnAt w b E N) : b < w.heap.size := by
  obtain ⟨D, h1, h2⟩ := h
  exact h1.lt
theorem EnAt.mono {w : World} {b N M : Nat} {E : Nat → Nat} (h : EnAt w b E N) (hN : N ≤ M) : EnAt w b E M := by
  obtain ⟨D, h1, h2⟩ := h
  exact ⟨D, h1.mono hN, h2⟩
theorem EnAt.congr {w : World} {b N : Nat} {E F : Nat → Nat} (h : EnAt w b E N) (hF : ∀ i, F i = E i) : EnAt w b F N := by
  obtain ⟨D, h1, h2⟩ := h
  exact ⟨D, h1, h2.isMap, fun k => by rw [h2.at_, hF]⟩
theorem PlAt.len {w : World} {b : Nat} {m : List Nat} (h : PlAt w b m) (ty : TypeId) (q : Nat) : (Builtin.len_ #[57] ty #[.map (some b)]).run Try.prog (w.drewN q) = .ok (.int .i64 (m.length : Nat)) (w.drewN q) := by
  obtain ⟨D, h1, h2⟩ := h
  have h1' : (w.drewN q).ownsMap Try.prog 3 (plainElem Try.prog 3) b m.length D := h1
  have := h1'.len Try.underlying57 ty
  rw [h2.size] at this
  exact this
theorem PlAt.put {w : World} {b : Nat} {m : List Nat} (h : PlAt w b m) {a : Nat} (ha : a ∉ m) (hb : a ≤ 9223372036854775807) (hm : m.length ≤ 1000000) :
    ∃ w', (Instr.mapUpdate 57 (.map (some b)) (.int .i64 (a : Int)) (.int .i64 (m.length : Nat))).run Try.prog w = .ok () w' ∧ PlAt w' b (m ++ [a]) ∧ w.mapTurned w' b := by
  obtain ⟨D, h1, h2⟩ := h
  obtain ⟨w', hrun, hown, ht⟩ := h1.store lawN Try.underlying57 (by unfold maxLen; omega) (kI_of hb) (plainElem_int Try.underlying3 (kI_wf (k := m.length) (by omega)))
  refine ⟨w', hrun, ⟨_, ?_, h2.snoc ha hb⟩, ht⟩
  have e : (m ++ [a]).length = m.length + 1 := by simp
  rw [e]
  exact hown
theorem PlAt.drew {w : World} {b : Nat} {m : List Nat} (h : PlAt w b m) (q : Nat) : PlAt (w.drewN q) b m := h.block rfl
theorem EnAt.drew {w : World} {b N : Nat} {E : Nat → Nat} (h : EnAt w b E N) (q : Nat) : EnAt (w.drewN q) b E N := h.block rfl
/-- What a map tells of a place, with whether it is there. -/
theorem PlAt.ok {w : World} {b : Nat} {m : List Nat} (h : PlAt w b m) {a : Nat} (hb : a ≤ 9223372036854775807) :
    (Instr.lookup 57 (.map (some b)) (.int .i64 (a : Int)) true).run Try.prog w = .ok (.tuple #[.int .i64 (if a ∈ m then (m.idxOf a : Nat) else 0 : Int), .bool (decide (a ∈ m))]) w := by
  obtain ⟨D, h1, h2⟩ := h
  obtain ⟨v, ps, hrun, hv⟩ := h1.look_ok lawN Try.underlying57 (zeroN w) (plainElem_int Try.underlying3 (kI_wf (k := 0) (by omega))) (kI_of hb)
  obtain ⟨x, rfl, hx, _⟩ := plainElem_int_inv Try.underlying3 hv
  have hx' : D.atKey (kI a) (nI 0) = nI x := (Prod.mk.inj hx).1
  have he : x = (if a ∈ m then (m.idxOf a : Nat) else 0 : Int) := by
    by_cases e : a ∈ m
    · rw [h2.at_ a e] at hx'
      rw [if_pos e]
      exact (nI_inj hx').symm
    · rw [atKey_of_not_has (by rw [h2.has, decide_eq_false e])] at hx'
      rw [if_neg e]
      exact (nI_inj hx').symm
  rw [hrun, h2.has, he]
/-- How many entries a map tells of. -/
theorem EnAt.get {w : World} {b N : Nat} {E : Nat → Nat} (h : EnAt w b E N) {a : Nat} (hb : a ≤ 9223372036854775807) :
    (Instr.lookup 57 (.map (some b)) (.int .i64 (a : Int)) false).run Try.prog w = .ok (.int .i64 (E a : Nat)) w := by
  obtain ⟨D, h1, h2⟩ := h
  obtain ⟨c, hrun, hat, _⟩ := h1.lookup_int lawN Try.underlying57 Try.underlying3 (zeroN w) (kI_of hb)
  have e := h2.at_ a
  rw [show nI 0 = DataW.lit (.int .i64 0) from rfl, hat] at e
  rw [hrun, nI_inj (x := c) e]
theorem EnAt.put {w : World} {b N : Nat} {E F : Nat → Nat} (h : EnAt w b E N) {a : Nat} (hb : a ≤ 9223372036854775807) (hN : N ≤ 1000000) {c : Int} (hc : c = (E a : Int) + 1) (hE : E a ≤ 1000000) (hF : ∀ i, F i = E i + if a = i then 1 else 0) :
    ∃ w', (Instr.mapUpdate 57 (.map (some b)) (.int .i64 (a : Int)) (.int .i64 c)).run Try.prog w = .ok () w' ∧ EnAt w' b F (N + 1) ∧ w.mapTurned w' b := by
  obtain ⟨D, h1, h2⟩ := h
  obtain ⟨w', hrun, hown, ht⟩ := h1.store lawN Try.underlying57 (by unfold maxLen; omega) (kI_of hb) (plainElem_int Try.underlying3 (e := 3) (a := c) (WalkArith.wf_i64 (by omega)))
  exact ⟨w', hrun, ⟨_, hown, h2.inc hb hc hF⟩, ht⟩
end Go.Proofs.Ytijhmpdeohbjhaa

/-
  A worker goes through the nodes: meet, meetAll, by contract.
-/
namespace Go.Proofs.Ytijhmpdeohbjhaa
open Go.RowKit
set_option linter.unusedVariables false
set_option linter.unusedSimpArgs false

theorem cntE_le {ch : Nat → List Nat} (h : ∀ x, (ch x).length ≤ 64) (l : List Nat) (i : Nat) : cntE ch l i ≤ 64 * l.length := by
  induction l with
  | nil => simp [cntE]
  | cons a l ih =>
    rw [cntE_cons, List.length_cons]
    have h1 := List.count_le_length (a := i) (l := ch a)
    have h2 := h a
    omega
theorem mtE_le {ch : Nat → List Nat} (h : ∀ x, (ch x).length ≤ 64) (d a : Nat) (m : List Nat) {E : Nat → Nat} {N : Nat} (hE : ∀ i, E i ≤ N) (k i : Nat) : mtE ch d a m E k i ≤ N + k + 64 * ((mtK ch d a m k).length - (m.length + 1)) := by
  have h1 := cntE_le h ((mtK ch d a m k).drop (m.length + 1)) i
  rw [List.length_drop] at h1
  have h2 := List.count_le_length (a := i) (l := (ch a).take k)
  rw [List.length_take] at h2
  have h3 := hE i
  unfold mtE
  omega
theorem nodup_lt {n : Nat} {m : List Nat} {a : Nat} (hm : m.Nodup) (h : ∀ x ∈ m, x < n) (ha : a < n) (hn : a ∉ m) : m.length + 1 ≤ n := by
  have h1 : (m ++ [a]).Nodup := by
    rw [List.nodup_append]
    exact ⟨hm, by simp, fun x hx y hy => by rintro rfl; simp at hy; exact hn (hy ▸ hx)⟩
  have := nodup_len h1 (n := n) (fun x hx => by
    rw [List.mem_append, List.mem_singleton] at hx
    rcases hx with hx | rfl
    · exact h x hx
    · exact ha)
  simpa using this
/-- What a meeting worker keeps: all that lies below P. -/
def Kp (P : Nat) (w : World) (wb pb eb : Nat) (na : Option Addr) (n c : Nat) (f : Nat → Nc) : Prop := ∀ w', Below P w w' → WkB w' wb na n c (some pb) (some eb) ∧ Nds w' na n f
theorem Kp.next {P : Nat} {w w' : World} {wb pb eb n c : Nat} {na : Option Addr} {f : Nat → Nc} (h : Kp P w wb pb eb na n c f) (hb : Below P w w') : Kp P w' wb pb eb na n c f := fun w2 h2 => h w2 (hb.trans h2)
theorem Kp.now {P : Nat} {w : World} {wb pb eb n c : Nat} {na : Option Addr} {f : Nat → Nc} (h : Kp P w wb pb eb na n c f) : WkB w wb na n c (some pb) (some eb) ∧ Nds w na n f := h w (Below.refl _ _)
/-- Are all entries of nodes to nodes, and not too many? -/
def EntOk (n : Nat) (f : Nat → Nc) : Prop := n ≤ 56 ∧ ∀ i, i < n → (f i).e.length ≤ 64 ∧ ∀ y ∈ (f i).e, 0 ≤ y.i ∧ y.i < n
theorem EntOk.chs {n : Nat} {f : Nat → Nc} (h : EntOk n f) : (∀ x, (chs (ndL f n) x).length ≤ 64) ∧ ∀ x, x < n → ∀ k ∈ chs (ndL f n) x, k < n := by
  constructor
  · intro x
    by_cases hx : x < n
    · unfold Go.Proofs.Ytijhmpdeohbjhaa.chs inos
      rw [nat_ndL hx, List.length_map]
      exact (h.2 x hx).1
    · unfold Go.Proofs.Ytijhmpdeohbjhaa.chs
      rw [nat_out (by rw [ndL_len]; omega)]
      simp [inos, default]
  · intro x hx k hk
    unfold Go.Proofs.Ytijhmpdeohbjhaa.chs inos at hk
    rw [nat_ndL hx] at hk
    obtain ⟨y, hy, rfl⟩ := List.mem_map.1 hk
    have := (h.2 x hx).2 y hy
    unfold inoN
    omega
theorem chs_at {n : Nat} {f : Nat → Nc} {a k : Nat} (ha : a < n) (hk : k < (f a).e.length) : (chs (ndL f n) a).length = (f a).e.length ∧ (chs (ndL f n) a).getD k 0 = inoN (eat (f a).e k) := by
  unfold chs inos
  rw [nat_ndL ha]
  have h : k < (f a).nd.e.length := hk
  refine ⟨by rw [List.length_map]; rfl, ?_⟩
  rw [List.getD_eq_getElem?_getD, List.getElem?_map, List.getElem?_eq_getElem h]
  simp [eat, List.getD, Nc.nd, hk]
theorem chs_len {n : Nat} {f : Nat → Nc} {a : Nat} (ha : a < n) : (chs (ndL f n) a).length = (f a).e.length := by
  unfold chs inos
  rw [nat_ndL ha, List.length_map]; rfl
section
variable {P wb pb eb n c : Nat} {na : Option Addr} {f : Nat → Nc}
/-- What meet leaves. -/
def MePost (P pb eb n d a : Nat) (f : Nat → Nc) (m : List Nat) (E : Nat → Nat) (N : Nat) (w : World) (e : Ending) (w' : World) : Prop :=
  e = .returned (.tuple #[]) ∧ Below P w w' ∧ PlAt w' pb (ordS (chs (ndL f n)) d m a) ∧ EnAt w' eb (metE (chs (ndL f n)) d a m E) (N + 64 * ((ordS (chs (ndL f n)) d m a).length - m.length))
set_option maxHeartbeats 4000000 in
theorem meet_old (d a : Nat) (m : List Nat) (E : Nat → Nat) (N : Nat) (w : World) (hk : Kp P w wb pb eb na n c f) (hp : PlAt w pb m) (he : EnAt w eb E N) (ha : a < n) (hn : n ≤ 56) (ham : a ∈ m) :
    Calls Try.prog 36 #[.pointer (some ⟨wb, 0, none⟩), .int .i64 a] w (MePost P pb eb n d a f m E N w) := by
  have c1 := hk.now.1.c1
  have hlk := hp.ok (a := a) (by omega)
  rw [decide_eq_true ham] at hlk
  have HP : Hid (MePost P pb eb n d a f m E N w (.returned (.tuple #[])) w) := Lib.hid ⟨rfl, Below.refl _ _, by rw [ordS, if_pos ham]; exact hp, (he.congr (metE_old E ham)).mono (by omega)⟩
  clear hk hp he
  go_enter Try.func36, Try.ntmps36
  go_wp2_with (fail)
  first | go_end0 | refine bodyPost_ret (results_none rfl _ _ _) rfl ?_
  exact HP.out
set_option maxRecDepth 100000 in
set_option maxHeartbeats 16000000 in
theorem meet_any (hP : wb < P) (hne : pb ≠ eb) (hpb : P ≤ pb) (heb : P ≤ eb) (hok : EntOk n f) : ∀ (d a : Nat) (m : List Nat) (E : Nat → Nat) (N : Nat) (w : World), Kp P w wb pb eb na n c f → P ≤ w.heap.size → PlAt w pb m → EnAt w eb E N → (∀ i, E i ≤ N) → a < n → (∀ x ∈ m, x < n) → m.Nodup → n ≤ d + m.length → N + 64 * (n - m.length) ≤ 100000 →
    Calls Try.prog 36 #[.pointer (some ⟨wb, 0, none⟩), .int .i64 a] w (MePost P pb eb n d a f m E N w) := by
  intro d
  induction d with
  | zero =>
    intro a m E N w hk hps hp he hE ha hm hnd hd hN
    by_cases ham : a ∈ m
    · exact meet_old 0 a m E N w hk hp he ha hok.1 ham
    · have := nodup_lt hnd hm ha ham
      omega
  | succ d ih =>
    intro a m E N w hk hps hp he hE ha hm hnd hd hN
    by_cases ham : a ∈ m
    · exact meet_old (d + 1) a m E N w hk hp he ha hok.1 ham
    · have hml := nodup_lt hnd hm ha ham
      obtain ⟨hch1, hch2⟩ := hok.chs
      have hn56 := hok.1
      have c1 := hk.now.1.c1
      have hlk := hp.ok (a := a) (by omega)
      rw [decide_eq_false ham] at hlk
      have hpd : PlAt w.drew pb m := hp.drew 1
      have hlen : ∀ ty, (Builtin.len_ #[57] ty #[.map (some pb)]).run Try.prog w.drew = .ok (.int .i64 (m.length : Nat)) w.drew := fun ty => hp.len ty 1
      obtain ⟨w2, hup, hp2, ht2⟩ := hpd.put ham (by omega) (by omega)
      have hb2 : Below P w w2 := (below_drewN (Below.refl P w) 1).grown ht2.grown hps (fun j hj => by cases hj; exact hpb)
      have he2 : EnAt w2 eb E N := (he.drew 1).block (ht2.grown.block eb he.lt (fun e => hne (Option.some.inj e).symm))
      have HK0 := Lib.hid hk
      have HK2 := Lib.hid (hk.next hb2)
      have HB2 := Lib.hid hb2
      have HP2 := Lib.hid hp2
      have HE2 := Lib.hid he2
      have HIH := Lib.hid ih
      have HCH := Lib.hid (And.intro hch1 hch2)
      have HOK := Lib.hid hok
      have HE := Lib.hid hE
      have HM := Lib.hid (And.intro hm (And.intro hnd (And.intro ham (And.intro hml (And.intro hd hN)))))
      have HPS := Lib.hid (Nat.le_trans hps hb2.size)
      have HPQ := Lib.hid (And.intro hP (And.intro hne (And.intro hpb heb)))
      have HA := Lib.hid ha
      have HPW := Lib.hid hps
      clear hk hps hp he hE hm hnd hd hN hch1 hch2 hb2 he2 hp2 ih hok hml hpd ht2 hP hne hpb heb
      go_enter Try.func36, Try.ntmps36
      go_wp2_with (fail)
      refine wp_region_held_drew (S := (fun w' => w'.cell? ⟨wb, 1, none⟩ = some (.map (some pb)))) (by kernel_rfl) ?_ (fun hHeld => ?_)
      · exact c1
      refine wpAnyH_take (i := 0) (v := ?_) rfl (by kernel_rfl) (by kernel_rfl) (by kernel_rfl) (fun _ _ _ h => h) (Or.inl ⟨by rfl, fun w hSw => ?_⟩) (by assumption) ?_
      rotate_left
      · (try dsimp only at hSw); go_simp; try with_reducible rfl
      simp only [Act.put, List.setIfInBounds_toArray, List.set_cons_zero, List.set_cons_succ, List.getElem_toArray, List.getElem_cons_zero]
      refine wpAnyH_take (i := 1) (v := ?_) rfl (by kernel_rfl) (by kernel_rfl) (by kernel_rfl) (fun _ _ _ h => h) (Or.inl ⟨by rfl, fun w hSw => ?_⟩) (by assumption) ?_
      rotate_left
      · (try dsimp only at hSw); go_simp; try with_reducible rfl
      simp only [Act.put, List.setIfInBounds_toArray, List.set_cons_zero, List.set_cons_succ, List.getElem_toArray, List.getElem_cons_succ, List.getElem_cons_zero]
      refine wpAnyH_take (i := 2) (v := ?_) rfl (by kernel_rfl) (by kernel_rfl) (by kernel_rfl) (fun _ _ _ h => h) (Or.inl ⟨by rfl, fun w hSw => ?_⟩) (by assumption) ?_
      rotate_left
      · (try dsimp only at hSw); go_simp; try with_reducible rfl
      simp only [Act.put, List.setIfInBounds_toArray, List.set_cons_zero, List.set_cons_succ, List.getElem_toArray, List.getElem_cons_succ, List.getElem_cons_zero]
      refine wpAnyH_take (i := 3) (v := ?_) rfl (by kernel_rfl) (by kernel_rfl) (by kernel_rfl) (fun _ _ _ h => h) (Or.inl ⟨by rfl, fun w hSw => ?_⟩) (by assumption) ?_
      rotate_left
      · (try dsimp only at hSw); go_simp; try with_reducible rfl
      simp only [Act.put, List.setIfInBounds_toArray, List.set_cons_zero, List.set_cons_succ, List.getElem_toArray, List.getElem_cons_succ, List.getElem_cons_zero]
      refine wpAnyH_take (i := 4) (v := ?_) rfl (by kernel_rfl) (by kernel_rfl) (by kernel_rfl) (fun _ _ _ h => h) (Or.inl ⟨by rfl, fun w hSw => ?_⟩) (by assumption) ?_
      rotate_left
      · (try dsimp only at hSw); go_simp; try with_reducible rfl
      simp only [Act.put, List.setIfInBounds_toArray, List.set_cons_zero, List.set_cons_succ, List.getElem_toArray, List.getElem_cons_succ, List.getElem_cons_zero]
      refine wpAnyH_take (i := 5) (v := ?_) rfl (by kernel_rfl) (by kernel_rfl) (by kernel_rfl) (fun _ _ _ h => h) (Or.inl ⟨by rfl, fun w hSw => ?_⟩) (by assumption) ?_
      rotate_left
      · (try dsimp only at hSw); go_simp; try with_reducible rfl
      simp only [Act.put, List.setIfInBounds_toArray, List.set_cons_zero, List.set_cons_succ, List.getElem_toArray, List.getElem_cons_succ, List.getElem_cons_zero]
      refine wpAnyH_take (i := 6) (v := ?_) rfl (by kernel_rfl) (by kernel_rfl) (by kernel_rfl) (fun _ _ _ h => h) (Or.inl ⟨by rfl, fun w hSw => ?_⟩) (by assumption) ?_
      rotate_left
      · (try dsimp only at hSw); go_simp; try with_reducible rfl
      simp only [Act.put, List.setIfInBounds_toArray, List.set_cons_zero, List.set_cons_succ, List.getElem_toArray, List.getElem_cons_succ, List.getElem_cons_zero]
      refine wpAnyH_take (i := 7) (v := ?_) rfl (by kernel_rfl) (by kernel_rfl) (by kernel_rfl) (fun _ _ _ h => h) (Or.inl ⟨by rfl, fun w hSw => ?_⟩) (by assumption) ?_
      rotate_left
      · (try dsimp only at hSw); go_simp; try with_reducible rfl
      simp only [Act.put, List.setIfInBounds_toArray, List.set_cons_zero, List.set_cons_succ, List.getElem_toArray, List.getElem_cons_succ, List.getElem_cons_zero]
      refine wpAnyH_take (i := 8) (v := ?_) rfl (by kernel_rfl) (by kernel_rfl) (by kernel_rfl) (fun _ _ _ h => h) (Or.inl ⟨by rfl, fun w hSw => ?_⟩) (by assumption) ?_
      rotate_left
      · (try dsimp only at hSw); go_simp; try with_reducible rfl
      simp only [Act.put, List.setIfInBounds_toArray, List.set_cons_zero, List.set_cons_succ, List.getElem_toArray, List.getElem_cons_succ, List.getElem_cons_zero]
      refine wpAnyH_ready (rs := [9]) (by kernel_rfl) (by simp) ?_
      refine AllReadyH.cons rfl (fun K hK => ?_) AllReadyH.nil
      simp only [List.getElem_toArray, List.getElem_cons_succ, List.getElem_cons_zero]
      go_simp
      refine hK.out _ _ c1 (fun _ => ?_)
      clear hK K
      refine wpAnyH_ready (rs := [10]) (by kernel_rfl) (by simp) ?_
      refine AllReadyH.cons rfl (fun K hK => ?_) AllReadyH.nil
      simp only [List.getElem_toArray, List.getElem_cons_succ, List.getElem_cons_zero]
      go_simp
      refine hK.out _ _ HK2.out.now.1.c1 (fun _ => ?_)
      clear hK K
      refine wpAnyH_done (by kernel_rfl) ?_ _
      clear hup hlen hlk c1 hHeld
      have hk2 := HK2.out.now
      have c0 := hk2.1.c0
      obtain ⟨b, off, rfl, hbl, d0, d1, d2, d3⟩ := hk2.2.at ha
      have k0 : (0 : Int) ≤ (a : Int) := by omega
      have k1 : (a : Int) < (n : Int) := by omega
      have hens := (hk2.2.ents a ha).ens
      have hel := hens.len
      rw [← hel] at d3
      clear hk2 hbl d0 d1 d2 hens hel
      go_wp2_with (fail)
      go_loopw [38] (fun v wr => ∃ k : Nat, k ≤ (f a).e.length ∧ v = .int .i64 k ∧ Below P w wr ∧ PlAt wr pb (mtK (chs (ndL f n)) d a m k) ∧ EnAt wr eb (mtE (chs (ndL f n)) d a m E k) (N + k + 64 * ((mtK (chs (ndL f n)) d a m k).length - (m.length + 1)))) (fun v _ => (f a).e.length - (RowKit.intOf v).toNat)
      case atStart => exact ⟨0, Nat.zero_le _, rfl, HB2.out, by rw [mtK_zero]; exact HP2.out, (HE2.out.congr (mtE_zero _ _ _ _ _)).mono (by omega)⟩
      case round =>
        obtain ⟨k, hk, rfl, hB, hP1, hE1⟩ := hrel
        have HB := Lib.hid hB
        have HP1 := Lib.hid hP1
        have HE1 := Lib.hid hE1
        by_cases hlt : k < (f a).e.length
        · have j0 : (0 : Int) ≤ (k : Int) := by omega
          have j1 : (k : Int) < ((f a).e.length : Int) := by omega
          have hkr := HK0.out wr hB
          have c2 := hkr.1.c2
          obtain ⟨b2, off2, he2, hbl2, hd1, hd2⟩ := (hkr.2.ents a ha).ens.at (i := k) (by rw [← (hkr.2.ents a ha).ens.len]; exact hlt)
          rw [he2] at *
          have hbnd := (HOK.out.2 a ha).2 _ (eat_mem hlt)
          obtain ⟨kd, hkd⟩ : ∃ kd : Nat, (eat (f a).e k).i = (kd : Int) := ⟨inoN (eat (f a).e k), by unfold inoN; omega⟩
          have hkin : (chs (ndL f n) a).getD k 0 = kd := by
            rw [(chs_at ha hlt).2]
            unfold inoN
            omega
          have hkn : kd < n := by omega
          rw [hkd] at hd2
          obtain ⟨s, hs⟩ : ∃ s, s = (eat (f a).e k).s := ⟨_, rfl⟩
          rw [← hs] at hd1
          obtain ⟨q, hq⟩ : ∃ q, q = wr.heap.size := ⟨_, rfl⟩
          obtain ⟨w3, hw3⟩ : ∃ w3, w3 = (wr.alloc (.cells #[.string s, .int .i64 (kd : Int)] 74 (0, 0))).drew := ⟨_, rfl⟩
          have hr3 : w3.heap[q]? = some (.cells #[.string s, .int .i64 (kd : Int)] 74 (0, 0)) := by rw [hw3, hq]; exact heap_alloc_new wr _
          have hb3 : Below wr.heap.size wr w3 := by rw [hw3]; exact below_drewN ((Below.refl _ _).alloc (Nat.le_refl _) _) 1
          have hPs : P ≤ wr.heap.size := Nat.le_trans HPW.out hB.size
          have hB3 : Below P w w3 := hB.trans (hb3.mono hPs)
          have c23 := (HK0.out w3 hB3).1.c2
          have hp3 : PlAt w3 pb _ := hP1.block (hb3.block pb hP1.lt)
          have he3 : EnAt w3 eb _ _ := hE1.block (hb3.block eb hE1.lt)
          have hxle := mtE_le HCH.out.1 d a m HE.out k
          obtain ⟨x, hx⟩ : ∃ x, x = mtE (chs (ndL f n)) d a m E k kd := ⟨_, rfl⟩
          have hg3 := he3.get (a := kd) (by omega)
          rw [← hx] at hg3
          have hmk := mtK_in HCH.out.2 d ha HM.out.1 k
          have hmd := mtK_nodup (chs (ndL f n)) d HM.out.2.1 ham k
          have hml2 := nodup_len hmd hmk
          have hml1 := mtK_len (chs (ndL f n)) d a m k
          have hmm := HM.out.2.2.2
          have hel := (HOK.out.2 a ha).1
          have hx8 : x ≤ N + k + 64 * ((mtK (chs (ndL f n)) d a m k).length - (m.length + 1)) := by rw [hx]; exact hxle kd
          have hx9 : x ≤ 200000 := by clear hx hg3; omega
          have ew : IntKind.i64.wrap ((x : Int) + 1) = (x : Int) + 1 := by rw [IntKind.wrap_i64]; omega
          have ew2 : wrap64 ((x : Int) + 1) = (x : Int) + 1 := by unfold wrap64; omega
          have p1 : (x : Int) + 1 = ((mtE (chs (ndL f n)) d a m E k kd : Nat) : Int) + 1 := by rw [← hx]
          have p2 : mtE (chs (ndL f n)) d a m E k kd ≤ 1000000 := by
            rw [hx] at hx9
            exact Nat.le_trans hx9 (by decide)
          have p3 : N + k + 64 * ((mtK (chs (ndL f n)) d a m k).length - (m.length + 1)) ≤ 1000000 := by omega
          have p4 : kd ≤ 9223372036854775807 := by omega
          obtain ⟨F, hF⟩ : ∃ F : Nat → Nat, ∀ i, F i = mtE (chs (ndL f n)) d a m E k i + if kd = i then 1 else 0 := ⟨_, fun i => rfl⟩
          obtain ⟨w4, hup4, he4, ht4⟩ := he3.put p4 p3 p1 p2 hF
          have hb4 : Below P w w4 := hB3.grown ht4.grown (Nat.le_trans hPs hb3.size) (fun j hj => by cases hj; exact HPQ.out.2.2.2)
          have hp4 : PlAt w4 pb _ := hp3.block (ht4.grown.block pb hp3.lt (fun e => HPQ.out.2.1 (Option.some.inj e)))
          have hebq : q ≠ eb := by have := hE1.lt; omega
          have hr4 : w4.heap[q]? = some (.cells #[.string s, .int .i64 (kd : Int)] 74 (0, 0)) := (ht4.grown.block q (lt_of_block hr3) (fun e => hebq (Option.some.inj e))).trans hr3
          have hc := HIH.out kd (mtK (chs (ndL f n)) d a m k) F _ w4 (HK0.out.next hb4) (Nat.le_trans HPW.out hb4.size) hp4 he4 (fun i => by
            have := hxle i
            rw [hF]
            split <;> omega) hkn hmk hmd (by omega) (by omega)
          have hnext := mtK_succ (chs (ndL f n)) d a m (k := k) (by rw [chs_len ha]; exact hlt)
          rw [hkin] at hnext
          have hnE := fun i => mtE_succ (chs (ndL f n)) d a m E (k := k) (by rw [chs_len ha]; exact hlt) i
          have HF := Lib.hid hF
          have HN := Lib.hid hnext
          have HNE := Lib.hid hnE
          have HKI := Lib.hid hkin
          have HB4 := Lib.hid hb4
          have HL4 := Lib.hid (And.intro hml1 (And.intro hml2 hel))
          have t1 : w3.cell? ⟨q, 1, none⟩ = some (.int .i64 (kd : Int)) := by simp [World.cell?, hr3]
          have t4 : w4.cell? ⟨q, 1, none⟩ = some (.int .i64 (kd : Int)) := by simp [World.cell?, hr4]
          clear hx8 hkr hbl2 hbnd hkd hs hb3 hPs hB3 hp3 he3 hxle hx hmk hmd hml2 hml1 hmm hel hx9 he4 ht4 hb4 hp4 hebq hr4 hr3 hnext hnE hkin hB hP1 hE1 p1 p2 p3 p4 hF
          go_wp2_with (fail)
          rw [← hq]
          clear hq
          refine wp_region_held_drew (S := (fun w' => w'.cell? ⟨wb, 2, none⟩ = some (.map (some eb)) ∧ w'.cell? ⟨q, 1, none⟩ = some (.int .i64 (kd : Int)))) (by kernel_rfl) ?_ (fun hHeld => ?_)
          · rw [← hw3]
            exact ⟨c23, t1⟩
          rw [← hw3] at hHeld ⊢
          clear hw3
          refine wpAnyH_take (i := 0) (v := ?_) rfl (by kernel_rfl) (by kernel_rfl) (by kernel_rfl) (fun _ _ _ h => h) (Or.inl ⟨by rfl, fun w hSw => ?_⟩) (by assumption) ?_
          rotate_left
          · (try dsimp only at hSw); go_simp; try with_reducible rfl
          simp only [Act.put, List.setIfInBounds_toArray, List.set_cons_zero, List.set_cons_succ, List.getElem_toArray, List.getElem_cons_zero]
          refine wpAnyH_take (i := 1) (v := ?_) rfl (by kernel_rfl) (by kernel_rfl) (by kernel_rfl) (fun _ _ _ h => h) (Or.inl ⟨by rfl, fun w hSw => ?_⟩) (by assumption) ?_
          rotate_left
          · (try dsimp only at hSw); go_simp; try with_reducible rfl
          simp only [Act.put, List.setIfInBounds_toArray, List.set_cons_zero, List.set_cons_succ, List.getElem_toArray, List.getElem_cons_succ, List.getElem_cons_zero]
          refine wpAnyH_take (i := 2) (v := ?_) rfl (by kernel_rfl) (by kernel_rfl) (by kernel_rfl) (fun _ _ _ h => h) (Or.inl ⟨by rfl, fun w hSw => ?_⟩) (by assumption) ?_
          rotate_left
          · (try dsimp only at hSw); go_simp; try with_reducible rfl
          simp only [Act.put, List.setIfInBounds_toArray, List.set_cons_zero, List.set_cons_succ, List.getElem_toArray, List.getElem_cons_succ, List.getElem_cons_zero]
          refine wpAnyH_take (i := 3) (v := ?_) rfl (by kernel_rfl) (by kernel_rfl) (by kernel_rfl) (fun _ _ _ h => h) (Or.inl ⟨by rfl, fun w hSw => ?_⟩) (by assumption) ?_
          rotate_left
          · (try dsimp only at hSw); go_simp; try with_reducible rfl
          simp only [Act.put, List.setIfInBounds_toArray, List.set_cons_zero, List.set_cons_succ, List.getElem_toArray, List.getElem_cons_succ, List.getElem_cons_zero]
          refine wpAnyH_take (i := 4) (v := ?_) rfl (by kernel_rfl) (by kernel_rfl) (by kernel_rfl) (fun _ _ _ h => h) (Or.inl ⟨by rfl, fun w hSw => ?_⟩) (by assumption) ?_
          rotate_left
          · (try dsimp only at hSw); go_simp; try with_reducible rfl
          simp only [Act.put, List.setIfInBounds_toArray, List.set_cons_zero, List.set_cons_succ, List.getElem_toArray, List.getElem_cons_succ, List.getElem_cons_zero]
          refine wpAnyH_take (i := 5) (v := ?_) rfl (by kernel_rfl) (by kernel_rfl) (by kernel_rfl) (fun _ _ _ h => h) (Or.inl ⟨by rfl, fun w hSw => ?_⟩) (by assumption) ?_
          rotate_left
          · (try dsimp only at hSw); go_simp; try with_reducible rfl
          simp only [Act.put, List.setIfInBounds_toArray, List.set_cons_zero, List.set_cons_succ, List.getElem_toArray, List.getElem_cons_succ, List.getElem_cons_zero]
          refine wpAnyH_ready (rs := [6]) (by kernel_rfl) (by simp) ?_
          refine AllReadyH.cons rfl (fun K hK => ?_) AllReadyH.nil
          simp only [List.getElem_toArray, List.getElem_cons_succ, List.getElem_cons_zero]
          go_simp
          refine hK.out _ _ ⟨c23, t1⟩ (fun _ => ?_)
          clear hK K
          refine wpAnyH_take (i := 7) (v := ?_) rfl (by kernel_rfl) (by kernel_rfl) (by kernel_rfl) (fun _ _ _ h => h) (Or.inl ⟨by rfl, fun w hSw => ?_⟩) (by assumption) ?_
          rotate_left
          · (try dsimp only at hSw); go_simp; try with_reducible rfl
          simp only [Act.put, List.setIfInBounds_toArray, List.set_cons_zero, List.set_cons_succ, List.getElem_toArray, List.getElem_cons_succ, List.getElem_cons_zero]
          refine wpAnyH_ready (rs := [8]) (by kernel_rfl) (by simp) ?_
          refine AllReadyH.cons rfl (fun K hK => ?_) AllReadyH.nil
          simp only [List.getElem_toArray, List.getElem_cons_succ, List.getElem_cons_zero]
          go_simp
          refine hK.out _ _ ⟨(HK0.out w4 HB4.out).1.c2, t4⟩ (fun _ => ?_)
          clear hK K
          refine wpAnyH_done (by kernel_rfl) ?_ _
          clear hup4 hg3 c23 c2 t1 hHeld ew ew2
          go_wp2_with (fail)
          refine hc.mono ?_
          rintro e w5 ⟨rfl, hb5, hp5, he5⟩
          have HRL : Hid (∃ k' : Nat, k' ≤ (f a).e.length ∧ Value.int IntKind.i64 ((k : Int) + 1) = .int .i64 k' ∧ Below P w w5 ∧ PlAt w5 pb (mtK (chs (ndL f n)) d a m k') ∧ EnAt w5 eb (mtE (chs (ndL f n)) d a m E k') (N + k' + 64 * ((mtK (chs (ndL f n)) d a m k').length - (m.length + 1)))) := Lib.hid (by
            rw [← HN.out] at hp5 he5
            refine ⟨k + 1, by omega, rfl, HB4.out.trans hb5, hp5, (he5.congr fun i => ?_).mono ?_⟩
            · rw [HNE.out i, metE, HF.out i, HKI.out, HN.out]
            · have h1 := mtK_len (chs (ndL f n)) d a m k
              have h2 := mtK_len (chs (ndL f n)) d a m (k + 1)
              have h3 : (mtK (chs (ndL f n)) d a m k).length ≤ (mtK (chs (ndL f n)) d a m (k + 1)).length := by
                obtain ⟨r, hr⟩ := ordS_ext (chs (ndL f n)) d (mtK (chs (ndL f n)) d a m k) kd
                rw [HN.out, hr, List.length_append]
                omega
              omega)
          have hel2 : (f a).e.length ≤ 64 := HL4.out.2.2
          clear hc hb5 hp5 he5
          go_wp2_with (fail)
          go_roundw
          case rel => exact HRL.out
          case measure => simp [RowKit.intOf]; omega
        · obtain rfl : k = (f a).e.length := by omega
          have hEND : Hid (MePost P pb eb n (d + 1) a f m E N w (.returned (.tuple #[])) wr) := Lib.hid (by
            have e := chs_len (f := f) ha
            have e1 : mtK (chs (ndL f n)) d a m (f a).e.length = ordS (chs (ndL f n)) (d + 1) m a := by rw [← e, mtK_end, ordS, if_neg ham]
            have e2 : ∀ i, metE (chs (ndL f n)) (d + 1) a m E i = mtE (chs (ndL f n)) d a m E (f a).e.length i := fun i => by rw [metE_new _ ham, e]
            have e3 := (HOK.out.2 a ha).1
            have e4 := mtK_len (chs (ndL f n)) d a m (f a).e.length
            rw [e1] at hP1 hE1 e4
            exact ⟨rfl, hB, hP1, (hE1.congr e2).mono (by omega)⟩)
          clear hB hP1 hE1
          go_wp2_with (fail)
          go_end0
          exact hEND.out
/-- What meetAll leaves: all that is met, and the counts. -/
def MaPost (w : World) (wb n c : Nat) (na : Option Addr) (f : Nat → Nc) (e : Ending) (w' : World) : Prop :=
  e = .returned (.tuple #[]) ∧ Turn (· = wb) w w' ∧ ∃ pb eb, WkB w' wb na n c (some pb) (some eb) ∧ Nds w' na n f ∧ PlAt w' pb (met (chs (ndL f n))) ∧ (∃ N, EnAt w' eb (cntE (chs (ndL f n)) (met (chs (ndL f n)))) N) ∧ w.heap.size ≤ pb ∧ w.heap.size ≤ eb
end
end Go.Proofs.Ytijhmpdeohbjhaa

/-
  A worker goes through all nodes: meetAll, by contract.
-/
namespace Go.Proofs.Ytijhmpdeohbjhaa
open Go.RowKit
set_option linter.unusedVariables false
set_option linter.unusedSimpArgs false

theorem wk_cell {w : World} {wb n c j : Nat} {na : Option Addr} {pm em : Option Nat} {v : Value} (h : WkB w wb na n c pm em) (hc : w.cell? ⟨wb, j, none⟩ = some v) : v = .slice na n c ∨ v = .map pm ∨ v = .map em := by
  have hb : w.heap[wb]? = some (.cells #[.slice na n c, .map pm, .map em] 59 (0, 0)) := h
  rw [cell_of_row w wb j _ _ _ hb] at hc
  have hm := Array.mem_of_getElem? hc
  simpa using hm
/-- Nodes are none of a worker's block. -/
theorem Nds.turnW {w w' : World} {wb n c k : Nat} {na nb : Option Addr} {pm em : Option Nat} {f : Nat → Nc} (h : Nds w na n f) (hk : WkB w wb nb k c pm em) (ht : Turn (· = wb) w w') : Nds w' na n f := by
  refine ⟨?_, fun i hi => (h.data i hi).turn ht ?_, fun i hi => (h.ents i hi).turn ht ?_⟩
  · rcases h.place with h0 | ⟨b, off, ha, hlt, hc⟩
    · exact .inl h0
    · by_cases hn : n = 0
      · exact .inl hn
      have hb : b ≠ wb := by
        rintro rfl
        rcases wk_cell hk (hc 0 (by omega)).1 with e | e | e <;> cases e
      refine .inr ⟨b, off, ha, Nat.lt_of_lt_of_le hlt ht.size, fun i hi => ?_⟩
      obtain ⟨c0, c1, c2, c3⟩ := hc i hi
      exact ⟨(ht.cell (a := ⟨b, off + i * 4, none⟩) hlt hb).trans c0, (ht.cell (a := ⟨b, off + i * 4 + 1, none⟩) hlt hb).trans c1, (ht.cell (a := ⟨b, off + i * 4 + 2, none⟩) hlt hb).trans c2, (ht.cell (a := ⟨b, off + i * 4 + 3, none⟩) hlt hb).trans c3⟩
  · rintro h0 b off ha rfl
    rcases (h.data i hi).bys.place with h1 | ⟨b2, off2, e, _, hc⟩
    · omega
    · rw [ha] at e
      cases e
      rcases wk_cell hk (hc 0 h0) with e | e | e <;> cases e
  · rintro h0 b off ha rfl
    rcases (h.ents i hi).ens.place with h1 | ⟨b2, off2, e, _, hc⟩
    · omega
    · rw [ha] at e
      cases e
      rcases wk_cell hk (hc 0 h0).1 with e | e | e <;> cases e
section
variable {w : World} {wb n c : Nat} {na : Option Addr} {f : Nat → Nc}
set_option maxHeartbeats 4000000 in
theorem meetAll_any (h : Wr w wb na n c f) (hok : EntOk n f) (hn : 1 ≤ n) :
    Calls Try.prog 30 #[.pointer (some ⟨wb, 0, none⟩)] w (MaPost w wb n c na f) := by
  have hmm := @run_makeMap Try.prog
  obtain ⟨⟨pm, em, hk⟩, hnd⟩ := h
  have hwl := hk.lt
  obtain ⟨wS, hwS⟩ : ∃ wS, wS = (w.setCell ⟨wb, 1, none⟩ (.map (some w.heap.size))).setCell ⟨wb, 2, none⟩ (.map (some (w.heap.size + 1))) := ⟨_, rfl⟩
  have hsS : wS.heap.size = w.heap.size := by rw [hwS]; simp [World.setCell]
  have hkS : WkB wS wb na n c (some w.heap.size) (some (w.heap.size + 1)) := by rw [hwS]; exact (hk.set1 _).set2 _
  obtain ⟨w1, hw1⟩ : ∃ w1, w1 = (wS.alloc (.map #[] 0)).alloc (.map #[] 0) := ⟨_, rfl⟩
  have hb1 : Below wS.heap.size wS w1 := by rw [hw1]; exact ((Below.refl _ _).alloc (Nat.le_refl _) _).alloc (by simp) _
  have hs1 : w1.heap.size = w.heap.size + 1 + 1 := by rw [hw1, ← hsS]; simp
  have hk1 := hkS.next hb1
  have hT1 : Turn (· = wb) w w1 := by
    refine Turn.next (w' := wS) ?_ hb1
    rw [hwS]
    exact ((Turn.refl (· = wb) w).setO (p := ⟨wb, 1, none⟩) rfl _).setO (p := ⟨wb, 2, none⟩) rfl _
  have hpl : PlAt w1 w.heap.size [] := by
    have := World.ownsMap_made (H := Unit) wS Try.prog 3 (plainElem Try.prog 3)
    rw [hsS] at this
    refine PlAt.block (w := wS.alloc (.map #[] 0)) ⟨_, this, PlM.none⟩ ?_
    rw [hw1]
    exact Below.heap_alloc _ _ _ (by simp [hsS])
  have hen : EnAt w1 (w.heap.size + 1) (fun _ => 0) 0 := by
    have := World.ownsMap_made (H := Unit) (wS.alloc (.map #[] 0)) Try.prog 3 (plainElem Try.prog 3)
    rw [hw1]
    refine ⟨_, ?_, EnM.none⟩
    have e : (wS.alloc (.map #[] 0)).heap.size = w.heap.size + 1 := by simp [hsS]
    rw [e] at this
    exact this
  have hkp : Kp w.heap.size w1 wb w.heap.size (w.heap.size + 1) na n c f := fun w2 h2 => by
    refine ⟨hk1.below hwl h2, hnd.turnW hk ⟨h2.os.trans hT1.os, h2.tape.trans hT1.tape, h2.output.trans hT1.output, Nat.le_trans hT1.size h2.size, fun j hj hm => (h2.block j hj).trans (hT1.block j hj hm)⟩⟩
  have hc := meet_any (P := w.heap.size) hwl (by omega) (Nat.le_refl _) (Nat.le_succ _) hok 60 0 [] (fun _ => 0) 0 w1 hkp (by omega) hpl hen (fun _ => Nat.le_refl _) (by omega) (fun x hx => by cases hx) List.nodup_nil (by have := hok.1; simp; omega) (by have := hok.1; simp; omega)
  have hS : Hid (∀ w2, MePost w.heap.size w.heap.size (w.heap.size + 1) n 60 0 f [] (fun _ => 0) 0 w1 (.returned (.tuple #[])) w2 → MaPost w wb n c na f (.returned (.tuple #[])) w2) := Lib.hid (fun w2 h2 => by
    obtain ⟨_, hb, hp, he⟩ := h2
    have e : ordS (chs (ndL f n)) 60 [] 0 = met (chs (ndL f n)) := by rw [ordS, if_neg (by simp)]; rfl
    rw [e] at hp he
    refine ⟨rfl, ⟨hb.os.trans hT1.os, hb.tape.trans hT1.tape, hb.output.trans hT1.output, Nat.le_trans hT1.size hb.size, fun j hj hm => (hb.block j hj).trans (hT1.block j hj hm)⟩, _, _, (hkp w2 hb).1, (hkp w2 hb).2, hp, ⟨_, he.congr fun i => (metE_root _ i).symm⟩, Nat.le_refl _, Nat.le_succ _⟩)
  have f1 := hk.free 1
  have f2 := hk.free 2
  have x1 := hk.c1
  have x2 := hk.c2
  rw [hwS] at hw1
  clear hk hnd hsS hkS hb1 hs1 hk1 hT1 hpl hen hkp hwS hok
  go_enter Try.func30, Try.ntmps30
  go_wp2_with (fail)
  rw [← hw1]
  refine hc.mono ?_
  rintro e w2 h2
  obtain rfl : e = .returned (.tuple #[]) := h2.1
  have HG := Lib.hid (hS.out w2 h2)
  clear hc h2
  go_wp2_with (fail)
  go_end0
  exact HG.out
end
end Go.Proofs.Ytijhmpdeohbjhaa

/-
  What a worker reads: is a node a directory, has it entries, which entry has a name: by contract.
-/
namespace Go.Proofs.Ytijhmpdeohbjhaa
open Go.RowKit
set_option linter.unusedVariables false
set_option linter.unusedSimpArgs false

section
variable {w : World} {wb n c : Nat} {na : Option Addr} {f : Nat → Nc}
theorem isDir_any (h : Wr w wb na n c f) {i : Nat} (hi : i < n) (hn : n ≤ 1000000) :
    Calls Try.prog 38 #[.pointer (some ⟨wb, 0, none⟩), .int .i64 i] w fun e w' => e = .returned (.bool (isD (f i).nd)) ∧ Below w.heap.size w w' := by
  have c0 := h.c0
  obtain ⟨b, off, rfl, hb, d0, d1, d2, d3⟩ := h.nds.at hi
  have k0 : (0 : Int) ≤ (i : Int) := by omega
  have k1 : (i : Int) < (n : Int) := by omega
  clear h hb d1 d2 d3
  go_enter Try.func38, Try.ntmps38
  go_wp2_with (fail)
  go_ret
  exact ⟨rfl, Below.refl _ _⟩
end
end Go.Proofs.Ytijhmpdeohbjhaa

/-
  A worker that has met all: links, by contract.
-/
namespace Go.Proofs.Ytijhmpdeohbjhaa
open Go.RowKit
set_option linter.unusedVariables false
set_option linter.unusedSimpArgs false

/-- A worker that has met all. -/
structure Mtd (w : World) (wb pb eb : Nat) (na : Option Addr) (n c : Nat) (f : Nat → Nc) : Prop where
  wk : WkB w wb na n c (some pb) (some eb)
  nds : Nds w na n f
  pl : PlAt w pb (met (chs (ndL f n)))
  en : ∃ N, EnAt w eb (cntE (chs (ndL f n)) (met (chs (ndL f n)))) N
theorem Mtd.next {w w' : World} {wb pb eb n c : Nat} {na : Option Addr} {f : Nat → Nc} (h : Mtd w wb pb eb na n c f) (hb : Below w.heap.size w w') : Mtd w' wb pb eb na n c f := by
  obtain ⟨h1, h2, h3, N, h4⟩ := h
  exact ⟨h1.next hb, h2.next hb, h3.block (hb.block pb h3.lt), N, h4.block (hb.block eb h4.lt)⟩
theorem Mtd.wr {w : World} {wb pb eb n c : Nat} {na : Option Addr} {f : Nat → Nc} (h : Mtd w wb pb eb na n c f) : Wr w wb na n c f := ⟨⟨_, _, h.wk⟩, h.nds⟩
/-- A node's links, as they are counted. -/
def lnkM (L : List Nd) (i : Nat) : Int := if isD (nat L i) then 2 + ((inos (nat L i)).countP fun j => isD (nat L j) : Nat) else (cntE (chs L) (met (chs L)) i : Int)
theorem inos_step {E : List En} {k : Nat} (h : k < E.length) (p : Nat → Bool) : (((E.take (k + 1)).map inoN).countP p) = ((E.take k).map inoN).countP p + if p (inoN (eat E k)) then 1 else 0 := by
  have : E.take (k + 1) = E.take k ++ [eat E k] := by
    rw [List.take_add_one, List.getElem?_eq_getElem h]
    simp [eat, List.getD, h]
  rw [this, List.map_append, List.countP_append]
  simp [List.countP_cons]
section
variable {w : World} {wb pb eb n c : Nat} {na : Option Addr} {f : Nat → Nc}
set_option maxHeartbeats 8000000 in
theorem links_any (h : Mtd w wb pb eb na n c f) (hok : EntOk n f) {a : Nat} (ha : a < n) :
    Calls Try.prog 37 #[.pointer (some ⟨wb, 0, none⟩), .int .i64 a] w fun e w' => e = .returned (.int .i64 (lnkM (ndL f n) a)) ∧ Below w.heap.size w w' := by
  have hn := hok.1
  have hi := isDir_any h.wr ha (by omega)
  have H := Lib.hid h
  have HOK := Lib.hid hok
  unfold lnkM
  rw [nat_ndL ha]
  clear h hok
  cases hd : isD (f a).nd with
  | false =>
    rw [hd] at hi
    simp only [Bool.false_eq_true, if_false]
    go_enter Try.func37, Try.ntmps37
    go_wp2_with (fail)
    refine hi.mono ?_
    rintro e w1 ⟨rfl, hb1⟩
    have H1 := Lib.hid (H.out.next hb1)
    have c2 := H1.out.wk.c2
    obtain ⟨N, hE⟩ := H1.out.en
    have hg := hE.get (a := a) (by omega)
    have HB1 := Lib.hid hb1
    clear hi hb1 hE
    go_wp2_with (fail)
    go_ret
    exact ⟨rfl, HB1.out⟩
  | true =>
    rw [hd] at hi
    simp only [if_true]
    obtain ⟨G, hG⟩ : ∃ G : Nat → Nat, ∀ k, G k = (((f a).e.take k).map inoN).countP fun j => isD (nat (ndL f n) j) := ⟨_, fun k => rfl⟩
    have hG0 : G 0 = 0 := by rw [hG]; simp
    have hGe : G (f a).e.length = (inos (f a).nd).countP fun j => isD (nat (ndL f n) j) := by rw [hG, List.take_length]; rfl
    rw [← hGe]
    have hel := (HOK.out.2 a ha).1
    have hgs : ∀ k, k < (f a).e.length → G (k + 1) = G k + if isD (f (inoN (eat (f a).e k))).nd then 1 else 0 := fun k hk => by
      have hb := (HOK.out.2 a ha).2 _ (eat_mem hk)
      rw [hG, hG, inos_step hk, nat_ndL (by unfold inoN; omega)]
    have hgl : ∀ k, G k ≤ k := fun k => by
      rw [hG]
      refine Nat.le_trans List.countP_le_length ?_
      rw [List.length_map, List.length_take]
      omega
    have HGS := Lib.hid hgs
    have HGL := Lib.hid hgl
    have HG0 := Lib.hid hG0
    clear hG hG0 hGe hgs hgl
    go_enter Try.func37, Try.ntmps37
    go_wp2_with (fail)
    refine hi.mono ?_
    rintro e w1 ⟨rfl, hb1⟩
    have H1 := Lib.hid (H.out.next hb1)
    have HB1 := Lib.hid hb1
    have c0 := H1.out.wk.c0
    have hens := (H1.out.nds.ents a ha).ens
    obtain ⟨b, off, rfl, hbl, d0, d1, d2, d3⟩ := H1.out.nds.at ha
    rw [← hens.len] at d3
    have k0 : (0 : Int) ≤ (a : Int) := by omega
    have k1 : (a : Int) < (n : Int) := by omega
    clear hi hb1 d0 d1 d2 hbl hens
    go_wp2_with (fail)
    go_loopw [5, 28] (fun v5 v wr => ∃ k : Nat, k ≤ (f a).e.length ∧ v = .int .i64 k ∧ v5 = .int .i64 (2 + (G k : Int)) ∧ Below w1.heap.size w1 wr) (fun _ v _ => (f a).e.length - (RowKit.intOf v).toNat)
    case atStart => exact ⟨0, Nat.zero_le _, rfl, by rw [HG0.out]; rfl, Below.refl _ _⟩
    case round =>
      obtain ⟨k, hk, rfl, rfl, hB⟩ := hrel
      have HB := Lib.hid hB
      by_cases hlt : k < (f a).e.length
      · have j0 : (0 : Int) ≤ (k : Int) := by omega
        have j1 : (k : Int) < ((f a).e.length : Int) := by omega
        have hm := H1.out.next hB
        obtain ⟨b2, off2, he2, hbl2, hd1, hd2⟩ := (hm.nds.ents a ha).ens.at (i := k) (by rw [← (hm.nds.ents a ha).ens.len]; exact hlt)
        rw [he2] at *
        have hbnd := (HOK.out.2 a ha).2 _ (eat_mem hlt)
        obtain ⟨kd, hkd⟩ : ∃ kd : Nat, (eat (f a).e k).i = (kd : Int) := ⟨inoN (eat (f a).e k), by unfold inoN; omega⟩
        have hki : inoN (eat (f a).e k) = kd := by unfold inoN; omega
        rw [hkd] at hd2
        obtain ⟨s, hs⟩ : ∃ s, s = (eat (f a).e k).s := ⟨_, rfl⟩
        rw [← hs] at hd1
        have hb3 : Below wr.heap.size wr (wr.alloc (.cells #[.string s, .int .i64 (kd : Int)] 74 (0, 0))) := (Below.refl _ _).alloc (Nat.le_refl _) _
        have hi2 := isDir_any (hm.next hb3).wr (i := kd) (by omega) (by omega)
        have hgk := HGS.out k hlt
        rw [hki] at hgk
        have hgl := HGL.out k
        have HGK := Lib.hid hgk
        have HB3 := Lib.hid (hB.trans (hb3.mono hB.size))
        clear hm hbl2 hbnd hkd hki hs hb3 hgk hB
        cases hdk : isD (f kd).nd with
        | false =>
          rw [hdk] at hi2
          have HGN : Hid (G (k + 1) = G k) := Lib.hid (by rw [HGK.out, hdk]; rfl)
          go_wp2_with (fail)
          refine hi2.mono ?_
          rintro e w4 ⟨rfl, hb4⟩
          have HB4 := Lib.hid (HB3.out.trans (hb4.mono HB3.out.size))
          clear hi2 hb4
          go_wp2_with (fail)
          go_roundw
          case rel => exact ⟨k + 1, by omega, by go_num, by rw [HGN.out], HB4.out⟩
          case measure => simp [RowKit.intOf]; omega
        | true =>
          rw [hdk] at hi2
          have HGN : Hid ((2 : Int) + (G (k + 1) : Int) = 2 + (G k : Int) + 1) := Lib.hid (by rw [HGK.out, hdk]; simp; omega)
          go_wp2_with (fail)
          refine hi2.mono ?_
          rintro e w4 ⟨rfl, hb4⟩
          have HB4 := Lib.hid (HB3.out.trans (hb4.mono HB3.out.size))
          clear hi2 hb4
          go_wp2_with (fail)
          go_roundw
          case rel => exact ⟨k + 1, by omega, by go_num, by rw [HGN.out], HB4.out⟩
          case measure => simp [RowKit.intOf]; omega
      · obtain rfl : k = (f a).e.length := by omega
        clear hB
        go_wp2_with (fail)
        go_ret
        exact ⟨rfl, HB1.out.trans (HB.out.mono HB1.out.size)⟩
end
end Go.Proofs.Ytijhmpdeohbjhaa
