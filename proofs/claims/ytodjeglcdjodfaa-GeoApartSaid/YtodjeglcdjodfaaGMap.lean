/-
  A map of the spots that are used, by spots.
-/
import Derived.Test.YtodjeglcdjodfaaWGeo5
import Derived.Maps.OwnSet
import Derived.Maps.Ext
import Derived.DeepKeys4
import Derived.MapViews
import Derived.Lib.SmallJoins
namespace Go.Proofs.Ytodjeglcdjodfaa
open Go.RowKit Go.Maps Go.ChangeMaps Go.MapKept Go.Joins

theorem laidP : laidOutB Try.prog = true := by kernel_rfl
theorem rowK : (30 : TypeId) < Try.prog.types.size := of_decide_eq_true (by kernel_rfl)
theorem cellsK : Try.prog.cellsOf 30 = 2 := by kernel_rfl
theorem deepK : Try.prog.keyTypeAt (Try.prog.types.size + 1) 30 = true := by kernel_rfl
theorem wideK : (match Try.prog.underlying 30 with | some (.array _ _) | some (.struct _) => true | _ => false) = true := by rw [Try.underlying30]
theorem lawK : Keyed Try.prog 30 := Keyed.of_law (deep_law_laid laidP (m := 2) (by omega) rowK (by kernel_rfl) wideK)
theorem formedK {c0 c1 : Value} : (Value.agg #[c0, c1]).formed Try.prog 30 = true := by simp [Value.formed, Try.underlying30, cellsK]
theorem zeroB (w : World) : (zeroValue 4).run Try.prog w = .ok (.bool false) w := by kernel_rfl

/-- A spot, as a map's key. -/
def keyS (x y : Int) : Lit := (DataW.agg [.lit (.int .i64 x), .lit (.int .i64 y)] : DataW Unit).asKey
theorem keyS_of {x y : Int} (hx : (Lit.int .i64 x).wf = true) (hy : (Lit.int .i64 y).wf = true) : keyOf Try.prog 30 (.agg #[.int .i64 x, .int .i64 y]) = some (keyS x y) := by
  have h : DataW.Trod (H := Unit) (fun _ => ()) Try.prog (World.settled Try.prog default) 0 (fun _ => true) true 30 (.agg #[.int .i64 x, .int .i64 y]) (.agg [.lit (.int .i64 x), .lit (.int .i64 y)]) [] :=
    shut_agg2 (y0 := (.lit (.int .i64 x), [])) (y1 := (.lit (.int .i64 y), [])) Try.underlying30 (by kernel_rfl) cellsK ⟨1, by simp [DataW.trod, Try.underlying3, hx]⟩ ⟨1, by simp [DataW.trod, Try.underlying3, hy]⟩
  exact (keyOf_asKey deepK wideK formedK h).1
theorem keyS_inj {x y x' y' : Int} (hx : (Lit.int .i64 x).wf = true) (hy : (Lit.int .i64 y).wf = true) (hx' : (Lit.int .i64 x').wf = true) (hy' : (Lit.int .i64 y').wf = true) (h : keyS x y = keyS x' y') : x = x' ∧ y = y' := by
  have a := lawK.inj (keyS_of hx hy) (h ▸ keyS_of hx' hy')
  simpa using a

/-- The e-th sector of the stripe q (0: its parity): its disk. -/
def DE (d q e : Int) : Int := (PD d q + e) % d
theorem DE_bd {d q e : Int} (h : 3 ≤ d) : 0 ≤ DE d q e ∧ DE d q e < d := ⟨Int.emod_nonneg _ (by omega), Int.emod_lt_of_pos _ (by omega)⟩
theorem DE_inj {d q e e' : Int} (h : 3 ≤ d) (e0 : 0 ≤ e) (e1 : e < d) (e0' : 0 ≤ e') (e1' : e' < d) (hx : DE d q e = DE d q e') : e = e' := by
  unfold DE at hx
  have hs := Int.emod_emod_of_dvd
  have h2 : (PD d q + e - (PD d q + e')) % d = 0 := Int.emod_eq_emod_iff_emod_sub_eq_zero.1 hx
  rw [show PD d q + e - (PD d q + e') = e - e' by omega] at h2
  obtain ⟨c, hc⟩ := Int.dvd_of_emod_eq_zero h2
  rcases (by omega : c ≤ -1 ∨ c = 0 ∨ 1 ≤ c) with g | g | g
  · have := Int.mul_le_mul_of_nonneg_left g (show 0 ≤ d by omega)
    omega
  · subst g; omega
  · have := Int.mul_le_mul_of_nonneg_left g (show 0 ≤ d by omega)
    omega
theorem DE_zero {d q : Int} (h : 3 ≤ d) : DE d q 0 = PD d q := by
  obtain ⟨a, b⟩ := PD_bd (q := q) h
  unfold DE
  rw [Int.add_zero, Int.emod_eq_of_lt a b]
theorem BD_DE (d q c : Int) : BD d q c = DE d q (c + 1) := by
  unfold BD DE
  rw [Int.add_assoc, Int.add_comm 1]

/-- Numbers of a stripe and of a sector of it. -/
structure Ok (d q e : Int) : Prop where
  q0 : 0 ≤ q
  q1 : q ≤ 400
  e0 : 0 ≤ e
  e1 : e < d
theorem wfs {n : Int} (h : 0 ≤ n) (h' : n ≤ 1000) : (Lit.int .i64 n).wf = true := WalkArith.wf_i64 (by omega)
/-- The map in block mb has just the spots of U, cnt of them. -/
structure UsedD (w : World) (mb : Nat) (d : Int) (U : Int → Int → Prop) (cnt : Nat) (D : DataW Unit) : Prop where
  own : w.ownsMap Try.prog 30 (plainElem Try.prog 4) mb cnt D
  size : Maps.size D = cnt
  has : ∀ kl, Maps.has D kl = true → ∃ q e, U q e ∧ Ok d q e ∧ kl = keyS (DE d q e) (5 + q)
def Used (w : World) (mb : Nat) (d : Int) (U : Int → Int → Prop) (cnt : Int) : Prop := ∃ (n : Nat) (D : DataW Unit), (n : Int) = cnt ∧ UsedD w mb d U n D
theorem Used.lt {w : World} {mb : Nat} {d : Int} {U : Int → Int → Prop} {cnt : Int} (h : Used w mb d U cnt) : mb < w.heap.size := by
  obtain ⟨n, D, _, h⟩ := h
  exact h.own.lt
theorem Used.row {w w' : World} {mb : Nat} {d : Int} {U : Int → Int → Prop} {cnt : Int} (h : Used w mb d U cnt) (e : w'.heap[mb]? = w.heap[mb]?) : Used w' mb d U cnt := by
  obtain ⟨n, D, hn, h⟩ := h
  obtain ⟨es, clock, hb, r⟩ := h.own
  exact ⟨n, D, hn, ⟨es, clock, e.trans hb, r⟩, h.size, h.has⟩
theorem Used.below {w w' : World} {mb : Nat} {d : Int} {U : Int → Int → Prop} {cnt : Int} (h : Used w mb d U cnt) (hb : Below w.heap.size w w') : Used w' mb d U cnt := h.row (hb.block _ h.lt)
theorem Used.alloc {w : World} {mb : Nat} {d : Int} {U : Int → Int → Prop} {cnt : Int} (h : Used w mb d U cnt) (o : Obj) : Used (w.alloc o) mb d U cnt := h.below ((Below.refl _ _).alloc (Nat.le_refl _) o)
theorem Used.drew {w : World} {mb : Nat} {d : Int} {U : Int → Int → Prop} {cnt : Int} (h : Used w mb d U cnt) : Used w.drew mb d U cnt := h.row rfl
theorem Used.mono {w : World} {mb : Nat} {d : Int} {U U' : Int → Int → Prop} {cnt cnt' : Int} (h : Used w mb d U cnt) (hU : ∀ q e, U q e → Ok d q e → U' q e) (hc : cnt = cnt') : Used w mb d U' cnt' := by
  obtain ⟨n, D, hn, h⟩ := h
  exact ⟨n, D, hn.trans hc, h.own, h.size, fun kl hk => by
    obtain ⟨q, e, a, b, c⟩ := h.has kl hk
    exact ⟨q, e, hU q e a b, b, c⟩⟩
theorem Used.start (w : World) (d : Int) : Used (w.alloc (.map #[] 0)) w.heap.size d (fun _ _ => False) 0 :=
  ⟨0, .map [], rfl, World.ownsMap_made w _ _ _, rfl, (fun _ h => by cases h)⟩
theorem not_has {w : World} {mb : Nat} {d : Int} {U : Int → Int → Prop} {n : Nat} {D : DataW Unit} (h : UsedD w mb d U n D) (hd : 3 ≤ d) (hd2 : d ≤ 16) {q e : Int} (ok : Ok d q e) (hU : ¬ U q e) : Maps.has D (keyS (DE d q e) (5 + q)) = false := by
  cases hh : Maps.has D (keyS (DE d q e) (5 + q)) with
  | false => rfl
  | true =>
    exfalso
    obtain ⟨q', e', hu, ok', hk⟩ := h.has _ hh
    obtain ⟨x0, x1⟩ := DE_bd (q := q) (e := e) hd
    obtain ⟨x0', x1'⟩ := DE_bd (q := q') (e := e') hd
    have o1 := ok.q0
    have o2 := ok.q1
    have o3 := ok'.q0
    have o4 := ok'.q1
    obtain ⟨a, b⟩ := keyS_inj (wfs x0 (by omega)) (wfs (by omega) (by omega)) (wfs x0' (by omega)) (wfs (by omega) (by omega)) hk
    obtain rfl : q = q' := by omega
    obtain rfl := DE_inj hd ok.e0 ok.e1 ok'.e0 ok'.e1 a
    exact hU hu
/-- A spot that is not used yet: 'used[b]' is false. -/
theorem Used.look {w : World} {mb : Nat} {d : Int} {U : Int → Int → Prop} {cnt : Int} (h : Used w mb d U cnt) (hd : 3 ≤ d) (hd2 : d ≤ 16) {q e : Int} (ok : Ok d q e) (hU : ¬ U q e) :
    (Instr.lookup 37 (.map (some mb)) (.agg #[.int .i64 (DE d q e), .int .i64 (5 + q)]) false).run Try.prog w = .ok (.bool false) w := by
  obtain ⟨n, D, hn, h⟩ := h
  have hh := not_has h hd hd2 ok hU
  obtain ⟨x0, x1⟩ := DE_bd (q := q) (e := e) hd
  have o1 := ok.q0
  have o2 := ok.q1
  obtain ⟨v, ps, hrun, hv⟩ := h.own.lookup lawK Try.underlying37 (zeroB w) (plainElem_bool Try.underlying4 false) (keyS_of (wfs x0 (by omega)) (wfs (show 0 ≤ 5 + q by omega) (by omega)))
  rw [atKey_of_not_has hh] at hv
  have : v = .bool false := by
    unfold plainElem at hv
    rw [Try.underlying4] at hv
    cases v <;> simp at hv
    rw [hv.1]
  rw [this] at hrun
  exact hrun
/-- .. and is used then. -/
theorem Used.put {w : World} {mb : Nat} {d : Int} {U : Int → Int → Prop} {cnt : Int} (h : Used w mb d U cnt) (hd : 3 ≤ d) (hd2 : d ≤ 16) (hc : cnt ≤ 5000) {q e : Int} (ok : Ok d q e) (hU : ¬ U q e) :
    ∃ w', (Instr.mapUpdate 37 (.map (some mb)) (.agg #[.int .i64 (DE d q e), .int .i64 (5 + q)]) (.bool true)).run Try.prog w = .ok () w' ∧ Used w' mb d (fun q' e' => U q' e' ∨ (q' = q ∧ e' = e)) (cnt + 1) ∧ w.mapTurned w' mb := by
  obtain ⟨n, D, hn, h⟩ := h
  have hh := not_has h hd hd2 ok hU
  obtain ⟨x0, x1⟩ := DE_bd (q := q) (e := e) hd
  have o1 := ok.q0
  have o2 := ok.q1
  have hk := keyS_of (wfs x0 (by omega)) (wfs (show 0 ≤ 5 + q by omega) (by omega))
  obtain ⟨w', hrun, hown, ht⟩ := h.own.store lawK Try.underlying37 (by unfold maxLen; omega) hk (plainElem_bool Try.underlying4 true)
  refine ⟨w', hrun, ⟨n + 1, _, by omega, hown, ?_, fun kl hl => ?_⟩, ht⟩
  · rw [size_put (h.own.tidy lawK), hh, h.size]
    rfl
  · by_cases e1 : kl = keyS (DE d q e) (5 + q)
    · exact ⟨q, e, .inr ⟨rfl, rfl⟩, ok, e1⟩
    · rw [has_put_other e1] at hl
      obtain ⟨q', e', a, b, c⟩ := h.has kl hl
      exact ⟨q', e', .inl a, b, c⟩
theorem Used.len {w : World} {mb : Nat} {d : Int} {U : Int → Int → Prop} {cnt : Int} (h : Used w mb d U cnt) (ty : TypeId) :
    (Builtin.len_ #[37] ty #[.map (some mb)]).run Try.prog w = .ok (.int .i64 cnt) w := by
  obtain ⟨n, D, hn, h⟩ := h
  have := h.own.len Try.underlying37 ty
  rw [h.size, hn] at this
  exact this
theorem Bx.grown {w w' : World} {b m : Nat} {d r s : Int} (h : Bx w b d r s) (hg : w.mapTurned w' m) (hne : b ≠ m) : Bx w' b d r s := by
  have hb := hg.grown.block b h.lt (fun e => hne (by cases e; rfl))
  exact ⟨Nat.lt_of_lt_of_le h.lt hg.grown.size, (World.cell?_of_block (w := w) hb).trans h.c0, (World.cell?_of_block (w := w) hb).trans h.c1, (World.cell?_of_block (w := w) hb).trans h.c2⟩

end Go.Proofs.Ytodjeglcdjodfaa
