import Derived.Test.YtinholnidchblaaGreatDoorQaf
import Derived.Test.YtinholnidchblaaGreatDoorQak
import Derived.Test.YtinholnidchblaaGreatDoorOn
import Derived.Test.YtinholnidchblaaGreatDoorQah
import Derived.Test.YtinholnidchblaaGreatDoorQae
import Derived.Lib.SliceRun
import Derived.Test.YtinholnidchblaaGreatDoorQag
import Derived.Test.YtinholnidchblaaGreatDoorQac
set_option linter.unusedVariables false
set_option linter.unusedSimpArgs false
set_option maxRecDepth 100000
set_option maxHeartbeats 16000000
namespace Go.Proofs.YtinholnidchblaaGreatDoor
open Go.RowKit
structure ResS (w : World) (r : Rv) (da : Option Addr) (dn dc : Nat) (na : Option Addr) (nn nc : Nat) (Ls : List (List UInt8)) : Prop where
 data : Pin w da dn dc r.d
 names : Sts w na nn Ls
 nam : Ls.map tx = r.ns
 nil : na = none → nn = 0 ∧ nc = 0
 cap : nn ≤ nc
def resW (r : Rv) (da : Option Addr) (dn dc : Nat) (na : Option Addr) (nn nc : Nat) : Value := .agg #[.int .i64 r.err, .slice da dn dc, .slice na nn nc, .int .i64 r.k, .int .i64 r.l, .int .i64 r.sz]
def ResV (w : World) (r : Rv) (v : Value) : Prop := ∃ da dn dc na nn nc Ls, v = resW r da dn dc na nn nc ∧ ResS w r da dn dc na nn nc Ls
theorem resV_num (w : World) (e k l z : Int) : ResV w ⟨e, [], [], k, l, z⟩ (.agg #[.int .i64 e, .slice none 0 0, .slice none 0 0, .int .i64 k, .int .i64 l, .int .i64 z]) :=
 ⟨none, 0, 0, none, 0, 0, [], rfl, Pin.zero _, sts_nil _ _, rfl, fun _ => ⟨rfl, rfl⟩, Nat.le_refl _⟩
def OpR (w : World) (wb g : Nat) (r : List Nd × Rv) (e : Ending) (w' : World) : Prop :=
 if r.2.err = 0 then (∃ v, e = .returned v ∧ ResV w' r.2 v) ∧ (∃ g' n' c' f', Wo w' wb g' n' c' f' ∧ ndL f' n' = r.1 ∧ (g' = g ∨ w.heap.size ≤ g')) ∧ Turn (WM g wb) w w'
 else e = .panicked [pe r.2.err] ∧ Turn (WM g wb) w w'
theorem Turn.drop {M : Nat → Prop} {w w' : World} {H : Nat} (h : Turn (fun j => M j ∨ j = H) w w') (hH : w.heap.size ≤ H) : Turn M w w' :=
 ⟨h.os, h.tape, h.output, h.size, fun k hk hm => h.block k hk fun e => e.elim hm fun e => by omega⟩
theorem turn_set6 (w : World) (b : Nat) (v0 v1 v2 v3 v4 v5 : Value) :
  Turn (· = b) w ((((((w.setCell ⟨b, 0, none⟩ v0).setCell ⟨b, 1, none⟩ v1).setCell ⟨b, 2, none⟩ v2).setCell ⟨b, 3, none⟩ v3).setCell ⟨b, 4, none⟩ v4).setCell ⟨b, 5, none⟩ v5) :=
 (((((((Turn.refl (· = b) w).setO (p := ⟨b, 0, none⟩) rfl _).setO (p := ⟨b, 1, none⟩) rfl _).setO (p := ⟨b, 2, none⟩) rfl _).setO (p := ⟨b, 3, none⟩) rfl _).setO (p := ⟨b, 4, none⟩) rfl _).setO (p := ⟨b, 5, none⟩) rfl _)
def ResZ : Array Value := #[.int .i64 0, .slice none 0 0, .slice none 0 0, .int .i64 0, .int .i64 0, .int .i64 0]
theorem resz_cell {w : World} {b j : Nat} {v : Value} (h : RsB w b ResZ) (hc : w.cell? ⟨b, j, none⟩ = some v) : v = .int .i64 0 ∨ v = .slice none 0 0 := by
 have hb : w.heap[b]? = some (.cells ResZ 37 (0, 0)) := h
 rw [cell_of_row w b j _ _ _ hb] at hc
 have hm : v ∈ ResZ := Array.mem_of_getElem? hc
 simp [ResZ] at hm
 rcases hm with e | e | e
 ·exact .inl e
 ·exact .inr e
 ·exact .inl e
theorem pin_ne {w : World} {b : Nat} (h : RsB w b ResZ) {a : Option Addr} {n c : Nat} {zs : List Int} (hp : Pin w a n c zs) : 0 < n → ∀ b' off, a = some ⟨b', off, none⟩ → b' ≠ b := by
 rintro h0 b' off rfl rfl
 rcases hp.bys.place with h1 | ⟨b2, off2, e, _, hc⟩
 ·omega
 ·cases e
  rcases resz_cell h (hc 0 h0) with e | e <;> cases e
theorem enz_ne {w : World} {b : Nat} (h : RsB w b ResZ) {a : Option Addr} {n c : Nat} {E : List En} (hp : Enz w a n c E) : 0 < n → ∀ b' off, a = some ⟨b', off, none⟩ → b' ≠ b := by
 rintro h0 b' off rfl rfl
 rcases hp.ens.place with h1 | ⟨b2, off2, e, _, hc⟩
 ·omega
 ·cases e
  rcases resz_cell h (hc 0 h0).1 with e | e <;> cases e
theorem Wo.turnR {w w' : World} {wb g n c b : Nat} {f : Nat → Nc} (h : Wo w wb g n c f) (hr : RsB w b ResZ) (ht : Turn (· = b) w w') : Wo w' wb g n c f := by
 obtain ⟨⟨pm, em, hk⟩, hw, hne, hd, he⟩ := h
 have hb : w.heap[b]? = some (.cells ResZ 37 (0, 0)) := hr
 have h1 : wb ≠ b := by
  rintro rfl
  have hk' : w.heap[wb]? = _ := hk
  rw [hb] at hk'
  cases hk'
 have h2 : g ≠ b := by
  rintro rfl
  rcases hw.2 with ⟨h0, _⟩ | ⟨g', cap, cur, hv, _, hg, _⟩
  ·cases h0
  ·cases hv
   rw [hb] at hg
   cases hg
 exact ⟨⟨pm, em, hk.block (ht.block wb hk.lt h1)⟩, row_block hw (ht.block g (row_lt hw) h2), hne, fun i hi => ⟨(hd i hi).1.turn ht (pin_ne hr (hd i hi).1), (hd i hi).2⟩, fun i hi => ⟨(he i hi).1.turn ht (enz_ne hr (he i hi).1), (he i hi).2⟩⟩
theorem Sts.turn {M : Nat → Prop} {w w' : World} {a : Option Addr} {n : Nat} {L : List (List UInt8)} (h : Sts w a n L) (ht : Turn M w w') (hm : 0 < n → ∀ b off, a = some ⟨b, off, none⟩ → ¬ M b) : Sts w' a n L := by
 refine ⟨h.len, ?_⟩
 rcases h.place with h0 | ⟨b, off, ha, hlt, hc⟩
 ·exact .inl h0
 ·by_cases h0 : n = 0
  ·exact .inl h0
  ·exact .inr ⟨b, off, ha, Nat.lt_of_lt_of_le hlt ht.size, fun i hi => (ht.cell (a := ⟨b, off + i, none⟩) hlt (hm (by omega) b off ha)).trans (hc i hi)⟩
theorem sts_ne {w : World} {b : Nat} (h : RsB w b ResZ) {a : Option Addr} {n : Nat} {L : List (List UInt8)} (hp : Sts w a n L) : 0 < n → ∀ b' off, a = some ⟨b', off, none⟩ → b' ≠ b := by
 rintro h0 b' off rfl rfl
 rcases hp.place with h1 | ⟨b2, off2, e, _, hc⟩
 ·omega
 ·cases e
  rcases resz_cell h (hc 0 h0) with e | e <;> cases e
theorem ResS.turnR {w w' : World} {r : Rv} {da : Option Addr} {dn dc : Nat} {na : Option Addr} {nn nc : Nat} {Ls : List (List UInt8)} {b : Nat} (h : ResS w r da dn dc na nn nc Ls) (hr : RsB w b ResZ) (ht : Turn (· = b) w w') : ResS w' r da dn dc na nn nc Ls :=
 ⟨h.data.turn ht (pin_ne hr h.data), h.names.turn ht (sts_ne hr h.names), h.nam, h.nil, h.cap⟩
theorem OpU.cases {w w' : World} {wb g : Nat} {r : List Nd × Rv} {e : Ending} (h : OpU w wb g r e w') :
  (r.2.err = 0 ∧ e = .returned (.tuple #[]) ∧ ∃ g' n' c' f', Wo w' wb g' n' c' f' ∧ ndL f' n' = r.1 ∧ Turn (WM g wb) w w' ∧ (g' = g ∨ w.heap.size ≤ g')) ∨ (r.2.err ≠ 0 ∧ e = .panicked [pe r.2.err] ∧ Turn (WM g wb) w w') := by
 unfold OpU at h
 split at h
 ·rename_i h0
  exact .inl ⟨h0, h⟩
 ·rename_i h0
  exact .inr ⟨h0, h⟩
theorem OpZ.cases {w w' : World} {wb g : Nat} {r : List Nd × Rv} {e : Ending} (h : OpZ w wb g r e w') :
  (r.2.err = 0 ∧ e = .returned (.int .i64 r.2.sz) ∧ ∃ g' n' c' f', Wo w' wb g' n' c' f' ∧ ndL f' n' = r.1 ∧ Turn (WM g wb) w w' ∧ (g' = g ∨ w.heap.size ≤ g')) ∨ (r.2.err ≠ 0 ∧ e = .panicked [pe r.2.err] ∧ Turn (WM g wb) w w') := by
 unfold OpZ at h
 split at h
 ·rename_i h0
  exact .inl ⟨h0, h⟩
 ·rename_i h0
  exact .inr ⟨h0, h⟩
theorem OpB.cases {w w' : World} {r : Rv} {e : Ending} (h : OpB w r e w') :
  ((r.err = 0 ∧ ∃ v, e = .returned v ∧ Own w' w.heap.size v r.d.length r.d) ∨ (r.err ≠ 0 ∧ e = .panicked [pe r.err])) ∧ Below w.heap.size w w' := by
 obtain ⟨h1, h2⟩ := h
 refine ⟨?_, h2⟩
 split at h1
 ·rename_i h0
  exact .inl ⟨h0, h1⟩
 ·rename_i h0
  exact .inr ⟨h0, h1⟩
theorem bad_new (L : List Nd) (d : Bool) (P : Option (List ByteArray)) : (oNew L d P).2 = .bad (oNew L d P).2.err := by
 unfold oNew
 repeat' split
 all_goals rfl
theorem bad_link (L : List Nd) (P Q : Option (List ByteArray)) : (oLink L P Q).2 = .bad (oLink L P Q).2.err := by
 unfold oLink
 repeat' split
 all_goals rfl
theorem bad_cut (L : List Nd) (d : Bool) (P : Option (List ByteArray)) : (oCut L d P).2 = .bad (oCut L d P).2.err := by
 unfold oCut
 repeat' split
 all_goals rfl
theorem bad_ren (L : List Nd) (P Q : Option (List ByteArray)) : (oRen L P Q).2 = .bad (oRen L P Q).2.err := by
 unfold oRen
 repeat' split
 all_goals rfl
theorem bad_trunc (L : List Nd) (P : Option (List ByteArray)) (m : Int) : (oTrunc L P m).2 = .bad (oTrunc L P m).2.err := by
 unfold oTrunc
 repeat' split
 all_goals rfl
theorem OpR.fin {w w1 w2 : World} {wb g H g' n' c' : Nat} {f' : Nat → Nc} {r : List Nd × Rv} {da : Option Addr} {dn dc : Nat} {na : Option Addr} {nn nc : Nat} {Ls : List (List UInt8)} (hH : w.heap.size ≤ H) (hb : Below w.heap.size w w1) (ht : Turn (WM g wb) w1 w2) (hr : RsB w2 H ResZ)
  (h0 : r.2.err = 0) (hW : Wo w2 wb g' n' c' f') (hL : ndL f' n' = r.1) (hg : g' = g ∨ w1.heap.size ≤ g') (hS : ResS w2 r.2 da dn dc na nn nc Ls) :
  OpR w wb g r (.returned (resW r.2 da dn dc na nn nc)) ((((((w2.setCell ⟨H, 0, none⟩ (.int .i64 r.2.err)).setCell ⟨H, 1, none⟩ (.slice da dn dc)).setCell ⟨H, 2, none⟩ (.slice na nn nc)).setCell ⟨H, 3, none⟩ (.int .i64 r.2.k)).setCell ⟨H, 4, none⟩ (.int .i64 r.2.l)).setCell ⟨H, 5, none⟩ (.int .i64 r.2.sz)) := by
 have h6 := turn_set6 w2 H (.int .i64 r.2.err) (.slice da dn dc) (.slice na nn nc) (.int .i64 r.2.k) (.int .i64 r.2.l) (.int .i64 r.2.sz)
 unfold OpR
 rw [if_pos h0]
 refine ⟨⟨_, rfl, da, dn, dc, na, nn, nc, Ls, rfl, hS.turnR hr h6⟩, ⟨g', n', c', f', hW.turnR hr h6, hL, hg.imp id fun e => Nat.le_trans hb.size e⟩, ?_⟩
 exact Turn.drop (H := H) (((Turn.of_below hb).trans (ht.mono fun j hj => .inl hj)).trans (h6.mono fun j hj => .inr hj)) hH
theorem OpR.err {w w1 w2 : World} {wb g : Nat} {r : List Nd × Rv} {x : Int} (hb : Below w.heap.size w w1) (ht : Turn (WM g wb) w1 w2) (h0 : r.2.err = x) (hx : x ≠ 0) : OpR w wb g r (.panicked [pe x]) w2 := by
 subst h0
 unfold OpR
 rw [if_neg hx]
 exact ⟨rfl, (Turn.of_below hb).trans ht⟩
end Go.Proofs.YtinholnidchblaaGreatDoor
namespace Go.Proofs.YtinholnidchblaaGreatDoor
open Go.RowKit Go.Maps
def TrB (w : World) (b : Nat) (v : Value) : Prop := w.heap[b]? = some (.cells #[v] 26 (0, 0))
theorem TrB.load {w : World} {b : Nat} {v : Value} (h : TrB w b v) : (loadVar 26 ⟨b, 0, none⟩).run Tryz.prog w = .ok (.agg #[v]) w :=
 run_loadVar_row w b _ _ _ _ _ h Tryz.underlying26 rfl (by kernel_rfl)
theorem TrB.set {w : World} {b : Nat} {v : Value} (h : TrB w b v) (u : Value) : TrB (w.setCell ⟨b, 0, none⟩ u) b u := cells_set h
theorem TrB.cell {w : World} {b : Nat} {v : Value} (h : TrB w b v) : w.cell? ⟨b, 0, none⟩ = some v := by
 unfold TrB at h
 simp [World.cell?, h]
theorem TrB.free {w : World} {b : Nat} {v : Value} (h : TrB w b v) (i : Nat) : w.frozen? ⟨b, i, none⟩ = false := frozen_of_row w b i _ _ h
def TreV (w : World) (L : List Nd) (v : Value) : Prop := ∃ a c f, v = .agg #[.slice a L.length c] ∧ Nds w a L.length f ∧ ndL f L.length = L ∧ (a = none → L.length = 0 ∧ c = 0) ∧ L.length ≤ c
theorem NuR.cells {wr : World} {g2 K n : Nat} {f G : Nat → Nc} {left : Lit → Bool} (h : NuR wr g2 K f n left G) {i : Nat} (hi : i < K) :
  wr.cell? ⟨g2, i * 4, none⟩ = some (.int .i64 (G i).k) ∧ wr.cell? ⟨g2, i * 4 + 1, none⟩ = some (.int .i64 (G i).l) ∧ wr.cell? ⟨g2, i * 4 + 2, none⟩ = some (.slice (G i).da (G i).dn (G i).dc) ∧ wr.cell? ⟨g2, i * 4 + 3, none⟩ = some (.slice (G i).ea (G i).en (G i).ec) := by
 have key : ∀ j, j < 4 → wr.cell? ⟨g2, i * 4 + j, none⟩ = (ncl (G i))[j]? := fun j hj => by
  have := h.row.cells (g := g2) rfl (i * 4 + j) ((ncl (G i))[j]'(by simpa [ncl] using hj)) (by rw [nflat_get G hi hj]; simp [ncl, hj])
  rw [add0, Nat.zero_add] at this
  rw [this]; simp [ncl, hj]
 exact ⟨key 0 (by omega), key 1 (by omega), key 2 (by omega), key 3 (by omega)⟩
theorem NuR.free {wr : World} {g2 K n : Nat} {f G : Nat → Nc} {left : Lit → Bool} (h : NuR wr g2 K f n left G) (j : Nat) : wr.frozen? ⟨g2, j, none⟩ = false := by
 rcases h.row.2 with ⟨h', _⟩ | ⟨g', cap', cur, h', hb, hg, _⟩
 ·simp at h'
 ·simp only [Value.slice.injEq, Option.some.injEq, Addr.mk.injEq, and_true, true_and] at h'
  obtain ⟨rfl, rfl⟩ := h'
  exact frozen_of_row wr g2 j _ _ hg
theorem NuR.kinds {wr : World} {g2 K n : Nat} {f G : Nat → Nc} {left : Lit → Bool} (h : NuR wr g2 K f n left G) {j : Nat} {v : Value} (hv : wr.cell? ⟨g2, j, none⟩ = some v) : (∃ x, v = .int .i64 x) ∨ ∃ a m c, v = .slice a m c := by
 have hlen := nflat_len G K
 rcases h.row.2 with ⟨h', _⟩ | ⟨g', cap', cur, h', hb, hg, hnc, hcm, hcs, htake⟩
 ·simp at h'
 ·simp only [Value.slice.injEq, Option.some.injEq, Addr.mk.injEq, and_true, true_and] at h'
  obtain ⟨rfl, rfl⟩ := h'
  unfold World.cell? at hv
  rw [hg] at hv
  have hv2 : cur[j]? = some v := by simpa using hv
  have hj : j < cur.size := (Array.getElem?_eq_some_iff.1 hv2).1
  have hc : nflat G K = cur.toList := by
   rw [← htake, List.take_of_length_le (by simp [hcs])]
  have hm : (nflat G K)[j]? = some v := by rw [hc, Array.getElem?_toList]; exact hv2
  have e : j = j / 4 * 4 + j % 4 := by omega
  have h4 : j % 4 < 4 := Nat.mod_lt _ (by decide)
  rw [e, nflat_get G (by omega) h4] at hm
  have h5 : j % 4 = 0 ∨ j % 4 = 1 ∨ j % 4 = 2 ∨ j % 4 = 3 := by omega
  rcases h5 with e | e | e | e <;> rw [e] at hm <;> simp [ncl] at hm <;> subst hm
  ·exact .inl ⟨_, rfl⟩
  ·exact .inl ⟨_, rfl⟩
  ·exact .inr ⟨_, _, _, rfl⟩
  ·exact .inr ⟨_, _, _, rfl⟩
theorem NuR.offP {wr : World} {g2 K n : Nat} {f G : Nat → Nc} {left : Lit → Bool} (h : NuR wr g2 K f n left G) {a : Option Addr} {m c : Nat} {zs : List Int} (hp : Pin wr a m c zs) : Off m a g2 g2 := by
 intro h0 b off ha
 rcases hp.bys.place with h1 | ⟨b2, off2, e, _, hc⟩
 ·omega
 ·rw [ha] at e
  cases e
  refine (fun h => ⟨h, h⟩) ?_
  rintro rfl
  rcases h.kinds (hc 0 h0) with ⟨x, e⟩ | ⟨_, _, _, e⟩ <;> cases e
theorem NuR.offE {wr : World} {g2 K n : Nat} {f G : Nat → Nc} {left : Lit → Bool} (h : NuR wr g2 K f n left G) {a : Option Addr} {m c : Nat} {E : List En} (hp : Enz wr a m c E) : Off m a g2 g2 := by
 intro h0 b off ha
 rcases hp.ens.place with h1 | ⟨b2, off2, e, _, hc⟩
 ·omega
 ·rw [ha] at e
  cases e
  refine (fun h => ⟨h, h⟩) ?_
  rintro rfl
  rcases h.kinds (hc 0 h0).1 with ⟨x, e⟩ | ⟨_, _, _, e⟩ <;> cases e
theorem updN_twice (G : Nat → Nc) (i : Nat) (x y : Nc) : updN (updN G i x) i y = updN G i y := by
 funext j
 unfold updN
 split <;> rfl
theorem NuR.lay {wr : World} {g2 K n x ix : Nat} {f G : Nat → Nc} {left left' : Lit → Bool} (h : NuR wr g2 K f n left G) (hx : x ∈ met (chs (ndL f n))) (hxi : ix = plG f n x) (hi : ix < K) (y : Nc) (hy : y.nd = tgt f n x)
  (hp : Pin wr y.da y.dn y.dc y.d) (he : Enz wr y.ea y.en y.ec y.e) (hl : ∀ z, z ∈ met (chs (ndL f n)) → z ≠ x → left' (kI z) = false → left (kI z) = false) :
  ∃ w', w' = ((((wr.setCell ⟨g2, ix * 4, none⟩ (.int .i64 y.k)).setCell ⟨g2, ix * 4 + 1, none⟩ (.int .i64 y.l)).setCell ⟨g2, ix * 4 + 2, none⟩ (.slice y.da y.dn y.dc)).setCell ⟨g2, ix * 4 + 3, none⟩ (.slice y.ea y.en y.ec)) ∧
   NuR w' g2 K f n left' (updN G ix y) ∧ Turn (· = g2) wr w' := by
 refine ⟨_, rfl, ?_⟩
 have s1 := (h.row.stored (ix * 4) (.int .i64 y.k)).1
 have s2 := (s1.stored (ix * 4 + 1) (.int .i64 y.l)).1
 have s3 := (s2.stored (ix * 4 + 2) (.slice y.da y.dn y.dc)).1
 have s4 := (s3.stored (ix * 4 + 3) (.slice y.ea y.en y.ec)).1
 have hT : Turn (· = g2) wr ((((wr.setCell ⟨g2, ix * 4, none⟩ (.int .i64 y.k)).setCell ⟨g2, ix * 4 + 1, none⟩ (.int .i64 y.l)).setCell ⟨g2, ix * 4 + 2, none⟩ (.slice y.da y.dn y.dc)).setCell ⟨g2, ix * 4 + 3, none⟩ (.slice y.ea y.en y.ec)) :=
  ((((Turn.refl (· = g2) wr).setO (p := ⟨g2, ix * 4, none⟩) rfl _).setO (p := ⟨g2, ix * 4 + 1, none⟩) rfl _).setO (p := ⟨g2, ix * 4 + 2, none⟩) rfl _).setO (p := ⟨g2, ix * 4 + 3, none⟩) rfl _
 rw [show (nflat G K).set (ix * 4) (.int .i64 y.k) = _ from nflat_upd G (i := ix) (j := 0) { G ix with k := y.k } _ hi (by omega) rfl] at s4
 rw [nflat_upd _ (i := ix) (j := 1) { G ix with k := y.k, l := y.l } _ hi (by omega) (by rw [updN_same]; rfl), updN_twice] at s4
 rw [nflat_upd _ (i := ix) (j := 2) { G ix with k := y.k, l := y.l, da := y.da, dn := y.dn, dc := y.dc, d := y.d } _ hi (by omega) (by rw [updN_same]; rfl), updN_twice] at s4
 rw [nflat_upd _ (i := ix) (j := 3) y _ hi (by omega) (by rw [updN_same]; rfl), updN_twice] at s4
 subst hxi
 exact ⟨h.put hx hi y hy hT s4 ⟨hp, h.offP hp⟩ ⟨he, h.offE he⟩ hl, hT⟩
theorem NuR.setH {wr : World} {g2 K n H : Nat} {f G : Nat → Nc} {left : Lit → Bool} (h : NuR wr g2 K f n left G) {a : Option Addr} {m c : Nat} (hH : TrB wr H (.slice a m c)) (hne : H ≠ g2) (u : Value) : NuR (wr.setCell ⟨H, 0, none⟩ u) g2 K f n left G := by
 have hT : Turn (· = H) wr (wr.setCell ⟨H, 0, none⟩ u) := Turn.setCell (M := (· = H)) (a := ⟨H, 0, none⟩) wr rfl u
 have key : ∀ (b j : Nat) (v : Value), wr.cell? ⟨b, j, none⟩ = some v → (∀ a m c, v ≠ .slice a m c) → b ≠ H := by
  rintro b j v hc hv rfl
  unfold World.cell? at hc
  rw [show wr.heap[b]? = _ from hH] at hc
  match j, hc with
  | 0, hc => simp at hc; exact hv _ _ _ hc.symm
  | j + 1, hc => simp at hc
 refine ⟨row_block h.row (hT.block g2 (row_lt h.row) (fun e => hne e.symm)), fun i hi => ⟨(h.data i hi).1.turn hT ?_, (h.data i hi).2⟩, fun i hi => ⟨(h.ents i hi).1.turn hT ?_, (h.ents i hi).2⟩, h.done⟩
 ·rintro h0 b off ha
  rcases (h.data i hi).1.bys.place with h1 | ⟨b2, off2, e, _, hc⟩
  ·omega
  ·rw [ha] at e
   cases e
   exact key _ _ _ (hc 0 h0) (by rintro a m c e; cases e)
 ·rintro h0 b off ha
  rcases (h.ents i hi).1.ens.place with h1 | ⟨b2, off2, e, _, hc⟩
  ·omega
  ·rw [ha] at e
   cases e
   exact key _ _ _ (hc 0 h0).1 (by rintro a m c e; cases e)section
variable {w : World} {wb n c : Nat} {na : Option Addr} {f : Nat → Nc}
theorem numbered_any (h : Wr w wb na n c f) (hok : EntOk n f) (hs : Snd (ndL f n)) (hfit : ∀ i, i < n → Fit (f i).e) (hdl : ∀ i, i < n → (f i).d.length ≤ 100000) :
  Calls Tryz.prog 40 #[.pointer (some ⟨wb, 0, none⟩)] w fun e w' => (∃ v, e = .returned v ∧ TreV w' (num (ndL f n)) v) ∧ Turn (· = wb) w w' := by
 have hn := hok.1
 have hn1 : 1 ≤ n := by have := hs.pos; rwa [ndL_len] at this
 obtain ⟨w1, hw1⟩ : ∃ w1, w1 = w.alloc (.cells #[.slice none 0 0] 26 (0, 0)) := ⟨_, rfl⟩
 obtain ⟨H, hH⟩ : ∃ H, H = w.heap.size := ⟨_, rfl⟩
 have hb1 : Below w.heap.size w w1 := by rw [hw1]; exact (Below.refl _ _).alloc (Nat.le_refl _) _
 have hr1 : TrB w1 H (.slice none 0 0) := by rw [hw1, hH]; exact heap_alloc_new w _
 have hwb : wb < H := by rw [hH]; exact h.lt
 have hma := meetAll_any (h.next hb1) hok hn1
 have HR1 := qH hr1
 have HB1 := qH hb1
 have HH := qH hH
 have HWB := qH hwb
 have HOK := qH hok
 have HS := qH hs
 have HFI := qH hfit
 have HDL := qH hdl
 obtain ⟨M, hM⟩ : ∃ M, M = met (chs (ndL f n)) := ⟨_, rfl⟩
 have hMl : M.length ≤ 56 := by
  have := hs.metlen
  rw [ndL_len] at this
  rw [hM]
  omega
 have HMM := qH hM
 have HML := qH hMl
 clear h hok hs hfit hdl hb1 hr1 hM
 go_enter Tryz.func40, Tryz.ntmps40
 go_wp2_with fail
 rw [← hw1, ← hH]
 clear hw1 hH
 refine hma.mono ?_
 rintro e w2 ⟨rfl, hT2, pb, eb, hwk, hnds, hpl, hen, hp1, hp2⟩
 have hmt : Mtd w2 wb pb eb na n c f := ⟨hwk, hnds, hpl, hen⟩
 have HM2 := qH hmt
 have HT2 := qH ((Turn.of_below (M := (· = wb)) HB1.out).trans hT2)
 have hH1 : H < w1.heap.size := lt_of_block HR1.out
 have HR2 : Hid (TrB w2 H (.slice none 0 0)) := qH ((hT2.block H hH1 (by show ¬ H = wb; omega)).trans HR1.out)
 have c1 := hwk.c1
 have hlen : ∀ ty, (Builtin.len_ #[79] ty #[.map (some pb)]).run Tryz.prog w2 = .ok (.int .i64 (M.length : Nat)) w2 := fun ty => by rw [HMM.out]; exact hpl.len0 ty
 rw [← HMM.out] at hpl
 obtain ⟨D, hown, hpm⟩ := hpl
 have HPM := qH hpm
 have HOW := qH hown
 clear hma hT2 hwk hnds hen hp1 hp2 hmt hH1 hpm hown
 go_wp2_with (first
  | (at_make; go_must (refine wpList_mkN rfl _ _ rfl .i64 .i64 _ _ M.length rfl rfl rfl rfl (by omega) ?_); intro w3 hrow3 hb3; have HRW3 := qH hrow3; have HB3 := qH hb3; have c13 := (hb3.cell (p := ⟨wb, 1, none⟩) HM2.out.wk.lt).trans c1; have HOW3 := qH (HOW.out.kept (w' := w3) (row := none) ⟨hb3.os, hb3.tape, hb3.output, hb3.size, fun k hk _ => hb3.block k hk⟩ (by simp)); clear hrow3 hb3 hlen c1)
  | (at_range; refine wpList_range_own _ rfl _ 79 rfl 3 3 lawN Tryz.underlying79 _ pb M.length D rfl HOW3.out ?_; intro w4 hrg4 hg4 hs4)
  | go_in)
 go_frame
 have hr3 := HB3.out.size
 obtain ⟨r, hr⟩ : ∃ r, r = w3.heap.size := ⟨_, rfl⟩
 obtain ⟨g2, hg2⟩ : ∃ g, g = w2.heap.size := ⟨_, rfl⟩
 rw [← hr] at hrg4 hs4 ⊢
 rw [← hg2] at HRW3 ⊢
 have hrow4 : w4.ownsRow 0 54 4 (.slice (some ⟨g2, 0, none⟩) M.length M.length) M.length (nflat (fun _ => default) M.length) := row_block HRW3.out (hg4.block g2 (row_lt HRW3.out) (by simp))
 have hb24 : Below w2.heap.size w2 w4 := HB3.out.grown hg4 (by omega) (fun j hj => by cases hj)
 have hg2r : g2 < r := by have := row_lt HRW3.out; omega
 have HPM2 := HPM
 have hst : NuR w4 g2 M.length f n (has D) (fun _ => default) := by
  refine ⟨hrow4, fun i hi => ⟨Pin.zero _, fun h => absurd h (Nat.lt_irrefl 0)⟩, fun i hi => ⟨Enz.zero _, fun h => absurd h (Nat.lt_irrefl 0)⟩, fun x hx hl => ?_⟩
  rw [← HMM.out] at hx
  rw [HPM.out.has, decide_eq_true hx] at hl
  cases hl
 have HST := qH hst
 have HB24 := qH hb24
 have HR := qH hr
 have HG2 := qH hg2
 have HGR := qH hg2r
 clear hr hg2 hb24 hst hrow4 hg4 c13 HOW3 HB3 HRW3 HOW hr3 hg2r
 go_loopw [4, 5] (fun _ _ wr => ∃ (left : Lit → Bool) (cnt : Nat) (G : Nat → Nc), wr.ranges Tryz.prog 3 (plainElem Tryz.prog 3) pb r M.length D left cnt ∧ (∀ kl, left kl = true → Maps.has D kl = true) ∧ NuR wr g2 M.length f n left G ∧ Below w2.heap.size w2 wr) (fun _ _ wr => wr.rangeLeft pb r)
 case atStart => exact ⟨_, _, _, hrg4, fun _ h => h, HST.out, HB24.out⟩
 case round =>
  obtain ⟨left, cnt, G, hrg, hhas, hnu, hB⟩ := hrel
  have HHA := qH hhas
  have HNU := qH hnu
  have HB := qH hB
  clear hhas hnu hB
  go_wp2_with (first
   | (at_next; refine wpList_next_ranges_ii _ rfl _ rfl 3 3 .i64 .i64 lawN Tryz.underlying3 Tryz.underlying3 pb r M.length D left cnt rfl hrg ?_ ?_)
   | go_in)
  ·intro hc0 hl0
   have HL0 := qH hl0; have hr5 : TrB wr H (.slice none 0 0) := (HB.out.block H (lt_of_block HR2.out)).trans HR2.out; have c0 := hr5.cell; have f0 := hr5.free 0; have hlt5 := lt_of_block hr5; have HR5 := qH hr5; clear hc0 hl0 hrg hr5; go_wp2_with fail; refine bodyPost_ret (res_cell rfl _ _ ⟨H, 0, none⟩ _ rfl (HR5.out.set _).load) rfl ?_
   have hTH : Turn (· = wb) w (wr.setCell ⟨H, 0, none⟩ (.slice (some ⟨g2, 0, none⟩) M.length M.length)) := by
    have h1 : Turn (· = wb) w wr := HT2.out.trans (Turn.of_below HB.out)
    have hHB : w.heap.size ≤ H := by rw [HH.out]; exact Nat.le_refl _
    exact ((h1.mono (fun k h => .inl h : ∀ k, k = wb → k = wb ∨ k = H)).setO (p := ⟨H, 0, none⟩) (.inr rfl) _).drop hHB
   have hall := HNU.out.setH (H := H) HR5.out (by have := lt_of_block HR2.out; have := HG2.out; omega) (.slice (some ⟨g2, 0, none⟩) M.length M.length); have hM := HMM.out; subst hM; obtain ⟨h1, h2⟩ := hall.all HS.out HL0.out
   have hlen : (num (ndL f n)).length = (met (chs (ndL f n))).length := by rw [num, fixL_len, numR_len]
   refine ⟨⟨_, rfl, some ⟨g2, 0, none⟩, _, G, ?_, h1, h2, (fun h => by cases h), Nat.le_refl _⟩, hTH⟩; rw [hlen]
  ·intro x c w5 cnt1 hwx hwc hlx hat hrg1 hlt hg1 hs1 hen
   obtain ⟨kd, hkm, hkx⟩ := HPM.out.keys _ (HHA.out _ hlx)
   have hx : x = (kd : Int) := by simpa [kI] using hkx
   subst hx
   obtain rfl : c = (M.idxOf kd : Nat) := (nI_inj ((hat (nI 0)).symm.trans (HPM.out.at_ kd hkm _)))
   obtain ⟨ix, hix⟩ : ∃ ix, ix = M.idxOf kd := ⟨_, rfl⟩
   have hkm' : kd ∈ met (chs (ndL f n)) := by rw [← HMM.out]; exact hkm
   have hkn : kd < n := by have := HS.out.metlt kd hkm'; rwa [ndL_len] at this
   have hxl : ix < M.length := by rw [hix]; exact List.idxOf_lt_length_of_mem hkm
   rw [← hix] at hen ⊢; have hb25 : Below w2.heap.size w2 w5 := HB.out.grown hg1 HB.out.size (fun j hj => by have := Option.some.inj hj; have := HG2.out; have := HGR.out; omega); have hnu5 := HNU.out.turn hg1 (ranges_iter hrg) (by have := HGR.out; omega); have hcp := copied_any (HM2.out.next hb25) HOK.out hkn (HFI.out kd hkn) (fun y hy => HS.out.closed kd hkm' _ (by rw [chs, nat_ndL hkn]; exact List.mem_map.2 ⟨y, hy, rfl⟩)) (HDL.out kd hkn); have HNU5 := qH hnu5; have HB25 := qH hb25; have HRG1 := qH hrg1; have HLT := qH hlt; have HRG := qH hrg; have HIX := qH hix; have HKM := qH hkm'
   have x0 : (0 : Int) ≤ (ix : Int) := by omega
   have x1 : (ix : Int) < (M.length : Int) := by omega
   clear hwx hwc hlx hat hrg1 hlt hg1 hs1 hkx hkm hkm' hkn hnu5 hb25 hix hrg; go_wp2_with fail; refine hcp.mono ?_; rintro e w6 ⟨da, dc, ea, ec, rfl, hpin, henz, hb6⟩; have hnu6 := HNU5.out.next hb6; have HB6 := qH hb6; have HNU6 := qH hnu6; have HPI := qH hpin; have HEN := qH henz; obtain ⟨c0, c1, c2, c3⟩ := hnu6.cells (i := ix) (by omega); have hlt6 := row_lt hnu6.row
   have f0 := fun j => hnu6.free j
   obtain ⟨w7, hw7, hnu7, hT7⟩ := hnu6.lay (ix := ix) (left' := fun z => left z && !z.sameKey (.int .i64 (kd : Nat))) HKM.out (by rw [HIX.out, HMM.out]; rfl) (by omega) ⟨(f kd).k, lnkM (ndL f n) kd, da, (f kd).d.length, dc, (f kd).d, ea, (f kd).e.length, ec, (f kd).e.map (setI (plG f n))⟩ rfl hpin (by simpa using henz) (fun z hz hne hl => by
    cases hlz : left (kI z) with
    | false => rfl
    | true =>
     have hs2 : (kI z).sameKey (.int .i64 (kd : Nat)) = true := by
      rw [hlz] at hl
      simpa using hl
     have hze : (z : Int) = (kd : Int) := by simpa [kI, Lit.sameKey] using hs2
     exact absurd (by omega) hne)
   have HNU7 := qH hnu7; have HT7 := qH hT7; have HW7 := qH hw7; clear hcp hb6 hnu6 hpin henz hen hnu7 hT7 hw7; go_wp2_with fail; have hrg6 := HRG1.out.kept (w' := w6) (row := none) ⟨HB6.out.os, HB6.out.tape, HB6.out.output, HB6.out.size, fun k hk _ => HB6.out.block k hk⟩ (by simp) (by simp); have hrg7 := hrg6.kept (w' := w7) (row := some g2) ⟨HT7.out.os, HT7.out.tape, HT7.out.output, HT7.out.size, fun k hk hn => HT7.out.block k hk (fun e => hn (by rw [e]))⟩ (fun e => by have := Option.some.inj e; have := HM2.out.pl.lt; have := HG2.out; omega) (fun e => by have := Option.some.inj e; have := HGR.out; omega); have hb7 : Below w2.heap.size w2 w7 := (HB25.out.trans (HB6.out.mono HB25.out.size)).trans ((HT7.out.below (B := w2.heap.size) (by have := HB25.out.size; have := HB6.out.size; omega) (fun k e => by have := HG2.out; omega))); have hw7 := HW7.out
   try simp only at hw7
   rw [← hw7]
   go_roundw
   case rel =>
    exact ⟨_, _, _, hrg7, fun kl hkl => HHA.out kl (by simp only [Bool.and_eq_true] at hkl; exact hkl.1), HNU7.out, hb7⟩
   case measure => rw [hrg7.left_eq, HRG.out.left_eq]; exact HLT.out
end
end Go.Proofs.YtinholnidchblaaGreatDoor
namespace Go.Proofs.YtinholnidchblaaGreatDoor
open Go.RowKit
theorem addr_at (b off j : Nat) : (⟨b, off, none⟩ : Addr).add j = ⟨b, off + j, none⟩ := by unfold Addr.add; split <;> simp_all
theorem nflat_one (f : Nat → Nc) (n : Nat) : ∀ u ∈ nflat f n, u.oneCell' = true := fun u hu => by
 obtain ⟨i, _, hi⟩ := List.mem_flatMap.1 hu
 exact ncl_one _ u hi
theorem Nds.news {w : World} {b off n : Nat} {f : Nat → Nc} (h : Nds w (some ⟨b, off, none⟩) n f) : ∀ j u, (nflat f n)[j]? = some u → w.cell? ((⟨b, off, none⟩ : Addr).add j) = some u := by
 intro j u hu
 have hj : j < n * 4 := by
  have := (List.getElem?_eq_some_iff.1 hu).1
  rwa [nflat_len] at this
 have e : j = j / 4 * 4 + j % 4 := by omega
 have h4 : j % 4 < 4 := Nat.mod_lt _ (by decide)
 rw [e, nflat_get f (by omega) h4] at hu
 obtain ⟨b2, off2, he, _, c0, c1, c2, c3⟩ := h.at (i := j / 4) (by omega)
 cases he
 rw [addr_at, show off + j = off + j / 4 * 4 + j % 4 by omega]
 have h5 : j % 4 = 0 ∨ j % 4 = 1 ∨ j % 4 = 2 ∨ j % 4 = 3 := by omega
 rcases h5 with e | e | e | e <;> rw [e] at hu ⊢ <;> simp [ncl] at hu <;> subst hu
 ·exact c0
 ·exact c1
 ·exact c2
 ·exact c3
section
variable {w : World} {n c b off : Nat} {f : Nat → Nc}
theorem cloneN_any (h : Nds w (some ⟨b, off, none⟩) n f) (hn1 : 1 ≤ n) (hn : n ≤ 1000000) :
  Calls Tryz.prog 61 #[.slice (some ⟨b, off, none⟩) n c] w fun e w' =>
   ∃ g c', e = .returned (.slice (some ⟨g, 0, none⟩) n c') ∧ w'.ownsRow 0 54 4 (.slice (some ⟨g, 0, none⟩) n c') n (nflat f n) ∧ w.heap.size ≤ g ∧ Below w.heap.size w w' := by
 have hq : ∀ (w : World) (a : Option Addr) (n c : Nat), (binOp .eql 24 (.slice a n c) (.slice none 0 0)).run Tryz.prog w = .ok (.bool a.isNone) w := fun w a n c => Lib.run_eql_slice_nil w _ _ a n c 0 0 Tryz.underlying24
 obtain ⟨i0, hi, hz0, hz1, hz2⟩ := info_parts infoN
 go_enter Tryz.func61, Tryz.ntmps61
 go_wp2_with (at_builtin; go_must (refine wpList_append_lies _ rfl (.tmp 5) (.tmp 6) 24 rfl 0 54 i0 _ 4 64 Tryz.underlying24 hi hz0 hz1 hz2 rfl (by decide) _ 0 [] rfl (World.ownsRow_lit w #[] 0 (Nat.zero_le _) (Nat.zero_le _) rfl) ⟨b, off, none⟩ n c (nflat f n) rfl (nflat_len f n) (h.alloc _).news (nflat_one f n) (by omega) (by unfold maxLen; omega) (by omega) (Nat.zero_le _) _ rfl ?_); intro g c2 w2 hown hgrow hat hlt)
 go_ret
 simp only [Nat.zero_add, List.nil_append] at hown
 refine ⟨g, c2, rfl, by simpa using hown, ?_, ((Below.refl _ _).alloc (Nat.le_refl _) _).grown hgrow (by simp) (fun j hj => by cases hj; exact Nat.le_refl _)⟩
 rcases hat with e | e
 ·cases e
  exact Nat.le_refl _
 ·rw [e]
  simp
theorem off_pin {w : World} {a : Option Addr} {m k : Nat} {zs : List Int} (h : Pin w a m k zs) {g wb : Nat} (hg : w.heap.size ≤ g) (hwb : w.heap.size ≤ wb) : Off m a g wb := by
 intro h0 b off ha
 rcases h.bys.place with h1 | ⟨b2, off2, e, hl, _⟩
 ·omega
 ·rw [ha] at e
  cases e
  omega
theorem off_enz {w : World} {a : Option Addr} {m k : Nat} {E : List En} (h : Enz w a m k E) {g wb : Nat} (hg : w.heap.size ≤ g) (hwb : w.heap.size ≤ wb) : Off m a g wb := by
 intro h0 b off ha
 rcases h.ens.place with h1 | ⟨b2, off2, e, hl, _⟩
 ·omega
 ·rw [ha] at e
  cases e
  omega
theorem workerOn_any (h : Nds w (some ⟨b, off, none⟩) n f) (hn1 : 1 ≤ n) (hn : n ≤ 1000000) :
  Calls Tryz.prog 36 #[.agg #[.slice (some ⟨b, off, none⟩) n c]] w fun e w' =>
   ∃ wb g c', e = .returned (.pointer (some ⟨wb, 0, none⟩)) ∧ Wo w' wb g n c' f ∧ w.heap.size ≤ g ∧ w.heap.size ≤ wb ∧ Below w.heap.size w w' := by
 obtain ⟨w1, hw1⟩ : ∃ w1, w1 = w.alloc (.cells #[.slice (some ⟨b, off, none⟩) n c] 26 (0, 0)) := ⟨_, rfl⟩
 have hb1 : Below w.heap.size w w1 := by rw [hw1]; exact (Below.refl _ _).alloc (Nat.le_refl _) _
 have hcl := cloneN_any (c := c) (h.next hb1) hn1 hn
 have HH := qH h
 have HB1 := qH hb1
 clear h hb1
 go_enter Tryz.func36, Tryz.ntmps36
 go_wp2_with fail
 rw [← hw1]
 clear hw1
 refine hcl.mono ?_
 rintro e w2 ⟨g, c2, rfl, hrow, hg, hb2⟩
 have HROW := qH hrow
 have HG := qH hg
 have HB2 := qH (HB1.out.trans (hb2.mono HB1.out.size))
 clear hrow hg hb2 hcl
 go_wp2_with fail
 go_ret
 obtain ⟨wb, hwb⟩ : ∃ wb, wb = w2.heap.size := ⟨_, rfl⟩
 have hb3 : Below w2.heap.size w2 (w2.alloc (.cells #[.slice (some ⟨g, 0, none⟩) n c2, .map none, .map none] 81 (0, 0))) := (Below.refl _ _).alloc (Nat.le_refl _) _
 have hgl := row_lt HROW.out
 have hg0 : w.heap.size ≤ g := Nat.le_trans HB1.out.size HG.out
 have hb : Below w.heap.size w (w2.alloc (.cells #[.slice (some ⟨g, 0, none⟩) n c2, .map none, .map none] 81 (0, 0))) := HB2.out.trans (hb3.mono HB2.out.size)
 refine ⟨w2.heap.size, g, c2, rfl, ⟨⟨none, none, heap_alloc_new w2 _⟩, row_block HROW.out (hb3.block g hgl), by omega, fun i hi => ⟨(HH.out.next hb).data i hi, off_pin (HH.out.data i hi) hg0 HB2.out.size⟩, fun i hi => ⟨(HH.out.next hb).ents i hi, off_enz (HH.out.ents i hi) hg0 HB2.out.size⟩⟩, hg0, HB2.out.size, hb⟩
def newL : List Nd := [⟨2, 2, [], []⟩]
theorem new_any (w : World) : Calls Tryz.prog 14 #[] w fun e w' => (∃ v, e = .returned v ∧ TreV w' newL v) ∧ Below w.heap.size w w' := by
 go_enter Tryz.func14, Tryz.ntmps14
 go_wp2_with fail
 obtain ⟨w1, hw1⟩ : ∃ w1, w1 = (w.alloc (.cells #[.slice (some ⟨w.heap.size + 1, 0, none⟩) 1 1] 26 (0, 0))).alloc (.cells #[.int .i64 2, .int .i64 2, .slice none 0 0, .slice none 0 0] 54 (0, 0)) := ⟨_, rfl⟩
 have hb1 : Below w.heap.size w w1 := by rw [hw1]; exact ((Below.refl _ _).alloc (Nat.le_refl _) _).alloc (by simp) _
 have hr1 : TrB w1 w.heap.size (.slice (some ⟨w.heap.size + 1, 0, none⟩) 1 1) := by
  rw [hw1]
  have := heap_alloc_new w (.cells #[.slice (some ⟨w.heap.size + 1, 0, none⟩) 1 1] 26 (0, 0))
  exact (Below.heap_alloc _ _ _ (by simp)).trans this
 have hn1 : NdB1 w1 (w.heap.size + 1) #[.int .i64 2, .int .i64 2, .slice none 0 0, .slice none 0 0] := by
  rw [hw1]
  have := heap_alloc_new (w.alloc (.cells #[.slice (some ⟨w.heap.size + 1, 0, none⟩) 1 1] 26 (0, 0))) (.cells #[.int .i64 2, .int .i64 2, .slice none 0 0, .slice none 0 0] 54 (0, 0))
  have e : (w.alloc (.cells #[.slice (some ⟨w.heap.size + 1, 0, none⟩) 1 1] 26 (0, 0))).heap.size = w.heap.size + 1 := by simp
  rw [e] at this
  exact this
 rw [← hw1]
 refine bodyPost_ret (res_cell rfl _ _ ⟨w.heap.size, 0, none⟩ _ rfl hr1.load) rfl ?_
 refine ⟨⟨_, rfl, some ⟨w.heap.size + 1, 0, none⟩, 1, fun _ => ⟨2, 2, none, 0, 0, [], none, 0, 0, []⟩, rfl, ⟨.inr ⟨_, 0, rfl, lt_of_block hn1, fun i hi => ?_⟩, fun i _ => Pin.zero _, fun i _ => Enz.zero _⟩, rfl, (fun h => by cases h), Nat.le_refl _⟩, hb1⟩
 obtain rfl : i = 0 := Nat.lt_one_iff.1 hi
 exact hn1.cells
theorem new_right : Rgt newL := rightB_iff.1 (by rfl)
end
end Go.Proofs.YtinholnidchblaaGreatDoor
namespace Go.Proofs.YtinholnidchblaaGreatDoor
def wrongB (n : Nat) (x : Nd) : Bool :=
 if x.k = 1 then decide (0 < x.e.length) || decide (46368 < x.d.length)
 else if x.k = 2 then decide (0 < x.d.length) || !(rgt x.e && !(x.e.any fun y => decide ((n : Int) ≤ y.i)))
 else true
def inOrd (L : List Nd) (i : Nat) : Bool :=
 decide (i ∈ met (chs L)) && (decide (plc (chs L) i = i) && (decide (lnkM L i = (nat L i).l) &&
  (if isD (nat L i) then decide (i = 0) || decide (cntE (chs L) (met (chs L)) i = 1) else decide (cntE (chs L) (met (chs L)) i ≤ 200))))
theorem wrongB_iff {n : Nat} (hn : n ≤ 56) {x : Nd} : wrongB n x = false ↔ fileOk x ∨ dirOk n x := by
 unfold wrongB
 by_cases h1 : x.k = 1
 ·rw [if_pos h1]
  simp only [Bool.or_eq_false_iff, decide_eq_false_iff_not]
  constructor
  ·rintro ⟨a, b⟩
   exact .inl ⟨h1, List.length_eq_zero_iff.1 (by omega), by omega⟩
  ·rintro (h | h)
   ·exact ⟨by rw [h.2.1]; simp, by have := h.2.2; omega⟩
   ·have := h.1
    omega
 ·rw [if_neg h1]
  by_cases h2 : x.k = 2
  ·rw [if_pos h2]
   simp only [Bool.or_eq_false_iff, decide_eq_false_iff_not, Bool.not_eq_false', Bool.and_eq_true, Bool.not_eq_true', List.any_eq_false, decide_eq_true_eq]
   constructor
   ·rintro ⟨a, b, c⟩
    obtain ⟨b1, b2, b3⟩ := rgt_all b; refine .inr ⟨h2, List.length_eq_zero_iff.1 (by omega), b1, fun y hy => ?_, b3⟩; have := List.all_eq_true.1 b2 y hy; simp only [okE, Bool.and_eq_true, decide_eq_true_eq] at this; have h9 := c y hy
    exact ⟨this.1.1, this.1.2, by omega⟩
   ·rintro (h | h)
    ·exact absurd h.1 h1
    ·obtain ⟨_, h3, h4, h5, h6⟩ := h
     refine ⟨by rw [h3]; simp, rgt_yes h4 (List.all_eq_true.2 fun y hy => ?_) h6, fun y hy => ?_⟩
     ·obtain ⟨a, b, c⟩ := h5 y hy
      simp only [okE, Bool.and_eq_true, decide_eq_true_eq]
      exact ⟨⟨a, b⟩, by omega⟩
     ·have := (h5 y hy).2.2
      omega
  ·rw [if_neg h2]
   constructor
   ·intro h; cases h
   ·rintro (h | h)
    ·exact absurd h.1 h1
    ·exact absurd h.1 h2
theorem met_range {L : List Nd} (hc : ∀ x, x < L.length → ∀ k ∈ chs L x, k < L.length) (h0 : 0 < L.length) (h : ∀ i, i < L.length → i ∈ met (chs L) ∧ plc (chs L) i = i) : met (chs L) = List.range L.length := by
 have hlen : (met (chs L)).length = L.length := by
  refine Nat.le_antisymm (met_len hc h0) ?_
  have h1 : (L.length - 1) < (met (chs L)).length := by
   have := (h (L.length - 1) (by omega))
   have := List.idxOf_lt_length_of_mem this.1; have e : plc (chs L) (L.length - 1) = L.length - 1 := (h (L.length - 1) (by omega)).2; unfold plc at e
   omega
  omega
 refine List.ext_getElem (by rw [hlen, List.length_range]) fun i a b => ?_
 rw [List.getElem_range]
 obtain ⟨hm, hp⟩ := h i (by omega)
 unfold plc at hp
 have := List.getElem_idxOf (List.idxOf_lt_length_of_mem hm)
 simpa only [hp] using this
theorem right_form {L : List Nd} : rightB L = (decide (1 ≤ L.length) && (decide (L.length ≤ 56) && (isD (nat L 0) && (!(L.any (wrongB L.length)) && (List.range L.length).all (inOrd L))))) := by
 rw [Bool.eq_iff_iff, rightB_iff]
 simp only [Bool.and_eq_true, decide_eq_true_eq, Bool.not_eq_true', List.all_eq_true (l := List.range L.length), List.mem_range]
 have lnk_eq : met (chs L) = List.range L.length → ∀ i, lnkM L i = lnk L i := fun hm i => by
  unfold lnkM lnk
  rw [cnt_up hm]
 constructor
 ·intro h
  refine ⟨h.pos, h.few, h.root, ?_, fun i hi => ?_⟩
  ·rw [List.any_eq_false]
   intro x hx; obtain ⟨i, hi, rfl⟩ := List.getElem_of_mem hx; rw [← nat_get hi, (wrongB_iff h.few).2]
   ·decide
   ·rcases h.node i hi with h1 | h1
    ·exact .inl h1.1
    ·exact .inr h1
  ·have hm : i ∈ met (chs L) := by rw [h.met]; exact List.mem_range.2 hi
   have hp : plc (chs L) i = i := by
    unfold plc; rw [h.met]; have e9 := (List.nodup_range (n := L.length)).idxOf_getElem i (by simpa using hi); rw [List.getElem_range] at e9
    exact e9
   unfold inOrd; rw [decide_eq_true hm, decide_eq_true hp, decide_eq_true ((lnk_eq h.met i).trans (h.link i hi))]; simp only [Bool.true_and]; rw [cnt_up h.met]
   cases hd : isD (nat L i) with
   | true =>
    simp only [if_true]
    by_cases e : i = 0
    ·simp [e]
    ·rw [h.one i (by omega) hi hd]
     simp
   | false =>
    simp only [Bool.false_eq_true, if_false, decide_eq_true_eq]
    rcases h.node i hi with ⟨_, _, h3⟩ | h1
    ·have := h.link i hi
     unfold lnk at this; rw [hd] at this
     simp at this
     omega
    ·rw [isD_dir h1] at hd
     cases hd
 ·rintro ⟨h1, h2, h3, h4, h5⟩
  rw [List.any_eq_false] at h4
  have hnode : ∀ i, i < L.length → fileOk (nat L i) ∨ dirOk L.length (nat L i) := fun i hi => by
   refine (wrongB_iff h2).1 ?_; have := h4 _ (List.getElem_mem hi); rw [← nat_get hi] at this
   simpa using this
  have hc : ∀ x, x < L.length → ∀ k ∈ chs L x, k < L.length := fun x hx k hk => (node_ino (hnode x hx) k hk).2
  have hin : ∀ i, i < L.length → (i ∈ met (chs L) ∧ plc (chs L) i = i) ∧ lnkM L i = (nat L i).l ∧ (if isD (nat L i) then decide (i = 0) || decide (cntE (chs L) (met (chs L)) i = 1) else decide (cntE (chs L) (met (chs L)) i ≤ 200)) = true := fun i hi => by
   have := h5 i hi; unfold inOrd at this; simp only [Bool.and_eq_true, decide_eq_true_eq] at this
   exact ⟨⟨this.1, this.2.1⟩, this.2.2.1, this.2.2.2⟩
  have hm := met_range hc (by omega) fun i hi => (hin i hi).1
  refine ⟨h1, h2, h3, fun i hi => ?_, hm, fun i hi => (lnk_eq hm i).symm.trans (hin i hi).2.1, fun i h0 hi hd => ?_⟩
  ·rcases hnode i hi with h | h
   ·have hd := isD_file h
    have h6 := (hin i hi).2.2; have h7 := (lnk_eq hm i).symm.trans (hin i hi).2.1; unfold lnk at h7; rw [hd] at h6 h7; simp only [Bool.false_eq_true, if_false, decide_eq_true_eq] at h6 h7; rw [cnt_up hm] at h6; refine .inl ⟨h, ?_, by omega⟩
    have hi0 : i ≠ 0 := by
     rintro rfl; rw [hd] at h3
     cases h3
    have hmi : i ∈ met (chs L) := (hin i hi).1.1
    rcases met_from (chs L) i hmi with e | ⟨y, hy, hxy⟩
    ·exact absurd e hi0
    ·have hu : 1 ≤ up L i := by
      rw [← cnt_up hm, cntE]; have q1 := sum_mem (g := fun a => (chs L a).count i) hy; have q2 : 1 ≤ (chs L y).count i := List.count_pos_iff.2 hxy
      exact Nat.le_trans q2 q1
     omega
   ·exact .inr h
  ·have h6 := (hin i hi).2.2
   rw [hd, cnt_up hm] at h6; simp only [if_true, Bool.or_eq_true, decide_eq_true_eq] at h6
   omega
end Go.Proofs.YtinholnidchblaaGreatDoor
namespace Go.Proofs.YtinholnidchblaaGreatDoor
open Go.RowKit
theorem box_apart {w0 w : World} {v : Value} {g : Nat} (h : v.ownBlock = some g ∨ g = w.heap.size) (hl : ∀ k, v.ownBlock = some k → k < w0.heap.size) (hs : w0.heap.size + 1 ≤ w.heap.size) : g ≠ w0.heap.size := by
 rcases h with h | h
 ·have := hl g h; omega
 ·omega
theorem encode_any (a : Option Addr) (n c : Nat) (L : List En) (w : World) (h : Ens w a n L) (hn : n ≤ 1000000) :
  Calls Tryz.prog 118 #[.slice a n c] w (EncPost w (encO L) (rgt L)) := by
 have hl := h.len
 subst hl
 have har := areRight_any a L.length c L w h (by omega)
 have HH := qH h
 clear h
 cases hr : rgt L with
 | false =>
  rw [hr] at har
  have he := qH (show encO L = [] by unfold encO; rw [hr]; rfl)
  clear hr
  go_enter Tryz.func118, Tryz.ntmps118
  go_wp2_with fail
  refine har.mono ?_
  rintro e w1 ⟨rfl, hb1⟩
  have HB1 := qH hb1
  clear hb1 har
  go_wp2_with fail
  go_ret2
  exact ⟨_, rfl, by rw [he.out]; exact own_nil8 _ _, HB1.out⟩
 | true =>
  rw [hr] at har
  obtain ⟨h64, hall, _⟩ := rgt_all hr
  have he := qH (show encO L = encL L by unfold encO; rw [hr]; rfl)
  have HA := qH hall
  clear hr hall
  go_enter Tryz.func118, Tryz.ntmps118
  go_wp2_with fail
  refine har.mono ?_
  rintro e w1 ⟨rfl, hb1⟩
  have HB1 := qH hb1
  clear hb1 har
  go_wp2_with fail
  go_loopw [4, 6, 12] (fun v4 _ v wr => ∃ (k m : Nat) (zs : List Int), k ≤ L.length ∧ v = .int .i64 k ∧ encL (L.take k) = zs ∧ Own wr w.heap.size v4 m zs ∧ Below w.heap.size w wr) (fun _ _ v _ => L.length - (RowKit.intOf v).toNat)
  case atStart => exact ⟨0, 0, [], by omega, rfl, rfl, own_nil8 _ _, HB1.out⟩
  case round =>
   obtain ⟨k, m, zs, hk, rfl, hzs, hO, hB⟩ := hrel; have HO := qH hO; have HB := qH hB
   by_cases hlt : k < L.length
   ·have k1 : (k : Int) < (L.length : Int) := by omega
    have k0 : (0 : Int) ≤ (k : Int) := by omega
    obtain ⟨b, off, rfl, hbl, hd1, hd2⟩ := (HH.out.next hB).at hlt; obtain ⟨va, vc, rfl, _⟩ := hO.form; have hm := hO.len; have hle := encL_len (all_take HA.out k); rw [List.length_take, hzs, hm] at hle; have hst := encL_step hlt; obtain ⟨hok1, hok2, hok3, hok4, hok5⟩ := okE_all (all_at HA.out hlt)
    obtain ⟨s, hs⟩ : ∃ s, (eat L k).s = s := ⟨_, rfl⟩
    obtain ⟨i, hi⟩ : ∃ i, (eat L k).i = i := ⟨_, rfl⟩
    have hen : encE (eat L k) = [i, 0] ++ [(s.size : Int)] ++ bI s.data.toList := by unfold encE; rw [hs, hi]; rfl
    rw [hs] at hd1 hok4 hok5; rw [hi] at hd2 hok2 hok3; rw [hen, hzs] at hst; have HST := qH hst; have HZS := qH hzs; have HM := qH hm; have hbx : Below wr.heap.size wr (wr.alloc (.cells #[.string s, .int .i64 i] 77 (0, 0))) := (Below.refl _ _).alloc (Nat.le_refl _) _; have hput := put_yes 2 i (wr.alloc (.cells #[.string s, .int .i64 i] 77 (0, 0))) (by omega) (by omega) (hasW2 hok2 hok3); rw [digs2 hok2 hok3, show (wr.alloc (.cells #[.string s, .int .i64 i] 77 (0, 0))).heap.size = wr.heap.size + 1 by simp] at hput; have HO0 := qH hO; have HLO := qH (show ∀ k, (Value.slice va m vc).ownBlock = some k → k < wr.heap.size from fun k h => (hO.row.lt k h).2); have HBX := qH hbx; have hws := HB.out.size; clear hO hB hbl hst hen hs hi hzs hm hbx HO hok1; go_wp2_with fail; refine hput.mono ?_; rintro e w2 ⟨rfl, hbk, hb2⟩; have hbw : Below wr.heap.size wr w2 := HBX.out.trans (hb2.mono (by omega)); have HO2 := qH (HO0.out.below (Nat.le_refl _) hbw); have HB2 := qH (HB.out.trans (hbw.mono hws)); have HK2 := qH (hbk.all (fun z hz => by simp at hz; omega)); have hs2 := hbw.size
    have hs2' : wr.heap.size + 1 ≤ w2.heap.size := by simpa using hb2.size
    have d0 := hb2.cell (p := ⟨wr.heap.size, 0, none⟩) (by simp); rw [show (wr.alloc (.cells #[.string s, .int .i64 i] 77 (0, 0))).cell? ⟨wr.heap.size, 0, none⟩ = some (.string s) by simp] at d0; have HD2 := qH d0; clear hbw hbk hb2 hput d0
    go_wp2_with
     (at_builtin
      refine wpList_apk rfl (.tmp 16) (.tmp 19) rfl w.heap.size _ m zs rfl HO2.out ⟨wr.heap.size + 1, 0, none⟩ 2 2 [i, 0] rfl HK2.out (by omega) (by omega) (by omega) w HB2.out ?_; intro g3 c3 w3 ho3 hb3 hgr3 hat3; have e0 := hgr3.cell (a := ⟨wr.heap.size, 0, none⟩) HD2.out (fun e => absurd (HLO.out _ e.symm) (Nat.lt_irrefl _)); have hs3 := hgr3.size; have HG3 := qH (box_apart hat3 HLO.out hs2'); have HE3 := qH e0; have HO3 := qH ho3; have HB3 := qH hb3
      clear hgr3 hat3 ho3 hb3)
    have hput1 := put_yes 1 ((s.size : Nat) : Int) w3 (by omega) (by omega) (hasW1 (by omega) (by omega)); rw [digs1 (by omega) (by omega)] at hput1; refine hput1.mono ?_; rintro e w4 ⟨rfl, hbk4, hb4⟩; have e0' := (hb4.cell (p := ⟨wr.heap.size, 0, none⟩) (show wr.heap.size < w3.heap.size by omega)).trans HE3.out; have HE4 := qH e0'; have HO4 := qH (HO3.out.below (Nat.le_refl _) hb4); have HB4 := qH (HB3.out.trans (hb4.mono HB3.out.size)); have HK4 := qH (hbk4.all (fun z hz => by simp at hz; omega)); have hs4 := hb4.size; clear hb4 hbk4 hput1 e0 e0'
    go_wp2_with (first
     | (at_builtin
        refine wpList_apk rfl (.tmp 21) (.tmp 25) rfl w.heap.size _ (m + 2) (zs ++ [i, 0]) rfl HO4.out ⟨w3.heap.size, 0, none⟩ 1 1 [(s.size : Int)] rfl HK4.out (by omega) (by omega) (by omega) w HB4.out ?_; intro g5 c5 w5 ho5 hb5 hgr5 hat5; have e5 := hgr5.cell (a := ⟨wr.heap.size, 0, none⟩) HE4.out (fun e => HG3.out (Option.some.inj e).symm); have hs5 := hgr5.size; have HO5 := qH ho5; have HB5 := qH hb5
        clear hgr5 hat5 ho5 hb5)
     | (at_builtin
        refine wpList_aps rfl (.tmp 27) (.tmp 29) rfl w.heap.size _ (m + 2 + 1) (zs ++ [i, 0] ++ [(s.size : Int)]) rfl HO5.out s rfl (by omega) (by omega) w HB5.out ?_; intro v6 w6 ho6 hb6; have HO6 := qH ho6; have HB6 := qH hb6
        clear ho6 hb6))
    go_roundw
    case rel => exact ⟨k + 1, m + 2 + 1 + s.size, zs ++ [i, 0] ++ [(s.size : Int)] ++ bI s.data.toList, by omega, by go_num, by rw [HST.out]; simp, HO6.out, HB6.out⟩
    case measure => simp [RowKit.intOf]; omega
   ·obtain rfl : k = L.length := by omega
    have k1 : ¬ (L.length : Int) < (L.length : Int) := by omega
    rw [List.take_of_length_le (Nat.le_refl _)] at hzs; subst hzs; obtain rfl := hO.len; have HO2 := qH hO; clear hO hB; go_wp2_with fail
    go_ret2
    exact ⟨_, rfl, by rw [he.out]; exact HO2.out, HB.out⟩
structure Bx1 (w0 : World) (q wb n c : Nat) (na : Option Addr) (f : Nat → Nc) : Prop where
 box : w0.cell? ⟨q, 0, none⟩ = some (.pointer (some ⟨wb, 0, none⟩))
 lt : q < w0.heap.size
 wr : Wr w0 wb na n c f
theorem enters_120 (args : Array Value) (w : World) : (callFunc 120 args).run Tryz.prog w = .ok (.enter 120 args) w := enters_of (P := Tryz.prog) Tryz.func120 (by kernel_rfl) rfl args w
section
variable {w0 : World} {q wb n c : Nat} {na : Option Addr} {f : Nat → Nc}
theorem gives_120 (h : Bx1 w0 q wb n c na f) (hn : n ≤ 1000000) : Gives 120 #[.pointer (some ⟨q, 0, none⟩)] (fun y => decide ((n : Int) ≤ y.i)) w0 := by
 rintro ⟨s, i⟩ w hb
 have c1 := (hb.cell (p := ⟨q, 0, none⟩) h.lt).trans h.box
 have c0 := (h.wr.next hb).c0
 have hwl := (h.wr.next hb).lt
 have hql : q < w.heap.size := Nat.lt_of_lt_of_le h.lt hb.size
 clear h hb
 unfold env
 simp only
 go_enter Tryz.func120, Tryz.ntmps120
 go_wp2_with fail
 go_quiet (fail)
 go_wp2_with fail
 go_ret
 exact ⟨rfl, below_drewN ((Below.refl _ _).alloc (Nat.le_refl _) _) _⟩
end
section
variable {w : World} {wb n c : Nat} {na : Option Addr} {f : Nat → Nc}
theorem areEntries_any (h : Wr w wb na n c f) (hn : n ≤ 1000000) {a : Option Addr} {m k : Nat} {E : List En} (hE : Ens w a m E) (hm : m ≤ 1000000) :
  Calls Tryz.prog 85 #[.pointer (some ⟨wb, 0, none⟩), .slice a m k] w fun e w' => e = .returned (.bool (rgt E && !(E.any fun y => decide ((n : Int) ≤ y.i)))) ∧ Below w.heap.size w w' := by
 have hmf : ∀ (fn : Fn) (first cap : Array Value) (w : World), (Instr.makeFunc fn first cap).run Tryz.prog w = .ok (.func fn first cap) w := fun _ _ _ _ => rfl
 obtain ⟨w1, hw1⟩ : ∃ w1, w1 = w.alloc (.cells #[.pointer (some ⟨wb, 0, none⟩)] 70 (0, 0)) := ⟨_, rfl⟩
 obtain ⟨q, hq⟩ : ∃ q, q = w.heap.size := ⟨_, rfl⟩
 have hb1 : Below w.heap.size w w1 := by rw [hw1]; exact (Below.refl _ _).alloc (Nat.le_refl _) _
 have c1 : w1.cell? ⟨q, 0, none⟩ = some (.pointer (some ⟨wb, 0, none⟩)) := by rw [hw1, hq]; simp
 have hql : q < w1.heap.size := by rw [hw1, hq]; simp
 have hen := encode_any a m k E w1 (hE.next hb1) hm
 have HB1 := qH hb1
 have C1 := qH c1
 have HQL := qH hql
 have HW := qH (h.next hb1)
 have HE := qH (hE.next hb1)
 clear h hE hb1 c1 hql
 cases hr : rgt E with
 | false =>
  rw [hr] at hen
  go_enter Tryz.func85, Tryz.ntmps85
  go_wp2_with fail
  rw [← hw1, ← hq]
  clear hw1 hq
  refine hen.mono ?_
  rintro e w2 ⟨v, rfl, _, hb2⟩
  have HB2 := qH (HB1.out.trans (hb2.mono HB1.out.size))
  clear hb2 hen
  go_wp2_with fail
  go_ret
  exact ⟨rfl, HB2.out⟩
 | true =>
  rw [hr] at hen
  go_enter Tryz.func85, Tryz.ntmps85
  go_wp2_with fail
  rw [← hw1, ← hq]
  clear hw1 hq
  refine hen.mono ?_
  rintro e w2 ⟨v, rfl, _, hb2⟩
  have hbx : Bx1 w2 q wb n c na f := ⟨(hb2.cell (p := ⟨q, 0, none⟩) HQL.out).trans C1.out, Nat.lt_of_lt_of_le HQL.out hb2.size, HW.out.next hb2⟩
  have hct := contains_any _ #[.pointer (some ⟨q, 0, none⟩)] enters_120 _ w2 (gives_120 hbx hn) a m k E (HE.out.next hb2) (by omega)
  have HB2 := qH (HB1.out.trans (hb2.mono HB1.out.size))
  clear hb2 hen hbx
  cases hx : E.any fun y => decide ((n : Int) ≤ y.i) with
  | false =>
   have HX := qH hx; rw [hx] at hct; clear hx; go_wp2_with fail; refine hct.mono ?_; rintro e w3 ⟨rfl, hb3⟩; have HB3 := qH (HB2.out.trans (hb3.mono HB2.out.size)); clear hb3 hct; go_wp2_with fail; go_ret
   exact ⟨by rw [HX.out]; rfl, HB3.out⟩
  | true =>
   have HX := qH hx; rw [hx] at hct; clear hx; go_wp2_with fail; refine hct.mono ?_; rintro e w3 ⟨rfl, hb3⟩; have HB3 := qH (HB2.out.trans (hb3.mono HB2.out.size)); clear hb3 hct; go_wp2_with fail; go_ret
   exact ⟨by rw [HX.out]; rfl, HB3.out⟩
end
end Go.Proofs.YtinholnidchblaaGreatDoor
