/-
  The program's Groups, by contract: the walk.
-/
import Derived.Test.YtegmeoghonolcaaGreatSoa
set_option linter.unusedSimpArgs false
set_option linter.unusedVariables false
namespace Go.Proofs.YtegmeoghonolcaaGreat
open Go.RowKit Go.Maps
set_option linter.unusedVariables false

/-- What Groups answers. -/
def GsPost (L : List Inf) (w0 : World) (e : Ending) (w' : World) : Prop :=
  ∃ v n F, e = .returned v ∧ OwnG w' w0.heap.size v n F ∧ GroupsOf L (F.map Gc.gr) ∧ n ≤ L.length ∧ Below w0.heap.size w0 w'
theorem size_le {w : World} {P : Program} {k : TypeId} {R : Value → Option (DataW Unit × List MemPlace)} {b n : Nat} {D : DataW Unit} (h : w.ownsMap P k R b n D) : Maps.size D ≤ n := by
  obtain ⟨es, clock, hb, F, hs, rfl⟩ := h
  rw [Maps.size_eq, length_sorted]
  simpa using hs
theorem OwnG.lower {w : World} {B C : Nat} {v : Value} {n : Nat} {F : List Gc} (h : OwnG w B v n F) (hC : C ≤ B) : OwnG w C v n F := by
  refine ⟨⟨h.row.1, ?_⟩, fun x hx => (h.each x hx).lower hC, h.apart⟩
  rcases h.row.2 with h0 | ⟨g, cap, cur, a, b, c⟩
  · exact .inl h0
  · exact .inr ⟨g, cap, cur, a, Nat.le_trans hC b, c⟩
theorem done_groups {L : List Inf} {left : Lit → Bool} {F S : List Gc} (h : Done L left F) (hl : ∀ kl, left kl = false) (hp : S.Perm F) (hs : S.Pairwise (fun a b => ¬ (b.q < a.q ∨ (b.q = a.q ∧ b.n < a.n)))) (hn : ∀ x ∈ S, x.s.length = x.n) : GroupsOf L (S.map Gc.gr) := by
  have hpm := hp.map Gc.gr
  refine groups_sorted ?_ ((hpm.nodup_iff).2 h.nodup) fun G => ?_
  · rw [List.pairwise_map]
    have h2 : S.Pairwise fun a b => a ∈ S ∧ b ∈ S := List.pairwise_of_forall_mem_list fun a ha b hb => ⟨ha, hb⟩
    refine (hs.and h2).imp ?_
    intro a b ⟨h1, ha, hb⟩
    unfold ltG Gc.gr
    simp only [hn a ha, hn b hb]
    exact h1
  · rw [hpm.mem_iff, h.mem G]
    constructor
    · rintro ⟨f, c, _, _, d⟩; exact ⟨f, c, d⟩
    · rintro ⟨f, c, d⟩; exact ⟨f, c, d.ne, hl _, d⟩
theorem OwnI.len {w : World} {B : Nat} {v : Value} {n : Nat} {ks : List Int} (h : OwnI w B v n ks) : ks.length = n := by
  have := h.1
  simpa using this
theorem kin_cells {w : World} {f c : Int} : (w.alloc (.cells #[.int .i64 f, .int .i64 c] 123 (0, 0))).cell? ⟨w.heap.size, 0, none⟩ = some (.int .i64 f) ∧ (w.alloc (.cells #[.int .i64 f, .int .i64 c] 123 (0, 0))).cell? ⟨w.heap.size, 1, none⟩ = some (.int .i64 c) := ⟨by simp, by simp⟩

theorem none_or (o : Option Nat) : o = none ∨ o ≠ none := by cases o <;> simp
set_option maxHeartbeats 8000000 in
theorem groups_any (a : Option Addr) (n c : Nat) (L : List Inf) (w : World) (h : Ifs w a n L) (hW : AllW L) (hn : n ≤ 1000000000) :
    Calls Tryz.prog 24 #[.slice a n c] w (GsPost L w) := by
  have hbk := byKin_any a n c L w h hW hn
  have HL := Lib.hid h.len
  have HW := Lib.hid hW
  clear h hW
  go_enter Tryz.func24, Tryz.ntmps24
  go_wp2_with (fail)
  refine hbk.mono ?_
  rintro e w1 ⟨mb, nm, D, rfl, hgm, hnm, hmb, hB1⟩
  have hown := hgm.own
  have HGM := Lib.hid hgm
  have HB1 := Lib.hid hB1
  obtain ⟨H0, hH0⟩ : ∃ H0, H0 = w1.heap.size := ⟨_, rfl⟩
  clear hgm hbk hB1
  go_wp2_with (at_range; refine wpList_range_own _ rfl _ 120 rfl 123 52 lawG Tryz.underlying120 elemG mb nm D rfl hown ?_; intro w2 hrg2 hg2 hs2)
  go_frame
  rw [← hH0] at hrg2 hs2 ⊢
  have hmbl : mb < H0 := by rw [hH0]; exact hown.lt
  have hrows : Rows w2 w.heap.size H0 L D (Maps.has D) := by
    intro f c hne _
    obtain ⟨g, cap, a1, o1⟩ := HGM.out.rows f c hne
    refine ⟨g, cap, a1, by rw [hH0]; exact (o1.lt g rfl).2, World.ownsRow.kept o1 hg2 (.inr (by simp [Value.ownBlock]))⟩
  have hdone : Done L (Maps.has D) [] := ⟨by simp, fun G => by
    constructor
    · intro h; cases h
    · rintro ⟨f, c, a1, b1, _⟩
      rw [HGM.out.has f c a1] at b1
      cases b1⟩
  have hB2 : Below w.heap.size w w2 := HB1.out.grown hg2 (by rw [← hH0]; have := HB1.out.size; omega) (fun j hj => by cases hj)
  have hH0w : w.heap.size ≤ H0 := by rw [hH0]; exact HB1.out.size
  have hsz := size_le hown
  have HH0 := Lib.hid hH0
  clear hown hg2 hH0
  go_loopw [3, 4, 5] (fun u _p _q wr => ∃ (left : Lit → Bool) (cnt m : Nat) (F : List Gc), wr.ranges Tryz.prog 123 elemG mb H0 nm D left cnt ∧ Rows wr w.heap.size H0 L D left ∧ OwnG wr (H0 + 1) u m F ∧ Done L left F ∧ m + cnt ≤ nm ∧ H0 + 1 ≤ wr.heap.size ∧ Below w.heap.size w wr)
    (fun _ _ _ wr => wr.rangeLeft mb H0)
  case atStart => exact ⟨_, _, 0, [], hrg2, hrows, ownG_nil _ _, hdone, by omega, by omega, hB2⟩
  case round =>
    clear hrg2 hrows hdone hB2 hs2
    obtain ⟨left, cnt, m, F, hrg, hrows, hog, hdone, hmc, hwr, hB⟩ := hrel
    have HR := Lib.hid (And.intro hrows (And.intro hog (And.intro hdone hB)))
    have HRG := Lib.hid hrg
    have hlog := hog.len
    have hvf : (∃ x k, ‹Value› = .slice x m k) ∨ True := .inr trivial
    clear hrows hog hdone hB hvf hlog
    go_wp2_with (at_next; refine wpList_next_rows rfl _ rfl w1 w.heap.size mb H0 nm nm L D HGM.out HW.out left cnt rfl HRG.out ?_ ?_)
    · intro hc0 hl0
      obtain ⟨hrows, hog, hdone, hB⟩ := HR.out
      have hso := sortG_any hog (by have := hog.len; rw [HL.out] at hnm; omega)
      have HR2 := Lib.hid (And.intro hog (And.intro hdone (And.intro hB hl0)))
      clear hrows hog hdone hB hl0 hc0
      go_wp2_with (fail)
      refine hso.mono ?_
      rintro e w3 ⟨rfl, S, hp, hs, hog3, hg3⟩
      have HS := Lib.hid (And.intro hp (And.intro hs (And.intro hog3 hg3)))
      clear hso hp hs hog3 hg3
      go_wp2_with (fail)
      go_ret
      obtain ⟨hog, hdone, hB, hl0⟩ := HR2.out
      obtain ⟨hp, hs, hog3, hg3⟩ := HS.out
      refine ⟨_, m, S, rfl, hog3.lower (by omega), done_groups hdone hl0 hp hs (fun x hx => (hog3.each x hx).len), by omega, hB.grown hg3 (by omega) (fun j hj => ?_)⟩
      have := (hog.row.lt j hj).1
      omega
    · intro f c g cap w3 cnt3 hne ha hlk hrg3 hlt3 hg3 hs3 hen
      obtain ⟨hrows, hog, hdone, hB⟩ := HR.out
      obtain ⟨M, hM⟩ : ∃ M, M = (grp L f c).length := ⟨_, rfl⟩
      have hMn : M ≤ n := by rw [hM, ← HL.out]; exact List.length_filter_le _ _
      have hM0 : 0 < M := by rw [hM]; exact List.length_pos_iff.2 hne
      -- the kin's block
      obtain ⟨w4, hw4⟩ : ∃ w4, w4 = w3.alloc (.cells #[.int .i64 f, .int .i64 c] 123 (0, 0)) := ⟨_, rfl⟩
      have hg4 : w3.grownBy w4 none := by rw [hw4]; exact World.grownBy_alloc _ _ _
      have hk4 : w4.cell? ⟨w3.heap.size, 0, none⟩ = some (.int .i64 f) ∧ w4.cell? ⟨w3.heap.size, 1, none⟩ = some (.int .i64 c) := by rw [hw4]; exact kin_cells
      have hs4 : w4.heap.size = w3.heap.size + 1 := by rw [hw4]; simp
      -- its row
      have hrow4 : Rows w4 w.heap.size H0 L D left := (hrows.kept hg3 (fun j hj => by cases hj; exact Nat.le_refl _)).kept hg4 (fun j hj => by cases hj)
      have hrow : OwnF w4 w.heap.size (.slice (some ⟨g, 0, none⟩) M cap) M (grp L f c) ∧ g < H0 := by
        obtain ⟨g', cap', a1, b1, o1⟩ := hrow4 f c hne hlk
        rw [ha] at a1
        obtain ⟨rfl, _, rfl⟩ := ptG_inj a1
        rw [hM]
        exact ⟨o1, b1⟩
      obtain ⟨hrow, hgl⟩ := hrow
      have hso := sortI_any hrow (by omega)
      have hgmb : some mb ≠ some g := by
        obtain ⟨cur, fr, hb, _⟩ := HGM.out.toGmR.block hne ha
        obtain ⟨es, clock, hm, _⟩ := HGM.out.own
        intro e
        rw [Option.some.inj e, hb] at hm
        cases hm
      have HA := Lib.hid (And.intro hne (And.intro ha (And.intro hlk (And.intro hrg3 (And.intro hlt3 (And.intro hg3 (And.intro hg4 (And.intro hrow4 (And.intro hog (And.intro hdone (And.intro hB (And.intro hgmb (And.intro hs3 hs4)))))))))))))
      have HM := Lib.hid hM
      have HK4 := Lib.hid hk4
      have hwl : H0 + 1 ≤ w3.heap.size := by omega
      have hs4' : w3.heap.size < w4.heap.size := by omega
      rw [← hM] at hen ⊢
      clear hs3 hs4 hrows hog hdone hB hM hg4 hk4 hrow4 hrow ha hrg3 hlt3 hg3 hgmb
      go_wp2_with (fail)
      rw [← hw4]
      clear hw4
      refine hso.mono ?_
      rintro e w5 ⟨rfl, S, hp, hs, ho5, hg5⟩
      have hSl := ho5.len
      obtain ⟨a5, c5, e5, hif5, _, _, _⟩ := ho5.ifs
      cases e5
      have hk5 : w5.cell? ⟨w3.heap.size, 1, none⟩ = some (.int .i64 c) := hg5.cell (a := ⟨w3.heap.size, 1, none⟩) HK4.out.2 (by simp; omega)
      have hk50 : w5.cell? ⟨w3.heap.size, 0, none⟩ = some (.int .i64 f) := hg5.cell (a := ⟨w3.heap.size, 0, none⟩) HK4.out.1 (by simp; omega)
      have hkl : w3.heap.size < w5.heap.size := by have := hg5.size; omega
      have hhe := hasEach_any (some ⟨g, 0, none⟩) M cap S c w5 hif5 (by omega)
      have HS := Lib.hid (And.intro hp (And.intro hs (And.intro ho5 (And.intro hg5 (And.intro hSl hif5)))))
      clear hp hs ho5 hg5 hSl hif5 hso hen
      go_wp2_with (fail)
      refine hhe.mono ?_
      rintro e w6 ⟨ok, rfl, hok, hb6⟩
      have hkl6 := Nat.lt_of_lt_of_le hkl hb6.size
      have y0 := (hb6.cell (p := ⟨w3.heap.size, 0, none⟩) hkl).trans hk50
      have y1 := (hb6.cell (p := ⟨w3.heap.size, 1, none⟩) hkl).trans hk5
      have HB6 := Lib.hid hb6
      clear hhe hk5 hk50 hb6
      cases ok
      · have HOK := Lib.hid hok
        clear hok y0 y1
        go_wp2_with (fail)
        obtain ⟨hne, ha, hlk, hrg3, hlt3, hg3, hg4, hrow4, hog, hdone, hB, hgmb, hs3, hs4⟩ := HA.out
        obtain ⟨hp, hs, ho5, hg5, hSl, hif5⟩ := HS.out
        have hg6 := below_grown HB6.out
        have hrgN := ((hrg3.kept hg4 (by simp) (by simp)).kept hg5 hgmb (by simp; omega)).kept hg6 (by simp) (by simp)
        have HN := Lib.hid hrgN
        clear hrgN hrg3
        go_roundw
        case rel =>
          refine ⟨_, cnt3, m, F, HN.out, ?_, ?_, ?_, by omega, by have := HB6.out.size; omega, ?_⟩
          · exact (hrow4.struck HW.out HGM.out.apart hne ha hg5).kept hg6 (fun j hj => by cases hj)
          · exact (((hog.kept hg3 (fun j hj => by cases hj; omega)).kept hg4 (fun j hj => by cases hj)).kept hg5 (fun j hj => by cases hj; omega)).kept hg6 (fun j hj => by cases hj)
          · refine hdone.no HW.out hne hlk (fun G hG => ?_)
            obtain ⟨T, t1, t2, t3, t4, _⟩ := hG
            have e1 : S.Perm T := hp.trans t1.symm
            have := HOK.out.2 ⟨by rw [e1.length_eq]; exact t3, ord_sorted e1 t4 hs⟩
            cases this
          · exact (((hB.grown hg3 (by omega) (fun j hj => by cases hj; omega)).grown hg4 (by omega) (fun j hj => by cases hj)).grown hg5 (by omega) (fun j hj => by cases hj; have := (hrow4 f c hne hlk); obtain ⟨g', cap', a1, b1, o1⟩ := this; rw [ha] at a1; obtain ⟨rfl, _, _⟩ := ptG_inj a1; exact (o1.lt _ rfl).1)).trans (HB6.out.mono (by omega))
        case measure => rw [HN.out.left_eq, HRG.out.left_eq]; exact hlt3
      · obtain ⟨hSc, hSo⟩ := hok.1 rfl
        obtain ⟨hp, hs, ho5, hg5, hSl, hif5⟩ := HS.out
        have hgo := groupOf_any f c (some ⟨g, 0, none⟩) M cap S w6 (hif5.next HB6.out) hM0 (by omega)
        obtain ⟨r, hr⟩ : ∃ r, r = (S.getLastD default).r := ⟨_, rfl⟩
        obtain ⟨ks, hks⟩ : ∃ ks, ks = S.map Inf.g := ⟨_, rfl⟩
        rw [← hr, ← hks] at hgo
        have HSS := Lib.hid (And.intro hSc (And.intro hSo (And.intro hr hks)))
        clear hok hSc hSo hr hks hp hs ho5 hg5 hSl hif5
        go_wp2_with (fail)
        refine hgo.mono ?_
        rintro e w7 ⟨ga, gc, rfl, hgi, hb7⟩
        clear hgo y0 y1
        obtain ⟨N, hN⟩ : ∃ N, N = ks.length := ⟨_, rfl⟩
        rw [← hN] at hgi ⊢
        have HN := Lib.hid hN
        clear hN
        -- the row of one
        obtain ⟨hne, ha, hlk, hrg3, hlt3, hg3, hg4, hrow4, hog, hdone, hB, hgmb, hs3, hs4⟩ := HA.out
        obtain ⟨hp, hs, ho5, hg5, hSl, hif5⟩ := HS.out
        have hg6 := below_grown HB6.out
        have hg7 := below_grown hb7
        obtain ⟨w8, hw8⟩ : ∃ w8, w8 = w7.alloc (.cells #[.int .i64 f, .int .i64 r, .slice ga N gc] 63 (0, 0)) := ⟨_, rfl⟩
        have hg8 : w7.grownBy w8 none := by rw [hw8]; exact World.grownBy_alloc _ _ _
        have hi8 : w8.heap[w7.heap.size]? = some (.cells #[.int .i64 f, .int .i64 r, .slice ga N gc] 63 (0, 0)) := by rw [hw8]; exact (MapKept.heap_alloc _ _).1
        have hgc8 : ∀ j u, (gcc ⟨f, r, ga, N, gc, ks⟩)[j]? = some u → w8.cell? ⟨w7.heap.size, j, none⟩ = some u := by
          intro j u hj
          rw [cell_of_row w8 _ j _ _ (0, 0) hi8]
          simpa [gcc] using hj
        have hn5 : ∀ j, some g = some j → j < H0 + 1 := fun j hj => by cases hj; omega
        have hn0 : ∀ j, (none : Option Nat) = some j → j < H0 + 1 := fun j hj => by cases hj
        have hog8 := (((((hog.kept hg3 (fun j hj => by cases hj; omega)).kept hg4 hn0).kept hg5 hn5).kept hg6 hn0).kept hg7 hn0).kept hg8 hn0
        have hgi8' : OwnI w8 w6.heap.size (.slice ga N gc) N ks := World.ownsRow.kept hgi hg8 (none_or _)
        have hgi8 : OwnI w8 (H0 + 1) (.slice ga N gc) N ks := hgi8'.lower (by omega)
        have hza : ∀ j, (Value.slice ga N gc).ownBlock = some j → u3.ownBlock ≠ some j := fun j hj e => by
          have h1 := (hgi.lt j hj).1
          have h2 := (hog.row.lt j e).2
          have := hg3.size; have := hg4.size; have := hg5.size; have := hg6.size
          omega
        have hs8 : H0 + 1 ≤ w8.heap.size := by have := hg7.size; have := hg8.size; omega
        have hm1 : m + 1 ≤ 1000000000000 := by rw [HL.out] at hnm; omega
        have HB8 := Lib.hid (And.intro hog8 (And.intro hg6 (And.intro hg7 (And.intro hg8 hs8))))
        clear hne ha hlk hrg3 hlt3 hg3 hg4 hrow4 hog hdone hB hgmb hs3 hs4 hp hs ho5 hg5 hSl hif5 hg6 hg7 hg8 hi8 hgi hgi8' hn5 hn0 hb7
        go_wp2_with (at_builtin; rw [← hw8]; go_must (refine wpList_apg rfl (.tmp 20) (.tmp 24) rfl (H0 + 1) u3 m F rfl hog8 w7.heap.size ⟨f, r, ga, N, gc, ks⟩ rfl hgc8 hgi8 hza hm1 hs8 ?_); intro g' cap' w9 hog9 hg9; have HO9 := Lib.hid (And.intro hog9 hg9); clear hog9 hg9 hog8 hgc8 hgi8 hza hw8)
        obtain ⟨hne, ha, hlk, hrg3, hlt3, hg3, hg4, hrow4, hog, hdone, hB, hgmb, hs3, hs4⟩ := HA.out
        obtain ⟨hp, hs, ho5, hg5, hSl, hif5⟩ := HS.out
        obtain ⟨hog8, hg6, hg7, hg8, hs8⟩ := HB8.out
        obtain ⟨hog9, hg9⟩ := HO9.out
        have hv : ∀ j, u3.ownBlock = some j → H0 + 1 ≤ j := fun j hj => (hog.row.lt j hj).1
        have hrgN := (((((hrg3.kept hg4 (by simp) (by simp)).kept hg5 hgmb (by simp; omega)).kept hg6 (by simp) (by simp)).kept hg7 (by simp) (by simp)).kept hg8 (by simp) (by simp)).kept hg9 (fun e => by have := hv mb e.symm; omega) (fun e => by have := hv H0 e.symm; omega)
        have HNN := Lib.hid hrgN
        clear hrgN hrg3
        go_roundw
        case rel =>
          have hz0 : ∀ j, (none : Option Nat) = some j → H0 ≤ j := fun j hj => by cases hj
          refine ⟨_, cnt3, m + 1, F ++ [⟨f, r, ga, N, gc, ks⟩], HNN.out, ?_, hog9, ?_, by omega, by have := hg9.size; omega, ?_⟩
          · exact ((((hrow4.struck HW.out HGM.out.apart hne ha hg5).kept hg6 hz0).kept hg7 hz0).kept hg8 hz0).kept hg9 (fun j hj => by have := hv j hj; omega)
          · refine hdone.yes HW.out hne hlk ⟨S, hp, ?_, HSS.out.1, HSS.out.2.1, ?_⟩
            · intro e
              rw [e] at hSl
              simp at hSl
              omega
            · unfold mkG Gc.gr
              simp only [HSS.out.2.2.1, HSS.out.2.2.2]
          · have hB3 := ((hB.grown hg3 (by omega) (fun j hj => by cases hj; omega)).grown hg4 (by omega) (fun j hj => by cases hj)).grown hg5 (by omega) (fun j hj => by cases hj; have := (hrow4 f c hne hlk); obtain ⟨g', cap', a1, b1, o1⟩ := this; rw [ha] at a1; obtain ⟨rfl, _, _⟩ := ptG_inj a1; exact (o1.lt _ rfl).1)
            have q6 := hg6.size
            have q7 := hg7.size
            have q8 := hg8.size
            exact (((hB3.grown hg6 (by omega) (fun j hj => by cases hj)).grown hg7 (by omega) (fun j hj => by cases hj)).grown hg8 (by omega) (fun j hj => by cases hj)).grown hg9 (by omega) (fun j hj => by have := hv j hj; omega)
        case measure => rw [HNN.out.left_eq, HRG.out.left_eq]; exact hlt3
end Go.Proofs.YtegmeoghonolcaaGreat

/-
  Slices of groups; when two of them are one: the law's 'same', by contract.
-/
namespace Go.Proofs.YtegmeoghonolcaaGreat
open Go.RowKit
set_option linter.unusedVariables false

/-- A slice of n groups. -/
structure Grs (w : World) (a : Option Addr) (n : Nat) (F : List Gc) : Prop where
  len : F.length = n
  place : n = 0 ∨ ∃ b off, a = some ⟨b, off, none⟩ ∧ b < w.heap.size ∧ ∀ (k j : Nat) (x : Gc) (v : Value), F[k]? = some x → (gcc x)[j]? = some v → w.cell? ⟨b, off + k * 3 + j, none⟩ = some v
  each : ∀ x ∈ F, Ins w x.a x.n x.s
theorem Grs.below {w w' : World} {a : Option Addr} {n : Nat} {F : List Gc} (h : Grs w a n F) {B : Nat} (hB : w.heap.size ≤ B) (hb : Below B w w') : Grs w' a n F := by
  refine ⟨h.len, ?_, fun x hx => (h.each x hx).below hB hb⟩
  rcases h.place with h0 | ⟨b, off, e, hlt, hc⟩
  · exact .inl h0
  · exact .inr ⟨b, off, e, Nat.lt_of_lt_of_le hlt hb.size, fun k j x v hk hj => (hb.cell (p := ⟨b, off + k * 3 + j, none⟩) (by show b < B; omega)).trans (hc k j x v hk hj)⟩
theorem Grs.next {w w' : World} {a : Option Addr} {n : Nat} {F : List Gc} (h : Grs w a n F) (hb : Below w.heap.size w w') : Grs w' a n F := h.below (Nat.le_refl _) hb
theorem Grs.at {w : World} {a : Option Addr} {n k : Nat} {F : List Gc} (h : Grs w a n F) (hk : k < n) :
    ∃ b off q r x m c s, a = some ⟨b, off, none⟩ ∧ b < w.heap.size ∧ F[k]? = some ⟨q, r, x, m, c, s⟩ ∧ w.cell? ⟨b, off + k * 3, none⟩ = some (.int .i64 q) ∧ w.cell? ⟨b, off + k * 3 + 1, none⟩ = some (.int .i64 r) ∧ w.cell? ⟨b, off + k * 3 + 2, none⟩ = some (.slice x m c) ∧ Ins w x m s := by
  have hl := h.len
  obtain ⟨x, hx⟩ : ∃ x, F[k]? = some x := ⟨F[k], List.getElem?_eq_getElem (by omega)⟩
  rcases h.place with h0 | ⟨b, off, e, hlt, hc⟩
  · omega
  · have hi := h.each x (List.mem_of_getElem? hx)
    obtain ⟨q, r, y, m, c, s⟩ := x
    exact ⟨b, off, q, r, y, m, c, s, e, hlt, hx, hc k 0 _ _ hx rfl, hc k 1 _ _ hx rfl, hc k 2 _ _ hx rfl, hi⟩
theorem OwnG.grs {w : World} {B : Nat} {v : Value} {n : Nat} {F : List Gc} (h : OwnG w B v n F) : ∃ a c, v = .slice a n c ∧ Grs w a n F ∧ n ≤ c ∧ c ≤ 9223372036854775807 ∧ (∀ x, a = some x → B ≤ x.block ∧ x.block < w.heap.size) := by
  have hl := h.len
  have he : ∀ x ∈ F, Ins w x.a x.n x.s := fun x hx => by
    obtain ⟨a, c, e, hi, _⟩ := (h.each x hx).ins
    cases e
    exact hi
  rcases h.row.2 with ⟨rfl, rfl⟩ | ⟨g, cap, cur, rfl, hb, hg, hnc, hm, hsz, htake⟩
  · exact ⟨none, 0, rfl, ⟨hl, .inl rfl, he⟩, Nat.le_refl _, by omega, (fun x hx => by cases hx)⟩
  · refine ⟨some ⟨g, 0, none⟩, cap, rfl, ⟨hl, .inr ⟨g, 0, rfl, lt_of_block hg, fun k j x v hk hj => ?_⟩, he⟩, hnc, by unfold maxLen at hm; omega, fun x hx => by cases hx; exact ⟨hb, lt_of_block hg⟩⟩
    have hkl : k < F.length := by
      rcases Nat.lt_or_ge k F.length with h1 | h1
      · exact h1
      · rw [List.getElem?_eq_none h1] at hk; cases hk
    have hjl : j < 3 := by
      rcases Nat.lt_or_ge j (gcc x).length with h1 | h1
      · exact h1
      · rw [List.getElem?_eq_none h1] at hj; cases hj
    have hf := fm_get (enc := gcc) (k := 3) (by decide) gcc_len F (k * 3 + j) (by omega)
    rw [show (k * 3 + j) / 3 = k by omega, show (k * 3 + j) % 3 = j by omega, getElem!_pos F k hkl] at hf
    rw [List.getElem?_eq_getElem hkl] at hk
    cases hk
    rw [getElem!_pos _ j (by rw [gcc_len]; exact hjl)] at hf
    rw [List.getElem?_eq_getElem (by rw [gcc_len]; exact hjl)] at hj
    cases hj
    have hc := h.row.cells (g := g) rfl (k * 3 + j) _ hf
    have e : (⟨g, 0, none⟩ : Addr).add (k * 3 + j) = ⟨g, 0 + k * 3 + j, none⟩ := by
      unfold Addr.add
      split
      · simp
      · simp_all
    rw [← e]
    exact hc

def SmI (w0 : World) (n : Nat) (v : Value) (w : World) : Prop := ∃ k : Nat, k ≤ n ∧ v = .int .i64 k ∧ ∃ q, w = w0.drewN q
set_option maxHeartbeats 1000000 in
theorem sameInts_yes (a b : Option Addr) (n c d : Nat) (ks : List Int) (w : World) (h1 : Ins w a n ks) (h2 : Ins w b n ks) (hn : n ≤ 1000000000000) :
    Calls Tryz.prog 26 #[.slice a n c, .slice b n d] w fun e w' => e = .returned (.bool true) ∧ Below w.heap.size w w' := by
  go_enter Tryz.func26, Tryz.ntmps26
  go_wp2_with (fail)
  go_loopw [5] (fun v wr => SmI w n v wr) (fun v _ => n - (RowKit.intOf v).toNat)
  case atStart => exact ⟨0, by omega, rfl, 0, rfl⟩
  case round =>
    obtain ⟨k, hk, rfl, q, hq⟩ := hrel
    have hB : Below w.heap.size w wr := by rw [hq]; exact below_drewN (Below.refl _ _) q
    have HQ := Lib.hid hq
    clear hq
    by_cases hlt : k < n
    · rcases h1.2 with h0 | ⟨g1, o1, rfl, l1, c1⟩
      · omega
      rcases h2.2 with h0 | ⟨g2, o2, rfl, l2, c2⟩
      · omega
      have k0 : (0 : Int) ≤ (k : Int) := by omega
      have k1 : (k : Int) < (n : Int) := by omega
      have x1 := (hB.cell (p := ⟨g1, o1 + k, none⟩) l1).trans (c1 k hlt)
      have x2 := (hB.cell (p := ⟨g2, o2 + k, none⟩) l2).trans (c2 k hlt)
      clear h1 h2 c1 c2
      go_wp2_with (fail)
      go_quiet (fail)
      go_wp2_with (fail)
      go_roundw
      case rel => exact ⟨k + 1, by omega, by go_num, q + nq, by rw [HQ.out, World.drewN_drewN]⟩
      case measure => simp [RowKit.intOf]; omega
    · obtain rfl : k = n := by omega
      clear h1 h2
      go_wp2_with (fail)
      go_ret
      exact ⟨rfl, hB⟩

set_option maxRecDepth 100000 in
set_option maxHeartbeats 4000000 in
theorem same_yes (a b : Option Addr) (n c d : Nat) (F G : List Gc) (w : World) (h1 : Grs w a n F) (h2 : Grs w b n G) (hn : n ≤ 1000000000000) (he : F.map Gc.gr = G.map Gc.gr) (hs : ∀ x ∈ F, x.n ≤ 1000000000000) :
    Calls Tryz.prog 23 #[.slice a n c, .slice b n d] w fun e w' => e = .returned (.bool true) ∧ Below w.heap.size w w' := by
  have HE := Lib.hid he
  have HS := Lib.hid hs
  clear he hs
  go_enter Tryz.func23, Tryz.ntmps23
  go_wp2_with (fail)
  go_loopw [5] (fun v wr => ∃ k : Nat, k ≤ n ∧ v = .int .i64 k ∧ Below w.heap.size w wr) (fun v _ => n - (RowKit.intOf v).toNat)
  case atStart => exact ⟨0, Nat.zero_le _, rfl, Below.refl _ _⟩
  case round =>
    obtain ⟨k, hk, rfl, hB⟩ := hrel
    have HB := Lib.hid hB
    by_cases hlt : k < n
    · obtain ⟨g1, o1, q, r, x, m, cx, s, rfl, l1, e1, y0, y1, y2, hi⟩ := (h1.next hB).at hlt
      obtain ⟨g2, o2, q', r', x', m', cx', s', rfl, l2, e2, z0, z1, z2, hi'⟩ := (h2.next hB).at hlt
      have hm := HS.out _ (List.mem_of_getElem? e1)
      have hgr : (⟨q, r, s⟩ : Gr) = ⟨q', r', s'⟩ := by
        have a1 : (F.map Gc.gr)[k]? = some ⟨q, r, s⟩ := by rw [List.getElem?_map, e1]; rfl
        have a2 : (G.map Gc.gr)[k]? = some ⟨q', r', s'⟩ := by rw [List.getElem?_map, e2]; rfl
        rw [HE.out, a2] at a1
        exact (Option.some.inj a1).symm
      cases hgr
      obtain rfl : m = m' := by rw [← hi.len, ← hi'.len]
      have hsi := fun W (hb : Below wr.heap.size wr W) => sameInts_yes x x' m cx cx' s W (hi.next hb) (hi'.next hb) hm
      have HSI := Lib.hid hsi
      have k0 : (0 : Int) ≤ (k : Int) := by omega
      have k1 : (k : Int) < (n : Int) := by omega
      have hx1 : wr.drew.cell? ⟨g1, o1 + k * 3, none⟩ = some (.int .i64 q) := y0
      have HY := Lib.hid (And.intro (And.intro y0 (And.intro y1 y2)) (And.intro (And.intro z0 (And.intro z1 z2)) (And.intro l1 l2)))
      clear hi hi' e1 e2 hsi h1 h2 hB hx1
      go_wp2_with (fail)
      refine wp_region_held_drew (S := fun w' => (w'.cell? ⟨g1, o1 + k * 3, none⟩ = some (.int .i64 q) ∧ w'.cell? ⟨g1, o1 + k * 3 + 1, none⟩ = some (.int .i64 r) ∧ w'.cell? ⟨g1, o1 + k * 3 + 2, none⟩ = some (.slice x m cx)) ∧ (w'.cell? ⟨g2, o2 + k * 3, none⟩ = some (.int .i64 q) ∧ w'.cell? ⟨g2, o2 + k * 3 + 1, none⟩ = some (.int .i64 r) ∧ w'.cell? ⟨g2, o2 + k * 3 + 2, none⟩ = some (.slice x' m cx'))) (by kernel_rfl) ?_ (fun hHeld => ?_)
      · exact ⟨HY.out.1, HY.out.2.1⟩
      clear y0 y1 y2 z0 z1 z2
      refine rgY 0 ?_ rfl (by kernel_rfl) (fun _ _ _ h => h) (.inl ⟨by rfl, fun w hSw => ?_⟩) (by assumption) ?_
      rotate_left
      · (try dsimp only at hSw); go_simp; try with_reducible rfl
      simp only [Act.put, rg1, rg2, rg3, rg4, rg6]
      refine rgY 1 ?_ rfl (by kernel_rfl) (fun _ _ _ h => h) (.inl ⟨by rfl, fun w hSw => ?_⟩) (by assumption) ?_
      rotate_left
      · (try dsimp only at hSw); go_simp; try with_reducible rfl
      simp only [Act.put, rg1, rg2, rg3, rg4, rg5, rg6]
      refine rgY 2 ?_ rfl (by kernel_rfl) (fun _ _ _ h => h) (.inl ⟨by rfl, fun w hSw => ?_⟩) (by assumption) ?_
      rotate_left
      · (try dsimp only at hSw); go_simp; try with_reducible rfl
      simp only [Act.put, rg1, rg2, rg3, rg4, rg5, rg6]
      refine rgY 3 ?_ rfl (by kernel_rfl) (fun _ _ _ h => h) (.inl ⟨by rfl, fun w hSw => ?_⟩) (by assumption) ?_
      rotate_left
      · (try dsimp only at hSw); go_simp; try with_reducible rfl
      simp only [Act.put, rg1, rg2, rg3, rg4, rg5, rg6]
      refine rgY 4 ?_ rfl (by kernel_rfl) (fun _ _ _ h => h) (.inl ⟨by rfl, fun w hSw => ?_⟩) (by assumption) ?_
      rotate_left
      · (try dsimp only at hSw); go_simp; try with_reducible rfl
      simp only [Act.put, rg1, rg2, rg3, rg4, rg5, rg6]
      refine rgY 5 ?_ rfl (by kernel_rfl) (fun _ _ _ h => h) (.inl ⟨by rfl, fun w hSw => ?_⟩) (by assumption) ?_
      rotate_left
      · (try dsimp only at hSw); go_simp; try with_reducible rfl
      simp only [Act.put, rg1, rg2, rg3, rg4, rg5, rg6]
      refine rgY 6 ?_ rfl (by kernel_rfl) (fun _ _ _ h => h) (.inl ⟨by rfl, fun w hSw => ?_⟩) (by assumption) ?_
      rotate_left
      · (try dsimp only at hSw); go_simp; try with_reducible rfl
      simp only [Act.put, rg1, rg2, rg3, rg4, rg5, rg6]
      refine rgY 7 ?_ rfl (by kernel_rfl) (fun _ _ _ h => h) (.inl ⟨by rfl, fun w hSw => ?_⟩) (by assumption) ?_
      rotate_left
      · (try dsimp only at hSw); go_simp; try with_reducible rfl
      simp only [Act.put, rg1, rg2, rg3, rg4, rg5, rg6]
      refine rgY 8 ?_ rfl (by kernel_rfl) (fun _ _ _ h => h) (.inl ⟨by rfl, fun w hSw => ?_⟩) (by assumption) ?_
      rotate_left
      · (try dsimp only at hSw); go_simp; try with_reducible rfl
      simp only [Act.put, rg1, rg2, rg3, rg4, rg5, rg6]
      refine rgY 9 ?_ rfl (by kernel_rfl) (fun _ _ _ h => h) (.inl ⟨by rfl, fun w hSw => ?_⟩) (by assumption) ?_
      rotate_left
      · (try dsimp only at hSw); go_simp; try with_reducible rfl
      simp only [Act.put, rg1, rg2, rg3, rg4, rg5, rg6]
      refine rgY 10 ?_ rfl (by kernel_rfl) (fun _ _ _ h => h) (.inl ⟨by rfl, fun w hSw => ?_⟩) (by assumption) ?_
      rotate_left
      · (try dsimp only at hSw); go_simp; try with_reducible rfl
      simp only [Act.put, rg1, rg2, rg3, rg4, rg5, rg6]
      refine rgY 11 ?_ rfl (by kernel_rfl) (fun _ _ _ h => h) (.inl ⟨by rfl, fun w hSw => ?_⟩) (by assumption) ?_
      rotate_left
      · (try dsimp only at hSw); go_simp; try with_reducible rfl
      simp only [Act.put, rg1, rg2, rg3, rg4, rg5, rg6]
      refine rgY 12 ?_ rfl (by kernel_rfl) (fun _ _ _ h => h) (.inl ⟨by rfl, fun w hSw => ?_⟩) (by assumption) ?_
      rotate_left
      · (try dsimp only at hSw); go_simp; try with_reducible rfl
      simp only [Act.put, rg1, rg2, rg3, rg4, rg5, rg6]
      refine rgY 13 ?_ rfl (by kernel_rfl) (fun _ _ _ h => h) (.inl ⟨by rfl, fun w hSw => ?_⟩) (by assumption) ?_
      rotate_left
      · (try dsimp only at hSw); go_simp; try with_reducible rfl
      simp only [Act.put, rg1, rg2, rg3, rg4, rg5, rg6]
      refine rgY 14 ?_ rfl (by kernel_rfl) (fun _ _ _ h => h) (.inl ⟨by rfl, fun w hSw => ?_⟩) (by assumption) ?_
      rotate_left
      · (try dsimp only at hSw); go_simp; try with_reducible rfl
      simp only [Act.put, rg1, rg2, rg3, rg4, rg5, rg6]
      refine rgY 15 ?_ rfl (by kernel_rfl) (fun _ _ _ h => h) (.inl ⟨by rfl, fun w hSw => ?_⟩) (by assumption) ?_
      rotate_left
      · (try dsimp only at hSw); go_simp; try with_reducible rfl
      simp only [Act.put, rg1, rg2, rg3, rg4, rg5, rg6]
      refine rgY 16 ?_ rfl (by kernel_rfl) (fun _ _ _ h => h) (.inl ⟨by rfl, fun w hSw => ?_⟩) (by assumption) ?_
      rotate_left
      · (try dsimp only at hSw); go_simp; try with_reducible rfl
      simp only [Act.put, rg1, rg2, rg3, rg4, rg5, rg6]
      refine rgY 17 ?_ rfl (by kernel_rfl) (fun _ _ _ h => h) (.inl ⟨by rfl, fun w hSw => ?_⟩) (by assumption) ?_
      rotate_left
      · (try dsimp only at hSw); go_simp; try with_reducible rfl
      simp only [Act.put, rg1, rg2, rg3, rg4, rg5, rg6]
      refine rgY 18 ?_ rfl (by kernel_rfl) (fun _ _ _ h => h) (.inl ⟨by rfl, fun w hSw => ?_⟩) (by assumption) ?_
      rotate_left
      · (try dsimp only at hSw); go_simp; try with_reducible rfl
      simp only [Act.put, rg1, rg2, rg3, rg4, rg5, rg6]
      refine rgY 19 ?_ rfl (by kernel_rfl) (fun _ _ _ h => h) (.inl ⟨by rfl, fun w hSw => ?_⟩) (by assumption) ?_
      rotate_left
      · (try dsimp only at hSw); go_simp; try with_reducible rfl
      simp only [Act.put, rg1, rg2, rg3, rg4, rg5, rg6]
      refine rgY 20 ?_ rfl (by kernel_rfl) (fun _ _ _ h => h) (.inl ⟨by rfl, fun w hSw => ?_⟩) (by assumption) ?_
      rotate_left
      · (try dsimp only at hSw); go_simp; try with_reducible rfl
      simp only [Act.put, rg1, rg2, rg3, rg4, rg5, rg6]
      refine rgY 21 ?_ rfl (by kernel_rfl) (fun _ _ _ h => h) (.inl ⟨by rfl, fun w hSw => ?_⟩) (by assumption) ?_
      rotate_left
      · (try dsimp only at hSw); go_simp; try with_reducible rfl
      simp only [Act.put, rg1, rg2, rg3, rg4, rg5, rg6]
      refine rgY 22 ?_ rfl (by kernel_rfl) (fun _ _ _ h => h) (.inl ⟨by rfl, fun w hSw => ?_⟩) (by assumption) ?_
      rotate_left
      · (try dsimp only at hSw); go_simp; try with_reducible rfl
      simp only [Act.put, rg1, rg2, rg3, rg4, rg5, rg6]
      refine rgY 23 ?_ rfl (by kernel_rfl) (fun _ _ _ h => h) (.inl ⟨by rfl, fun w hSw => ?_⟩) (by assumption) ?_
      rotate_left
      · (try dsimp only at hSw); go_simp; try with_reducible rfl
      simp only [Act.put, rg1, rg2, rg3, rg4, rg5, rg6]
      refine rgY 24 ?_ rfl (by kernel_rfl) (fun _ _ _ h => h) (.inl ⟨by rfl, fun w hSw => ?_⟩) (by assumption) ?_
      rotate_left
      · (try dsimp only at hSw); go_simp; try with_reducible rfl
      simp only [Act.put, rg1, rg2, rg3, rg4, rg5, rg6]
      refine rgY 25 ?_ rfl (by kernel_rfl) (fun _ _ _ h => h) (.inl ⟨by rfl, fun w hSw => ?_⟩) (by assumption) ?_
      rotate_left
      · (try dsimp only at hSw); go_simp; try with_reducible rfl
      simp only [Act.put, rg1, rg2, rg3, rg4, rg5, rg6]
      refine rgY 26 ?_ rfl (by kernel_rfl) (fun _ _ _ h => h) (.inl ⟨by rfl, fun w hSw => ?_⟩) (by assumption) ?_
      rotate_left
      · (try dsimp only at hSw); go_simp; try with_reducible rfl
      simp only [Act.put, rg1, rg2, rg3, rg4, rg5, rg6]
      refine rgY 27 ?_ rfl (by kernel_rfl) (fun _ _ _ h => h) (.inl ⟨by rfl, fun w hSw => ?_⟩) (by assumption) ?_
      rotate_left
      · (try dsimp only at hSw); go_simp; try with_reducible rfl
      simp only [Act.put, rg1, rg2, rg3, rg4, rg5, rg6]
      refine rgY 28 ?_ rfl (by kernel_rfl) (fun _ _ _ h => h) (.inl ⟨by rfl, fun w hSw => ?_⟩) (by assumption) ?_
      rotate_left
      · (try dsimp only at hSw); go_simp; try with_reducible rfl
      simp only [Act.put, rg1, rg2, rg3, rg4, rg5, rg6]
      refine rgY 29 ?_ rfl (by kernel_rfl) (fun _ _ _ h => h) (.inl ⟨by rfl, fun w hSw => ?_⟩) (by assumption) ?_
      rotate_left
      · (try dsimp only at hSw); go_simp; try with_reducible rfl
      simp only [Act.put, rg1, rg2, rg3, rg4, rg5, rg6]
      refine rgY 30 ?_ rfl (by kernel_rfl) (fun _ _ _ h => h) (.inl ⟨by rfl, fun w hSw => ?_⟩) (by assumption) ?_
      rotate_left
      · (try dsimp only at hSw); go_simp; try with_reducible rfl
      simp only [Act.put, rg1, rg2, rg3, rg4, rg5, rg6]
      refine rgY 31 ?_ rfl (by kernel_rfl) (fun _ _ _ h => h) (.inl ⟨by rfl, fun w hSw => ?_⟩) (by assumption) ?_
      rotate_left
      · (try dsimp only at hSw); go_simp; try with_reducible rfl
      simp only [Act.put, rg1, rg2, rg3, rg4, rg5, rg6]
      refine rgY 32 ?_ rfl (by kernel_rfl) (fun _ _ _ h => h) (.inl ⟨by rfl, fun w hSw => ?_⟩) (by assumption) ?_
      rotate_left
      · (try dsimp only at hSw); go_simp; try with_reducible rfl
      simp only [Act.put, rg1, rg2, rg3, rg4, rg5, rg6]
      refine rgY 33 ?_ rfl (by kernel_rfl) (fun _ _ _ h => h) (.inl ⟨by rfl, fun w hSw => ?_⟩) (by assumption) ?_
      rotate_left
      · (try dsimp only at hSw); go_simp; try with_reducible rfl
      simp only [Act.put, rg1, rg2, rg3, rg4, rg5, rg6]
      refine rgY 34 ?_ rfl (by kernel_rfl) (fun _ _ _ h => h) (.inl ⟨by rfl, fun w hSw => ?_⟩) (by assumption) ?_
      rotate_left
      · (try dsimp only at hSw); go_simp; try with_reducible rfl
      simp only [Act.put, rg1, rg2, rg3, rg4, rg5, rg6]
      refine wpAnyH_ready (rs := [35]) (by kernel_rfl) (by simp) ?_
      refine AllReadyH.cons rfl (fun K hK => ?_) AllReadyH.nil
      simp only [List.getElem_toArray, List.getElem_cons_succ, List.getElem_cons_zero]
      go_simp
      refine (HSI.out _ (below_drewN (Below.refl _ _) 1)).mono ?_
      rintro e w2 ⟨rfl, hb2⟩
      have hb2' := (below_drewN (Below.refl wr.heap.size wr) 1).trans hb2
      have HB2 := Lib.hid (HB.out.trans (hb2'.mono HB.out.size))
      have HY2 := Lib.hid (And.intro (And.intro ((hb2'.cell (p := ⟨g1, o1 + k * 3, none⟩) HY.out.2.2.1).trans HY.out.1.1) (And.intro ((hb2'.cell (p := ⟨g1, o1 + k * 3 + 1, none⟩) HY.out.2.2.1).trans HY.out.1.2.1) ((hb2'.cell (p := ⟨g1, o1 + k * 3 + 2, none⟩) HY.out.2.2.1).trans HY.out.1.2.2)))
        (And.intro ((hb2'.cell (p := ⟨g2, o2 + k * 3, none⟩) HY.out.2.2.2).trans HY.out.2.1.1) (And.intro ((hb2'.cell (p := ⟨g2, o2 + k * 3 + 1, none⟩) HY.out.2.2.2).trans HY.out.2.1.2.1) ((hb2'.cell (p := ⟨g2, o2 + k * 3 + 2, none⟩) HY.out.2.2.2).trans HY.out.2.1.2.2))))
      clear hb2 hb2'
      go_wp2_with (fail)
      refine hK.out _ _ HY2.out (fun hHeld => ?_)
      clear hK K
      refine rgY 36 ?_ rfl (by kernel_rfl) (fun _ _ _ h => h) (.inl ⟨by rfl, fun w hSw => ?_⟩) (by assumption) ?_
      rotate_left
      · (try dsimp only at hSw); go_simp; try with_reducible rfl
      simp only [Act.put, rg1, rg2, rg3, rg4, rg5, rg6]
      refine rgY 37 ?_ rfl (by kernel_rfl) (fun _ _ _ h => h) (.inl ⟨by rfl, fun w hSw => ?_⟩) (by assumption) ?_
      rotate_left
      · (try dsimp only at hSw); go_simp; try with_reducible rfl
      simp only [Act.put, rg1, rg2, rg3, rg4, rg5, rg6]
      refine wpAnyH_done (by kernel_rfl) ?_ _
      clear hHeld
      go_wp2_with (fail)
      go_roundw
      case rel => exact ⟨k + 1, by omega, by go_num, HB2.out⟩
      case measure => simp [RowKit.intOf]; omega
    · obtain rfl : k = n := by omega
      clear h1 h2 hB
      go_wp2_with (fail)
      go_ret
      exact ⟨rfl, HB.out⟩
end Go.Proofs.YtegmeoghonolcaaGreat
