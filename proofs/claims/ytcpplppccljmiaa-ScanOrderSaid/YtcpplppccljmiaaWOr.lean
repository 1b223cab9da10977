/-
  The law ScanOrder, walked.
-/
import Derived.Test.YtcpplppccljmiaaOr1
import Derived.Test.YtcpplppccljmiaaAl8
namespace Go.Proofs.Ytcpplppccljmiaa
open Go.RowKit
set_option linter.unusedVariables false

theorem apart_or {a b : Option Nat} (h : ∀ g, a = some g → b ≠ some g) : a = none ∨ a ≠ b := by
  cases a with
  | none => exact .inl rfl
  | some g => exact .inr fun e => h g rfl e.symm
/-- What the law has at the head of its first loop. -/
def OrRel (W wr : World) (B : Nat) (i : Nat) (u s e : Value) : Prop :=
  ∃ (Ks : List Kb) (len : Nat) (seq : Int) (E : List Int), RowK Ks i len seq E ∧ s = .int .i64 seq ∧ OwnF wr B u len (flatB Ks) ∧ OwnI wr B e i E ∧ (∀ g, u.ownBlock = some g → e.ownBlock ≠ some g) ∧ Below B W wr
set_option maxRecDepth 100000 in
set_option maxHeartbeats 8000000 in
theorem order_any (a0 : Option Addr) (n0 c0 : Nat) (x0 : List Int) (drop : Int) (w : World) (h0 : Ins w a0 n0 x0) (hl0 : n0 ≤ maxLen) :
    Calls Try.prog 4 #[.slice a0 n0 c0, .int .i64 drop] w fun e w' => e = .returned (.bool true) ∧ Below w.heap.size w w' := by
  have hal := alive_any w
  have HAL := Lib.hid hal
  have H0 := Lib.hid h0
  clear hal h0
  go_enter Try.func4, Try.ntmps4
  go_wp2_with (fail)
  refine HAL.out.mono ?_
  rintro e w1 ⟨rfl, hb1⟩
  have HB1 := Lib.hid hb1
  have H1 := Lib.hid (H0.out.next hb1)
  clear HAL hb1 H0
  by_cases hn : n0 ≤ 20
  · have hnd : (20 : Int) < (n0 : Int) ↔ False := ⟨fun h => by omega, fun h => h.elim⟩
    go_wp2_with (fail)
    go_loopw [5, 6, 7, 8, 9, 10, 11] (fun u s e v _ _ _ wr => ∃ i : Nat, i ≤ n0 ∧ v = .int .i64 i ∧ OrRel w1 wr w1.heap.size i u s e) (fun _ _ _ v _ _ _ _ => n0 - (RowKit.intOf v).toNat)
    case atStart =>
      refine ⟨0, Nat.zero_le _, rfl, [], 0, 3, [], RowK.zero, rfl, ?_, ?_, fun g e1 e2 => ?_, ?_⟩
      · exact World.ownsRow.kept (World.ownsRow_made w1 #[] 0 (Nat.le_refl _) (Nat.zero_le _) rfl) (World.grownBy_alloc _ _ _) (none_or _)
      · have := World.ownsRow_made (base := w1.heap.size) (e := 3) (size := 1) (w1.alloc (.cells #[] 39)) #[] 0 (by simp) (Nat.zero_le _) rfl
        rw [show (w1.alloc (.cells #[] 39)).heap.size = w1.heap.size + 1 by simp] at this
        exact this
      · have a1 : w1.heap.size = g := by simpa [Value.ownBlock] using e1
        have a2 : w1.heap.size + 1 = g := by simpa [Value.ownBlock] using e2
        omega
      · exact bel2 _ _ _
    case round =>
      obtain ⟨i, hi, rfl, Ks, len, seq, E, hrow, rfl, hof, hoi, hap, hB⟩ := hrel
      have hs0 := hrow.seqs
      have hm0 := hrow.most
      by_cases hlt : i < n0
      · have hi0 : (0 : Int) ≤ (i : Int) := by omega
        have hi1 : (i : Int) < (n0 : Int) := by omega
        obtain ⟨b, off, rfl, hbl, hc⟩ := (H1.out.next hB).2.resolve_left (by omega)
        have y0 := hc i hlt
        obtain ⟨d, hd, he⟩ := and3 (num x0 i)
        have HALL := Lib.hid (And.intro hrow (And.intro hof (And.intro hoi (And.intro hap hB))))
        clear hrow hof hoi hap hB hc
        go_wp2_with (fail)
        go_loopw [5, 6, 10, 11] (fun u s v _ wk => ∃ k : Nat, k ≤ 1 + d ∧ v = .int .i64 k ∧ s = .int .i64 (seq + k) ∧ OwnF wk w1.heap.size u (len + k) (flatB Ks ++ blkK (1 + d) len seq k) ∧ OwnI wk w1.heap.size u7 i E ∧ (∀ g, u.ownBlock = some g → u7.ownBlock ≠ some g) ∧ Below w1.heap.size w1 wk) (fun _ _ v _ _ => 1 + d - (RowKit.intOf v).toNat)
        case atStart =>
          obtain ⟨hrow, hof, hoi, hap, hB⟩ := HALL.out
          exact ⟨0, Nat.zero_le _, rfl, by simp, by simpa [blkK] using hof, hoi, hap, hB⟩
        case round =>
          obtain ⟨k, hk, rfl, hse, hof, hoi, hap, hB⟩ := hrel
          by_cases hkn : k < 1 + d
          · subst hse
            obtain ⟨ua, uc, rfl, hif, _, _, _⟩ := hof.ifs
            have k0 : (0 : Int) ≤ (k : Int) := by omega
            have k1 : (k : Int) < 1 + (d : Int) := by omega
            have HAL2 := Lib.hid (And.intro hof (And.intro hoi (And.intro hap hB)))
            clear hof hoi hap hB hif
            by_cases hkd : k = d
            · have hkf : ((k : Int) == (d : Int)) = true := by simp; omega
              have hk1 : k ≤ d := by omega
              have hk2 : d ≤ k := by omega
              clear hkd
              obtain ⟨hof, hoi, hap, hB⟩ := HAL2.out
              obtain ⟨w3, hw3⟩ : ∃ w3, w3 = (wr.alloc (.cells #[.int .i64 (len + k), .int .i64 (seq + k), .int .i64 (1 + d), .int .i64 k, .int .i64 0, .int .i64 1] 39 (0, 0))).alloc (.cells #[.int .i64 (len + k), .int .i64 (seq + k), .int .i64 (1 + d), .int .i64 k, .int .i64 0, .int .i64 1] 39 (0, 0)) := ⟨_, rfl⟩
              have hb3 : Below wr.heap.size wr w3 := by rw [hw3]; exact bel2 _ _ _
              have hi3 : w3.heap[wr.heap.size + 1]? = some (.cells #[.int .i64 (len + k), .int .i64 (seq + k), .int .i64 (1 + d), .int .i64 k, .int .i64 0, .int .i64 1] 39 (0, 0)) := by
                rw [hw3, show wr.heap.size + 1 = (wr.alloc (.cells #[.int .i64 (len + k), .int .i64 (seq + k), .int .i64 (1 + d), .int .i64 k, .int .i64 0, .int .i64 1] 39 (0, 0))).heap.size by simp]
                exact (MapKept.heap_alloc _ _).1
              have hxc := ifc_at hi3
              have hz : (⟨len + k, seq + k, 1 + d, k, 0, 1⟩ : Inf) = infK (1 + d) len seq k := by
                unfold infK
                rw [if_pos (by omega)]
                simp
              have hof3 := World.ownsRow.kept hof (below_grown hb3) (none_or _)
              have hB3 : w1.heap.size ≤ w3.heap.size := Nat.le_trans hB.size hb3.size
              have HW3 := Lib.hid (And.intro hb3 (And.intro hz (And.intro (World.ownsRow.kept hoi (below_grown hb3) (none_or _)) (And.intro hap (hB.trans (hb3.mono hB.size))))))
              have HOF := Lib.hid (And.intro (World.ownsRow.lt hof) (World.ownsRow.lt hoi))
              clear hb3 hi3 hz hof hoi hap hB HAL2
              go_wp2_with (at_builtin; rw [← hw3]; go_must (refine wpList_apf rfl (.tmp 56) (.tmp 58) rfl w1.heap.size (.slice ua (len + k) uc) (len + k) (flatB Ks ++ blkK (1 + d) len seq k) rfl hof3 (wr.heap.size + 1) ⟨len + k, seq + k, 1 + d, k, 0, 1⟩ rfl hxc (by omega) hB3 ?_); intro g' cap' w5 ho5 hg5 hat5; have HO5 := Lib.hid (And.intro ho5 (And.intro hg5 hat5)); clear ho5 hg5 hat5 hof3 hxc hw3)
              go_roundw
              case rel =>
                obtain ⟨hb3, hz, hoi, hap, hB⟩ := HW3.out
                obtain ⟨ho5, hg5, hat5⟩ := HO5.out
                obtain ⟨lf, li⟩ := HOF.out
                refine ⟨k + 1, by omega, by go_num, by go_num, ?_, World.ownsRow.kept hoi hg5 ?_, fun g e1 e2 => ?_, hB.grown hg5 hB3 (fun j hj => (lf j hj).1)⟩
                · rw [blkK_succ, ← List.append_assoc, ← hz]
                  exact ho5
                · cases hv : u7.ownBlock with
                  | none => exact .inl rfl
                  | some g => exact .inr fun e => hap g e.symm hv
                · obtain rfl : g' = g := by simpa [Value.ownBlock] using e1
                  rcases hat5 with h6 | h6
                  · exact hap g' h6 e2
                  · have := (li g' e2).2
                    have := hb3.size
                    omega
              case measure => simp [RowKit.intOf]; omega
            · have hkf : ((k : Int) == (d : Int)) = false := by simp; omega
              have hk1 : k < d := by omega
              clear hkd
              obtain ⟨hof, hoi, hap, hB⟩ := HAL2.out
              obtain ⟨w3, hw3⟩ : ∃ w3, w3 = (wr.alloc (.cells #[.int .i64 (len + k), .int .i64 (seq + k), .int .i64 (1 + d), .int .i64 k, .int .i64 0, .int .i64 0] 39 (0, 0))).alloc (.cells #[.int .i64 (len + k), .int .i64 (seq + k), .int .i64 (1 + d), .int .i64 k, .int .i64 0, .int .i64 0] 39 (0, 0)) := ⟨_, rfl⟩
              have hb3 : Below wr.heap.size wr w3 := by rw [hw3]; exact bel2 _ _ _
              have hi3 : w3.heap[wr.heap.size + 1]? = some (.cells #[.int .i64 (len + k), .int .i64 (seq + k), .int .i64 (1 + d), .int .i64 k, .int .i64 0, .int .i64 0] 39 (0, 0)) := by
                rw [hw3, show wr.heap.size + 1 = (wr.alloc (.cells #[.int .i64 (len + k), .int .i64 (seq + k), .int .i64 (1 + d), .int .i64 k, .int .i64 0, .int .i64 0] 39 (0, 0))).heap.size by simp]
                exact (MapKept.heap_alloc _ _).1
              have hxc := ifc_at hi3
              have hz : (⟨len + k, seq + k, 1 + d, k, 0, 0⟩ : Inf) = infK (1 + d) len seq k := by
                unfold infK
                rw [if_neg (by omega)]
                simp
              have hof3 := World.ownsRow.kept hof (below_grown hb3) (none_or _)
              have hB3 : w1.heap.size ≤ w3.heap.size := Nat.le_trans hB.size hb3.size
              have HW3 := Lib.hid (And.intro hb3 (And.intro hz (And.intro (World.ownsRow.kept hoi (below_grown hb3) (none_or _)) (And.intro hap (hB.trans (hb3.mono hB.size))))))
              have HOF := Lib.hid (And.intro (World.ownsRow.lt hof) (World.ownsRow.lt hoi))
              clear hb3 hi3 hz hof hoi hap hB HAL2
              go_wp2_with (at_builtin; rw [← hw3]; go_must (refine wpList_apf rfl (.tmp 56) (.tmp 58) rfl w1.heap.size (.slice ua (len + k) uc) (len + k) (flatB Ks ++ blkK (1 + d) len seq k) rfl hof3 (wr.heap.size + 1) ⟨len + k, seq + k, 1 + d, k, 0, 0⟩ rfl hxc (by omega) hB3 ?_); intro g' cap' w5 ho5 hg5 hat5; have HO5 := Lib.hid (And.intro ho5 (And.intro hg5 hat5)); clear ho5 hg5 hat5 hof3 hxc hw3)
              go_roundw
              case rel =>
                obtain ⟨hb3, hz, hoi, hap, hB⟩ := HW3.out
                obtain ⟨ho5, hg5, hat5⟩ := HO5.out
                obtain ⟨lf, li⟩ := HOF.out
                refine ⟨k + 1, by omega, by go_num, by go_num, ?_, World.ownsRow.kept hoi hg5 ?_, fun g e1 e2 => ?_, hB.grown hg5 hB3 (fun j hj => (lf j hj).1)⟩
                · rw [blkK_succ, ← List.append_assoc, ← hz]
                  exact ho5
                · cases hv : u7.ownBlock with
                  | none => exact .inl rfl
                  | some g => exact .inr fun e => hap g e.symm hv
                · obtain rfl : g' = g := by simpa [Value.ownBlock] using e1
                  rcases hat5 with h6 | h6
                  · exact hap g' h6 e2
                  · have := (li g' e2).2
                    have := hb3.size
                    omega
              case measure => simp [RowKit.intOf]; omega
          · obtain ⟨ua, uc, rfl, hif, _, _, _⟩ := hof.ifs
            obtain ⟨N, hN⟩ : ∃ N, N = len + k := ⟨_, rfl⟩
            obtain ⟨q, hq⟩ : ∃ q : Int, q = seq + (k : Int) := ⟨_, rfl⟩
            rw [← hq] at hse
            subst hse
            have hq1 : q ≤ 1000 := by omega
            have hq0 : 0 ≤ q := by omega
            rw [← hN] at hof ⊢
            have k1 : 1 + (d : Int) ≤ (k : Int) := by omega
            obtain ⟨t, ht, hte⟩ := and1 (i : Int)
            have hB3 : w1.heap.size ≤ wr.heap.size := hB.size
            obtain ⟨w3, hw3⟩ : ∃ w3, w3 = wr.alloc (.cells #[.int .i64 N] 3 (0, 0)) := ⟨_, rfl⟩
            have hg3 : wr.grownBy w3 none := by rw [hw3]; exact World.grownBy_alloc _ _ _
            have hc3 : w3.cell? ⟨wr.heap.size, 0, none⟩ = some (.int .i64 N) := by rw [hw3]; simp
            have hoi3 : OwnI w3 w1.heap.size u7 i E := World.ownsRow.kept hoi hg3 (none_or _)
            have hs3 : w1.heap.size ≤ w3.heap.size := Nat.le_trans hB3 hg3.size
            have HIN := Lib.hid (And.intro hof (And.intro hoi (And.intro hap (And.intro hB (And.intro hg3 (And.intro hN hq))))))
            have HK := Lib.hid (And.intro hk hkn)
            have hi1 : i + 1 ≤ 1000000000000 := by omega
            have hN1 : N ≤ 1000 := by omega
            clear hof hoi hap hB hif hg3 hN hq hk hkn
            go_wp2_with (at_builtin; rw [← hw3]; go_must (refine wpList_apn rfl (.tmp 62) (.tmp 65) rfl w1.heap.size u7 i E rfl hoi3 wr.heap.size N rfl hc3 hi1 hs3 ?_); intro g' cap' w5 ho5 hg5 hat5; have HO5 := Lib.hid (And.intro ho5 (And.intro hg5 hat5)); clear ho5 hg5 hat5 hoi3 hc3 hw3)
            go_roundw
            case rel =>
              obtain ⟨hrow, _, _, _, _⟩ := HALL.out
              obtain ⟨hof, hoi, hap, hB, hg3, hN, hq⟩ := HIN.out
              obtain ⟨hk, hkn⟩ := HK.out
              obtain rfl : k = 1 + d := by omega
              obtain ⟨ho5, hg5, hat5⟩ := HO5.out
              subst hN
              refine ⟨i + 1, by omega, by go_num, Ks ++ [kbK (1 + d) len seq], len + (1 + d), q + t, E ++ [((len + (1 + d) : Nat) : Int)], hrow.next (by omega) (by omega) (by omega) (by omega), rfl, ?_, ho5, fun g e1 e2 => ?_, (hB.grown hg3 hB3 (fun j hj => by cases hj)).grown hg5 hs3 (fun j hj => (World.ownsRow.lt hoi j hj).1)⟩
              · rw [flatB_append, flatB_one]
                exact World.ownsRow.kept (World.ownsRow.kept hof hg3 (none_or _)) hg5 (apart_or hap)
              · obtain rfl : g' = g := by simpa [Value.ownBlock] using e2
                rcases hat5 with h6 | h6
                · exact hap g' e1 h6
                · have := (World.ownsRow.lt hof g' e1).2
                  have := hg3.size
                  omega
            case measure => simp [RowKit.intOf]; omega
      · obtain rfl : i = n0 := by omega
        obtain ⟨ua, uc, rfl, hif, _, _, _⟩ := hof.ifs
        obtain ⟨L, hL⟩ : ∃ L, L = flatB Ks := ⟨_, rfl⟩
        rw [← hL] at hif
        have hll := hif.len
        obtain ⟨w2, hw2⟩ : ∃ w2, w2 = wr := ⟨_, rfl⟩
        rw [← hw2] at hif
        have HLL := Lib.hid hll
        have HALL := Lib.hid (And.intro hrow (And.intro hoi (And.intro hB (And.intro hL (And.intro hif hw2)))))
        have hb0 : OwnF (w2.alloc (.cells #[] 39)) w2.heap.size (.slice (some ⟨w2.heap.size, 0, none⟩) 0 0) 0 [] := World.ownsRow_made _ #[] 0 (Nat.le_refl _) (Nat.zero_le _) rfl
        have HB0 := Lib.hid hb0
        have hlm : len ≤ 1000 := by omega
        rw [← hw2]
        clear hrow hof hoi hap hB hL hif hw2 hll hb0
        go_wp2_with (fail)
        go_loopw [12, 13] (fun u v wk => ∃ p : Nat, p ≤ len ∧ v = .int .i64 ((p : Int) - 1) ∧ OwnF wk w2.heap.size u (len - p) (L.drop p).reverse ∧ Below w2.heap.size w2 wk) (fun _ v _ => (RowKit.intOf v + 1).toNat)
        case atStart =>
          refine ⟨len, Nat.le_refl _, rfl, ?_, (Below.refl _ _).alloc (Nat.le_refl _) _⟩
          rw [Nat.sub_self, List.drop_of_length_le (by rw [HLL.out]; exact Nat.le_refl _)]
          exact HB0.out
        case round =>
          obtain ⟨p, hp, hv, hof, hB⟩ := hrel
          rcases p with _ | p
          · have hb0 : w2.heap.size ≤ wr.heap.size := hB.size
            obtain ⟨M, hM⟩ : ∃ M, M = L.reverse := ⟨_, rfl⟩
            have e0 : (L.drop 0).reverse = M := by rw [hM]; rfl
            rw [e0, Nat.sub_zero] at hof
            have HM := Lib.hid (And.intro hM (And.intro hof hB))
            have hv1 : u13 = .int .i64 (-1) := hv
            subst hv1
            clear hM hof hB e0 hv
            obtain ⟨hrow, hoi, hB1, hL, hif, hw2⟩ := HALL.out
            have hW : AllW L := by rw [hL]; exact hrow.small
            have hgs := groups_any ua len uc L wr (hif.next HM.out.2.2) hW (by omega)
            have HGS := Lib.hid hgs
            have HWL := Lib.hid hW
            clear hgs hrow hoi hB1 hL hif hw2 hW
            go_wp2_with (fail)
            refine HGS.out.mono ?_
            rintro e w4 ⟨v, m, F, rfl, hog, hgo, hmn, hb4⟩
            clear HGS
            obtain ⟨ga, gc, rfl, hgr, _, _, _⟩ := hog.grs
            obtain ⟨hrow, hoi, hB1, hL, hif, hw2⟩ := HALL.out
            have hFK : F.map Gc.gr = Ks.map grK := hgo.uniq (by rw [hL]; exact hrow.groups) (List.Perm.refl _)
            have hmn0 : m = i := by
              have := congrArg List.length hFK
              simp only [List.length_map, hog.len, hrow.num] at this
              exact this
            subst hmn0
            obtain ⟨hM, hbo, hbB⟩ := HM.out
            obtain ⟨ba, bc, rfl, hbif, _, _, _⟩ := hbo.ifs
            have hWM : AllW M := fun x hx => HWL.out x (by rw [hM] at hx; exact List.mem_reverse.1 hx)
            have hgs2 := fun W (hb : Below w4.heap.size w4 W) => groups_any ba len bc M W ((hbif.next hb4).next hb) hWM (by omega)
            have HGS2 := Lib.hid hgs2
            have HX := Lib.hid (And.intro hog (And.intro hgo (And.intro hgr (And.intro hb4 (And.intro hFK hbif)))))
            clear hrow hoi hB1 hL hif hw2 hM hbo hbB hWM hgs2 hog hgo hgr hb4 hFK hbif hmn
            go_wp2_with (fail)
            refine (HGS2.out w4 (Below.refl _ _)).mono ?_
            rintro e w5 ⟨v, m2, F2, rfl, hog2, hgo2, hmn2, hb5⟩
            obtain ⟨ga2, gc2, rfl, hgr2, _, _, _⟩ := hog2.grs
            obtain ⟨hog, hgo, hgr, hb4, hFK, hbif⟩ := HX.out
            have hFF : F.map Gc.gr = F2.map Gc.gr := hgo.uniq hgo2 (by rw [HM.out.1]; exact (List.reverse_perm L).symm)
            have hmm : m2 = m := by
              have := congrArg List.length hFF
              simp only [List.length_map, hog.len, hog2.len] at this
              exact this.symm
            subst hmm
            have hFs : ∀ x ∈ F, x.n ≤ 1000000000000 := fun x hx => by
              have h1 := HALL.out.1.sizes (G := x.gr) (by rw [← hFK]; exact List.mem_map_of_mem hx)
              have h2 : x.s.length = x.n := (hgr.each x hx).len
              have h3 : x.gr.s.length = x.s.length := rfl
              omega
            have hsm := same_yes ga ga2 m2 gc gc2 F F2 w5 (hgr.next hb5) hgr2 (by omega) hFF hFs
            have HSM := Lib.hid hsm
            have HFS := Lib.hid hFs
            have HY := Lib.hid hb5
            clear hog hgo hgr hb4 hFK hbif hog2 hgo2 hmn2 hb5 hgr2 hFF hFs hsm HGS2
            go_wp2_with (fail)
            refine HSM.out.mono ?_
            rintro e w6 ⟨rfl, hb6⟩
            have HB6 := Lib.hid hb6
            clear hb6 HSM
            have hB6v : Below w2.heap.size w2 w6 := HM.out.2.2.trans ((HX.out.2.2.2.1.trans ((HY.out.trans (HB6.out.mono HY.out.size)).mono HX.out.2.2.2.1.size)).mono HM.out.2.2.size)
            have hB12 : Below w1.heap.size w1 w2 := by rw [HALL.out.2.2.2.2.2]; exact HALL.out.2.2.1
            have HBW := Lib.hid (HB1.out.trans ((hB12.trans (hB6v.mono hB12.size)).mono HB1.out.size))
            have HB6V := Lib.hid hB6v
            clear hB6v hB12
            by_cases hd : 0 ≤ drop ∧ drop < (len : Int)
            · obtain ⟨hd0, hd1⟩ := hd
              obtain ⟨dn, rfl⟩ := Int.eq_ofNat_of_zero_le hd0
              have hdn : dn < len := by omega
              have hB6w := HB6V.out
              have hif := HALL.out.2.2.2.2.1
              obtain ⟨b, off, _, _, _, _, _, _, rfl, hbl, _⟩ := hif.at hdn
              have hi6 := hif.next hB6w
              obtain ⟨w7, hw7⟩ : ∃ w7, w7 = w6.alloc (.cells #[] 39 (0, 0)) := ⟨_, rfl⟩
              have hb7 : Below w6.heap.size w6 w7 := by rw [hw7]; exact (Below.refl _ _).alloc (Nat.le_refl _) _
              have hf7 : OwnF w7 w6.heap.size (.slice (some ⟨w6.heap.size, 0, none⟩) 0 0) 0 [] := by rw [hw7]; exact World.ownsRow_made _ #[] 0 (Nat.le_refl _) (Nat.zero_le _) rfl
              have ht7 := (hi6.next hb7).take (k := dn) (by omega)
              have HI6 := Lib.hid hi6
              have hs7 := hb7.size
              have hn7 : 0 + dn ≤ 1000000000000 := by omega
              have hb6s := Nat.le_trans hB6w.size (Nat.le_refl _)
              obtain ⟨ea, ec, rfl, hei, _⟩ := HALL.out.2.1.ins
              have hei2 : Ins w2 ea m2 E := by rw [HALL.out.2.2.2.2.2]; exact hei
              have HE6 := Lib.hid (hei2.next hB6w)
              have HB6W := Lib.hid hB6w
              clear hif hi6 hB6w hei hei2
              by_cases huc : uc = dn + 1
              · subst huc
                have hd6 : Ifs w6 (some ⟨b, off, none⟩) 0 [] := ⟨rfl, .inl rfl⟩
                have hn8 : 0 + dn + 0 ≤ 1000000000000 := by omega
                have hL9 : ([] ++ L.take dn) ++ [] = L.take dn ++ L.drop (dn + 1) ∧ 0 + dn + 0 = len - 1 := by
                  refine ⟨?_, by omega⟩
                  first | rfl | (rw [List.drop_of_length_le (by rw [HLL.out]; omega)]; rfl)
                have HL9 := Lib.hid hL9
                clear hL9
                go_wp2_with (at_builtin; first | (rw [← hw7]; refine wpList_apfs rfl (.tmp 109) (.tmp 112) rfl w6.heap.size _ 0 [] rfl hf7 b off dn _ (L.take dn) rfl ht7 hn7 hs7 w6 hb7 ?_; intro v8 w8 ho8 hb8; have hd8 := hd6.next hb8; have hs8 := hb8.size; clear hf7 ht7 hw7 hb7 hs7) | (refine wpList_apfs rfl (.tmp 114) (.tmp 118) rfl w6.heap.size v8 (0 + dn) ([] ++ L.take dn) rfl ho8 b _ 0 _ [] rfl hd8 hn8 hs8 w6 hb8 ?_; intro v9 w9 ho9 hb9; rw [HL9.out.1, HL9.out.2] at ho9; obtain ⟨a9, c9, rfl, hf9, _, _, _⟩ := ho9.ifs; have HO9 := Lib.hid (And.intro hf9 hb9); clear ho9 hf9 hb9 hd8 ho8 hs8 hb8))
                go_loopw [16] (fun v wk => ∃ g : Nat, g ≤ m2 ∧ v = .int .i64 g ∧ (flatB (Ks.take g)).length ≤ dn ∧ Below w9.heap.size w9 wk) (fun v _ => m2 - (RowKit.intOf v).toNat)
                case atStart => exact ⟨0, Nat.zero_le _, rfl, Nat.zero_le _, Below.refl _ _⟩
                case round =>
                  obtain ⟨g, hg, rfl, hgd, hB9⟩ := hrel
                  have hrow := HALL.out.1
                  have hgm : g < m2 := by
                    rcases Nat.lt_or_ge g m2 with h1 | h1
                    · exact h1
                    · rw [List.take_of_length_le (by rw [hrow.num]; exact h1), hrow.cnt] at hgd
                      omega
                  obtain ⟨T, hT⟩ : ∃ T, T = (flatB (Ks.take (g + 1))).length := ⟨_, rfl⟩
                  have hET : num E g = (T : Int) := by
                    have := hrow.ends g hgm
                    unfold num
                    rw [List.getD, this, hT]
                    rfl
                  have hw69 : Below w6.heap.size w6 wr := HO9.out.2.trans (hB9.mono HO9.out.2.size)
                  obtain ⟨eb, eo, rfl, hel, hec⟩ := (HE6.out.next hw69).2.resolve_left (by omega)
                  have y0 := hec g hgm
                  rw [hET] at y0
                  have k0 : (0 : Int) ≤ (g : Int) := by omega
                  have k1 : (g : Int) < (m2 : Int) := by omega
                  have HG := Lib.hid (And.intro hT (And.intro hgd (And.intro hB9 hw69)))
                  clear hrow hT hET hec hB9 hw69 hgd
                  by_cases hTd : T ≤ dn
                  · go_wp2_with (fail)
                    go_roundw
                    case rel => exact ⟨g + 1, by omega, by go_num, by rw [← HG.out.1]; exact hTd, HG.out.2.2.1⟩
                    case measure => simp [RowKit.intOf]; omega
                  · have hTd' : dn < T := by omega
                    clear hTd
                    have hgs := groups_any a9 (len - 1) c9 (L.take dn ++ L.drop (dn + 1)) wr (HO9.out.1.next HG.out.2.2.1) (by rw [HALL.out.2.2.2.1]; exact HALL.out.1.rest dn) (by omega)
                    have HGS := Lib.hid hgs
                    clear hgs
                    go_wp2_with (fail)
                    refine HGS.out.mono ?_
                    rintro e wB ⟨v, mb, FB, rfl, hogB, hgoB, hmnB, hbB⟩
                    obtain ⟨gaB, gcB, rfl, hgrB, _, _, _⟩ := hogB.grs
                    clear HGS
                    have hrow := HALL.out.1
                    have hdr := hrow.dropped hgm HG.out.2.1 (by rw [← HG.out.1]; exact hTd')
                    have hFK := HX.out.2.2.2.2.1
                    have hBm : FB.map Gc.gr = (F.take g ++ F.drop (g + 1)).map Gc.gr := by
                      rw [List.map_append, List.map_take, List.map_drop, hFK]
                      rw [HALL.out.2.2.2.1] at hgoB
                      exact hgoB.uniq hdr (List.Perm.refl _)
                    have hFl : F.length = m2 := HX.out.1.len
                    have hmb : mb = m2 - 1 := by
                      have := congrArg List.length hBm
                      simp only [List.length_map, List.length_append, List.length_take, List.length_drop, hogB.len, hFl] at this
                      omega
                    subst hmb
                    have hBs : ∀ x ∈ FB, x.n ≤ 1000000000000 := fun x hx => by
                      have h0 : x.gr ∈ (F.take g ++ F.drop (g + 1)).map Gc.gr := by rw [← hBm]; exact List.mem_map_of_mem hx
                      obtain ⟨y, hy, hye⟩ := List.mem_map.1 h0
                      have hyF : y ∈ F := by
                        rcases List.mem_append.1 hy with h1 | h1
                        · exact List.mem_of_mem_take h1
                        · exact List.mem_of_mem_drop h1
                      have h1 := hrow.sizes (G := x.gr) (by rw [← hye, ← hFK]; exact List.mem_map_of_mem hyF)
                      have h2 : x.s.length = x.n := (hgrB.each x hx).len
                      have h3 : x.gr.s.length = x.s.length := rfl
                      omega
                    have hb6B : Below w6.heap.size w6 wB := HG.out.2.2.2.trans (hbB.mono HG.out.2.2.2.size)
                    have hb4B : Below w4.heap.size w4 wB := HY.out.trans ((HB6.out.trans (hb6B.mono HB6.out.size)).mono HY.out.size)
                    have hgrA := HX.out.2.2.1.next hb4B
                    obtain ⟨gb, gof, _, _, _, _, _, _, rfl, hgbl, _⟩ := hgrA.at hgm
                    obtain ⟨wC, hwC⟩ : ∃ wC, wC = wB.alloc (.cells #[] 46 (0, 0)) := ⟨_, rfl⟩
                    have hbC : Below wB.heap.size wB wC := by rw [hwC]; exact (Below.refl _ _).alloc (Nat.le_refl _) _
                    have hfC : RowG wC wB.heap.size (.slice (some ⟨wB.heap.size, 0, none⟩) 0 0) 0 [] := by rw [hwC]; exact World.ownsRow_made _ #[] 0 (Nat.le_refl _) (Nat.zero_le _) rfl
                    have htC := (hgrA.next hbC).take (k := g) (by omega)
                    have hsC := hbC.size
                    have hnC : 0 + g ≤ 1000000000000 := by omega
                    have HFIN := Lib.hid (And.intro hgrB (And.intro hBm (And.intro hBs (HBW.out.trans (hb6B.mono HBW.out.size)))))
                    have HFl := Lib.hid hFl
                    have HGA := Lib.hid hgrA
                    have hmc : m2 ≤ gc := by omega
                    clear hrow hdr hFK hBm hFl hBs hb6B hb4B hogB hgoB hgrB hbB hmnB hgrA
                    by_cases hgc : gc = g + 1
                    · subst hgc
                      have hd6' : Grs wB (some ⟨gb, gof, none⟩) 0 [] := ⟨rfl, .inl rfl, (fun x h => by cases h)⟩
                      have hnD : 0 + g + 0 ≤ 1000000000000 := by omega
                      have hLD : ([] ++ F.take g) ++ [] = F.take g ++ F.drop (g + 1) ∧ 0 + g + 0 = m2 - 1 := by
                        refine ⟨?_, by omega⟩
                        first | rfl | (rw [List.drop_of_length_le (by rw [HFl.out]; omega)]; rfl)
                      have HLD := Lib.hid hLD
                      clear hLD
                      go_wp2_with (at_builtin; first | (rw [← hwC]; refine wpList_apgs rfl (.tmp 131) (.tmp 134) rfl wB.heap.size _ 0 [] rfl hfC gb gof g _ (F.take g) rfl htC hnC hsC wB hbC ?_; intro vD wD hoD hbD; have hdD := hd6'.next hbD; have hsD := hbD.size; clear hfC htC hwC hbC hsC) | (refine wpList_apgs rfl (.tmp 136) (.tmp 140) rfl wB.heap.size vD (0 + g) ([] ++ F.take g) rfl hoD gb _ 0 _ [] rfl hdD hnD hsD wB hbD ?_; intro vE wE hoE hbE; rw [HLD.out.1, HLD.out.2] at hoE; obtain ⟨aE, cE, rfl, hgE⟩ := hoE.grs (by rw [← HLD.out.1, ← HLD.out.2]; simp [HFl.out]; omega) (fun x hx => by rcases List.mem_append.1 hx with h1 | h1; exact (HGA.out.next hbE).each x (List.mem_of_mem_take h1); exact (HGA.out.next hbE).each x (List.mem_of_mem_drop h1)); have HOE := Lib.hid (And.intro hgE hbE); have hsm := same_yes gaB aE (m2 - 1) gcB cE FB (F.take g ++ F.drop (g + 1)) wE (HFIN.out.1.next hbE) hgE (by omega) HFIN.out.2.1 HFIN.out.2.2.1; have HSM := Lib.hid hsm; clear hsm hoE hgE hbE hdD hoD hsD hbD))
                      refine HSM.out.mono ?_
                      rintro e wF ⟨rfl, hbF⟩
                      have HBF := Lib.hid hbF
                      clear hbF HSM
                      go_wp2_with (fail)
                      go_ret
                      exact ⟨rfl, (HFIN.out.2.2.2.trans (HOE.out.2.mono HFIN.out.2.2.2.size)).trans (HBF.out.mono (Nat.le_trans HFIN.out.2.2.2.size HOE.out.2.size))⟩
                    · have hd6' := HGA.out.drop (k := g + 1) (by omega)
                      have hnD : 0 + g + (m2 - (g + 1)) ≤ 1000000000000 := by omega
                      have hLD : ([] ++ F.take g) ++ (F.drop (g + 1)) = F.take g ++ F.drop (g + 1) ∧ 0 + g + (m2 - (g + 1)) = m2 - 1 := by
                        refine ⟨?_, by omega⟩
                        first | rfl | (rw [List.drop_of_length_le (by rw [HFl.out]; omega)]; rfl)
                      have HLD := Lib.hid hLD
                      clear hLD
                      go_wp2_with (at_builtin; first | (rw [← hwC]; refine wpList_apgs rfl (.tmp 131) (.tmp 134) rfl wB.heap.size _ 0 [] rfl hfC gb gof g _ (F.take g) rfl htC hnC hsC wB hbC ?_; intro vD wD hoD hbD; have hdD := hd6'.next hbD; have hsD := hbD.size; clear hfC htC hwC hbC hsC) | (refine wpList_apgs rfl (.tmp 136) (.tmp 140) rfl wB.heap.size vD (0 + g) ([] ++ F.take g) rfl hoD gb _ (m2 - (g + 1)) _ (F.drop (g + 1)) rfl hdD hnD hsD wB hbD ?_; intro vE wE hoE hbE; rw [HLD.out.1, HLD.out.2] at hoE; obtain ⟨aE, cE, rfl, hgE⟩ := hoE.grs (by rw [← HLD.out.1, ← HLD.out.2]; simp [HFl.out]; omega) (fun x hx => by rcases List.mem_append.1 hx with h1 | h1; exact (HGA.out.next hbE).each x (List.mem_of_mem_take h1); exact (HGA.out.next hbE).each x (List.mem_of_mem_drop h1)); have HOE := Lib.hid (And.intro hgE hbE); have hsm := same_yes gaB aE (m2 - 1) gcB cE FB (F.take g ++ F.drop (g + 1)) wE (HFIN.out.1.next hbE) hgE (by omega) HFIN.out.2.1 HFIN.out.2.2.1; have HSM := Lib.hid hsm; clear hsm hoE hgE hbE hdD hoD hsD hbD))
                      refine HSM.out.mono ?_
                      rintro e wF ⟨rfl, hbF⟩
                      have HBF := Lib.hid hbF
                      clear hbF HSM
                      go_wp2_with (fail)
                      go_ret
                      exact ⟨rfl, (HFIN.out.2.2.2.trans (HOE.out.2.mono HFIN.out.2.2.2.size)).trans (HBF.out.mono (Nat.le_trans HFIN.out.2.2.2.size HOE.out.2.size))⟩
              · have hd6 := HI6.out.drop (k := dn + 1) (by omega)
                have hn8 : 0 + dn + (len - (dn + 1)) ≤ 1000000000000 := by omega
                have hL9 : ([] ++ L.take dn) ++ (L.drop (dn + 1)) = L.take dn ++ L.drop (dn + 1) ∧ 0 + dn + (len - (dn + 1)) = len - 1 := by
                  refine ⟨?_, by omega⟩
                  first | rfl | (rw [List.drop_of_length_le (by rw [HLL.out]; omega)]; rfl)
                have HL9 := Lib.hid hL9
                clear hL9
                go_wp2_with (at_builtin; first | (rw [← hw7]; refine wpList_apfs rfl (.tmp 109) (.tmp 112) rfl w6.heap.size _ 0 [] rfl hf7 b off dn _ (L.take dn) rfl ht7 hn7 hs7 w6 hb7 ?_; intro v8 w8 ho8 hb8; have hd8 := hd6.next hb8; have hs8 := hb8.size; clear hf7 ht7 hw7 hb7 hs7) | (refine wpList_apfs rfl (.tmp 114) (.tmp 118) rfl w6.heap.size v8 (0 + dn) ([] ++ L.take dn) rfl ho8 b _ (len - (dn + 1)) _ (L.drop (dn + 1)) rfl hd8 hn8 hs8 w6 hb8 ?_; intro v9 w9 ho9 hb9; rw [HL9.out.1, HL9.out.2] at ho9; obtain ⟨a9, c9, rfl, hf9, _, _, _⟩ := ho9.ifs; have HO9 := Lib.hid (And.intro hf9 hb9); clear ho9 hf9 hb9 hd8 ho8 hs8 hb8))
                go_loopw [16] (fun v wk => ∃ g : Nat, g ≤ m2 ∧ v = .int .i64 g ∧ (flatB (Ks.take g)).length ≤ dn ∧ Below w9.heap.size w9 wk) (fun v _ => m2 - (RowKit.intOf v).toNat)
                case atStart => exact ⟨0, Nat.zero_le _, rfl, Nat.zero_le _, Below.refl _ _⟩
                case round =>
                  obtain ⟨g, hg, rfl, hgd, hB9⟩ := hrel
                  have hrow := HALL.out.1
                  have hgm : g < m2 := by
                    rcases Nat.lt_or_ge g m2 with h1 | h1
                    · exact h1
                    · rw [List.take_of_length_le (by rw [hrow.num]; exact h1), hrow.cnt] at hgd
                      omega
                  obtain ⟨T, hT⟩ : ∃ T, T = (flatB (Ks.take (g + 1))).length := ⟨_, rfl⟩
                  have hET : num E g = (T : Int) := by
                    have := hrow.ends g hgm
                    unfold num
                    rw [List.getD, this, hT]
                    rfl
                  have hw69 : Below w6.heap.size w6 wr := HO9.out.2.trans (hB9.mono HO9.out.2.size)
                  obtain ⟨eb, eo, rfl, hel, hec⟩ := (HE6.out.next hw69).2.resolve_left (by omega)
                  have y0 := hec g hgm
                  rw [hET] at y0
                  have k0 : (0 : Int) ≤ (g : Int) := by omega
                  have k1 : (g : Int) < (m2 : Int) := by omega
                  have HG := Lib.hid (And.intro hT (And.intro hgd (And.intro hB9 hw69)))
                  clear hrow hT hET hec hB9 hw69 hgd
                  by_cases hTd : T ≤ dn
                  · go_wp2_with (fail)
                    go_roundw
                    case rel => exact ⟨g + 1, by omega, by go_num, by rw [← HG.out.1]; exact hTd, HG.out.2.2.1⟩
                    case measure => simp [RowKit.intOf]; omega
                  · have hTd' : dn < T := by omega
                    clear hTd
                    have hgs := groups_any a9 (len - 1) c9 (L.take dn ++ L.drop (dn + 1)) wr (HO9.out.1.next HG.out.2.2.1) (by rw [HALL.out.2.2.2.1]; exact HALL.out.1.rest dn) (by omega)
                    have HGS := Lib.hid hgs
                    clear hgs
                    go_wp2_with (fail)
                    refine HGS.out.mono ?_
                    rintro e wB ⟨v, mb, FB, rfl, hogB, hgoB, hmnB, hbB⟩
                    obtain ⟨gaB, gcB, rfl, hgrB, _, _, _⟩ := hogB.grs
                    clear HGS
                    have hrow := HALL.out.1
                    have hdr := hrow.dropped hgm HG.out.2.1 (by rw [← HG.out.1]; exact hTd')
                    have hFK := HX.out.2.2.2.2.1
                    have hBm : FB.map Gc.gr = (F.take g ++ F.drop (g + 1)).map Gc.gr := by
                      rw [List.map_append, List.map_take, List.map_drop, hFK]
                      rw [HALL.out.2.2.2.1] at hgoB
                      exact hgoB.uniq hdr (List.Perm.refl _)
                    have hFl : F.length = m2 := HX.out.1.len
                    have hmb : mb = m2 - 1 := by
                      have := congrArg List.length hBm
                      simp only [List.length_map, List.length_append, List.length_take, List.length_drop, hogB.len, hFl] at this
                      omega
                    subst hmb
                    have hBs : ∀ x ∈ FB, x.n ≤ 1000000000000 := fun x hx => by
                      have h0 : x.gr ∈ (F.take g ++ F.drop (g + 1)).map Gc.gr := by rw [← hBm]; exact List.mem_map_of_mem hx
                      obtain ⟨y, hy, hye⟩ := List.mem_map.1 h0
                      have hyF : y ∈ F := by
                        rcases List.mem_append.1 hy with h1 | h1
                        · exact List.mem_of_mem_take h1
                        · exact List.mem_of_mem_drop h1
                      have h1 := hrow.sizes (G := x.gr) (by rw [← hye, ← hFK]; exact List.mem_map_of_mem hyF)
                      have h2 : x.s.length = x.n := (hgrB.each x hx).len
                      have h3 : x.gr.s.length = x.s.length := rfl
                      omega
                    have hb6B : Below w6.heap.size w6 wB := HG.out.2.2.2.trans (hbB.mono HG.out.2.2.2.size)
                    have hb4B : Below w4.heap.size w4 wB := HY.out.trans ((HB6.out.trans (hb6B.mono HB6.out.size)).mono HY.out.size)
                    have hgrA := HX.out.2.2.1.next hb4B
                    obtain ⟨gb, gof, _, _, _, _, _, _, rfl, hgbl, _⟩ := hgrA.at hgm
                    obtain ⟨wC, hwC⟩ : ∃ wC, wC = wB.alloc (.cells #[] 46 (0, 0)) := ⟨_, rfl⟩
                    have hbC : Below wB.heap.size wB wC := by rw [hwC]; exact (Below.refl _ _).alloc (Nat.le_refl _) _
                    have hfC : RowG wC wB.heap.size (.slice (some ⟨wB.heap.size, 0, none⟩) 0 0) 0 [] := by rw [hwC]; exact World.ownsRow_made _ #[] 0 (Nat.le_refl _) (Nat.zero_le _) rfl
                    have htC := (hgrA.next hbC).take (k := g) (by omega)
                    have hsC := hbC.size
                    have hnC : 0 + g ≤ 1000000000000 := by omega
                    have HFIN := Lib.hid (And.intro hgrB (And.intro hBm (And.intro hBs (HBW.out.trans (hb6B.mono HBW.out.size)))))
                    have HFl := Lib.hid hFl
                    have HGA := Lib.hid hgrA
                    have hmc : m2 ≤ gc := by omega
                    clear hrow hdr hFK hBm hFl hBs hb6B hb4B hogB hgoB hgrB hbB hmnB hgrA
                    by_cases hgc : gc = g + 1
                    · subst hgc
                      have hd6' : Grs wB (some ⟨gb, gof, none⟩) 0 [] := ⟨rfl, .inl rfl, (fun x h => by cases h)⟩
                      have hnD : 0 + g + 0 ≤ 1000000000000 := by omega
                      have hLD : ([] ++ F.take g) ++ [] = F.take g ++ F.drop (g + 1) ∧ 0 + g + 0 = m2 - 1 := by
                        refine ⟨?_, by omega⟩
                        first | rfl | (rw [List.drop_of_length_le (by rw [HFl.out]; omega)]; rfl)
                      have HLD := Lib.hid hLD
                      clear hLD
                      go_wp2_with (at_builtin; first | (rw [← hwC]; refine wpList_apgs rfl (.tmp 131) (.tmp 134) rfl wB.heap.size _ 0 [] rfl hfC gb gof g _ (F.take g) rfl htC hnC hsC wB hbC ?_; intro vD wD hoD hbD; have hdD := hd6'.next hbD; have hsD := hbD.size; clear hfC htC hwC hbC hsC) | (refine wpList_apgs rfl (.tmp 136) (.tmp 140) rfl wB.heap.size vD (0 + g) ([] ++ F.take g) rfl hoD gb _ 0 _ [] rfl hdD hnD hsD wB hbD ?_; intro vE wE hoE hbE; rw [HLD.out.1, HLD.out.2] at hoE; obtain ⟨aE, cE, rfl, hgE⟩ := hoE.grs (by rw [← HLD.out.1, ← HLD.out.2]; simp [HFl.out]; omega) (fun x hx => by rcases List.mem_append.1 hx with h1 | h1; exact (HGA.out.next hbE).each x (List.mem_of_mem_take h1); exact (HGA.out.next hbE).each x (List.mem_of_mem_drop h1)); have HOE := Lib.hid (And.intro hgE hbE); have hsm := same_yes gaB aE (m2 - 1) gcB cE FB (F.take g ++ F.drop (g + 1)) wE (HFIN.out.1.next hbE) hgE (by omega) HFIN.out.2.1 HFIN.out.2.2.1; have HSM := Lib.hid hsm; clear hsm hoE hgE hbE hdD hoD hsD hbD))
                      refine HSM.out.mono ?_
                      rintro e wF ⟨rfl, hbF⟩
                      have HBF := Lib.hid hbF
                      clear hbF HSM
                      go_wp2_with (fail)
                      go_ret
                      exact ⟨rfl, (HFIN.out.2.2.2.trans (HOE.out.2.mono HFIN.out.2.2.2.size)).trans (HBF.out.mono (Nat.le_trans HFIN.out.2.2.2.size HOE.out.2.size))⟩
                    · have hd6' := HGA.out.drop (k := g + 1) (by omega)
                      have hnD : 0 + g + (m2 - (g + 1)) ≤ 1000000000000 := by omega
                      have hLD : ([] ++ F.take g) ++ (F.drop (g + 1)) = F.take g ++ F.drop (g + 1) ∧ 0 + g + (m2 - (g + 1)) = m2 - 1 := by
                        refine ⟨?_, by omega⟩
                        first | rfl | (rw [List.drop_of_length_le (by rw [HFl.out]; omega)]; rfl)
                      have HLD := Lib.hid hLD
                      clear hLD
                      go_wp2_with (at_builtin; first | (rw [← hwC]; refine wpList_apgs rfl (.tmp 131) (.tmp 134) rfl wB.heap.size _ 0 [] rfl hfC gb gof g _ (F.take g) rfl htC hnC hsC wB hbC ?_; intro vD wD hoD hbD; have hdD := hd6'.next hbD; have hsD := hbD.size; clear hfC htC hwC hbC hsC) | (refine wpList_apgs rfl (.tmp 136) (.tmp 140) rfl wB.heap.size vD (0 + g) ([] ++ F.take g) rfl hoD gb _ (m2 - (g + 1)) _ (F.drop (g + 1)) rfl hdD hnD hsD wB hbD ?_; intro vE wE hoE hbE; rw [HLD.out.1, HLD.out.2] at hoE; obtain ⟨aE, cE, rfl, hgE⟩ := hoE.grs (by rw [← HLD.out.1, ← HLD.out.2]; simp [HFl.out]; omega) (fun x hx => by rcases List.mem_append.1 hx with h1 | h1; exact (HGA.out.next hbE).each x (List.mem_of_mem_take h1); exact (HGA.out.next hbE).each x (List.mem_of_mem_drop h1)); have HOE := Lib.hid (And.intro hgE hbE); have hsm := same_yes gaB aE (m2 - 1) gcB cE FB (F.take g ++ F.drop (g + 1)) wE (HFIN.out.1.next hbE) hgE (by omega) HFIN.out.2.1 HFIN.out.2.2.1; have HSM := Lib.hid hsm; clear hsm hoE hgE hbE hdD hoD hsD hbD))
                      refine HSM.out.mono ?_
                      rintro e wF ⟨rfl, hbF⟩
                      have HBF := Lib.hid hbF
                      clear hbF HSM
                      go_wp2_with (fail)
                      go_ret
                      exact ⟨rfl, (HFIN.out.2.2.2.trans (HOE.out.2.mono HFIN.out.2.2.2.size)).trans (HBF.out.mono (Nat.le_trans HFIN.out.2.2.2.size HOE.out.2.size))⟩
            · have hdd : drop < 0 ∨ (len : Int) ≤ drop := by omega
              clear hd
              rcases hdd with hd | hd
              · go_wp2_with (fail)
                go_ret
                exact ⟨rfl, HBW.out⟩
              · go_wp2_with (fail)
                go_ret
                exact ⟨rfl, HBW.out⟩
          · have hv1 : u13 = .int .i64 p := by rw [hv]; congr 1; omega
            subst hv1
            have hpl : p < len := by omega
            obtain ⟨hrow, hoi, hB1, hL, hif, hw2⟩ := HALL.out
            obtain ⟨b, off, g, q, cc, i, mm, r, rfl, hbl, hx, y0, y1, y2, y3, y4, y5⟩ := (hif.next hB).at hpl
            obtain ⟨w3, hw3⟩ : ∃ w3, w3 = wr.alloc (.cells #[.int .i64 g, .int .i64 q, .int .i64 cc, .int .i64 i, .int .i64 mm, .int .i64 r] 39 (0, 0)) := ⟨_, rfl⟩
            have hg3 : wr.grownBy w3 none := by rw [hw3]; exact World.grownBy_alloc _ _ _
            have hi3 : w3.heap[wr.heap.size]? = some (.cells #[.int .i64 g, .int .i64 q, .int .i64 cc, .int .i64 i, .int .i64 mm, .int .i64 r] 39 (0, 0)) := by rw [hw3]; exact (MapKept.heap_alloc _ _).1
            have hxc := ifc_at hi3
            have hof3 : OwnF w3 w2.heap.size u12 (len - (p + 1)) (L.drop (p + 1)).reverse := World.ownsRow.kept hof hg3 (none_or _)
            obtain ⟨n3, hn3⟩ : ∃ n3, n3 = len - (p + 1) := ⟨_, rfl⟩
            obtain ⟨M3, hM3⟩ : ∃ M3, M3 = (L.drop (p + 1)).reverse := ⟨_, rfl⟩
            rw [← hn3, ← hM3] at hof3
            have hs3 : w2.heap.size ≤ w3.heap.size := Nat.le_trans hB.size hg3.size
            have hn4 : n3 + 1 ≤ 1000000000000 := by omega
            have k0 : (0 : Int) ≤ (p : Int) := by omega
            have k1 : (p : Int) < (len : Int) := by omega
            have HA3 := Lib.hid (And.intro hn3 (And.intro hM3 (And.intro hof (And.intro hg3 (And.intro hB hx)))))
            clear hrow hoi hB1 hL hif hw2 hv hof hB hg3 hi3 hn3 hM3 hx
            go_wp2_with (at_builtin; rw [← hw3]; go_must (refine wpList_apf rfl (.tmp 79) (.tmp 84) rfl w2.heap.size u12 n3 M3 rfl hof3 wr.heap.size ⟨g, q, cc, i, mm, r⟩ rfl hxc hn4 hs3 ?_); intro g' cap' w5 ho5 hg5 hat5; have HO5 := Lib.hid (And.intro ho5 (And.intro hg5 hat5)); clear ho5 hg5 hat5 hof3 hxc hw3)
            go_roundw
            case rel =>
              obtain ⟨hn3, hM3, hof, hg3, hB, hx⟩ := HA3.out
              obtain ⟨ho5, hg5, hat5⟩ := HO5.out
              have e1 : len - p = n3 + 1 := by omega
              have e2 : (L.drop p).reverse = M3 ++ [⟨g, q, cc, i, mm, r⟩] := by
                obtain ⟨hpL, hx'⟩ := List.getElem?_eq_some_iff.1 hx
                rw [List.drop_eq_getElem_cons hpL, List.reverse_cons, hM3, hx']
              refine ⟨p, by omega, by go_num, ?_, (hB.grown hg3 hB.size (fun j hj => by cases hj)).grown hg5 hs3 (fun j hj => (World.ownsRow.lt hof j hj).1)⟩
              rw [e1, e2]
              exact ho5
            case measure => simp [RowKit.intOf] <;> omega
  · go_wp2_with (fail)
    go_ret
    exact ⟨rfl, HB1.out⟩
end Go.Proofs.Ytcpplppccljmiaa
