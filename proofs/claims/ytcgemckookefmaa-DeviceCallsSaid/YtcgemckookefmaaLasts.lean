/-
  DeviceLasts' walk.
-/
import Derived.Test.YtcgemckookefmaaKeeps
import Derived.Laws.Tables
namespace Go.Proofs.Ytcgemckookefmaa
open Go.RowKit Go.Maps

/-- One block more may turn. -/
def plus (M : Nat → Prop) (x : Nat) : Nat → Prop := fun k => M k ∨ k = x
theorem RackAt.plus {w w' : World} {M : Nat → Prop} {L : Lay} {R : Rk} (h : RackAt w M L R) (hb : Below w.heap.size w w') (hlt : w.heap.size < w'.heap.size) : RackAt w' (plus M w.heap.size) L R :=
  h.wide hb (fun _ x => x.elim .inl fun e => .inr (by omega)) (fun _ x => .inl x) (fun k x => x.elim (fun y => Nat.lt_of_lt_of_le (h.low k y) hb.size) fun e => by omega)
theorem RackAt.other {w w' : World} {M : Nat → Prop} {L : Lay} {R : Rk} {x : Nat} (h : RackAt w M L R) (ht : Turn (· = x) w w') (hx : M x) (hn : ¬ L.M R.n x) : RackAt w' M L R :=
  h.keep ht (fun _ e => e ▸ hx) (fun _ hk e => hn (e ▸ hk))

theorem size8 {W : List Int} (h : W.length = 8) : (Try.prog.info? 47).map (·.size) = some (ints W).size := by
  have e : (Try.prog.info? 47).map (·.size) = some 8 := by kernel_rfl
  rw [e]
  simp [ints, h]
theorem wpList_ldA {w : World} {ops : Array Oper} {rest : List Oper} {o : Oper} {a : Act} {Q : Exit → Act → World → Prop} (hgd : o.guard = none) (x : Operand) (ho : o.op = .load 47 x)
    (g : Nat) (W : List Int) (hx : a.eval x = .pointer (some ⟨g, 0, none⟩)) (hg : Arr w g W) (hl : W.length = 8)
    (h : wpList Try.prog ops Q rest (a.put o.dst (.agg (ints W))) w) : wpList Try.prog ops Q (o :: rest) a w :=
  wpList_load_row hgd 47 x ho g hx _ (ints W) (0, 0) _ hg.row Try.underlying47 rfl (size8 hl) h
theorem wpList_stA {w : World} {ops : Array Oper} {rest : List Oper} {o : Oper} {a : Act} {Q : Exit → Act → World → Prop} (hgd : o.guard = none) (x y : Operand) (ho : o.op = .store 47 x y)
    (g : Nat) (S W : List Int) (hx : a.eval x = .pointer (some ⟨g, 0, none⟩)) (hy : a.eval y = .agg (ints W)) (hg : Arr w g S) (hS : S.length = 8) (hl : W.length = 8)
    (h : ∀ w', Arr w' g W → Turn (· = g) w w' → wpList Try.prog ops Q rest (a.put o.dst undef) w') : wpList Try.prog ops Q (o :: rest) a w := by
  refine wpList_store_row hgd 47 x y ho g (ints W) hx hy _ (ints S) hg.row (size8 hl) (by simp [ints, hS, hl]) ?_ (h _ ⟨setRow_heap w g _ _ _ _ hg.row⟩ (turn_setRow w g _))
  simp [ints, Value.oneCell']

section
variable {U V : Nat → Int} {R : Rk}
theorem Kp.congrU {U' : Nat → Int} (h : Kp U V R) (e : ∀ c, c < 8 → U' c = U c) : Kp U' V R :=
  ⟨h.hn, h.hS, h.off, h.cnt, h.good, fun c hc => by rw [e c hc]; exact h.last c hc, fun c hc => by rw [e c hc]; exact h.cache c hc⟩
theorem setU_both (c : Nat) (hc : c < 8) : V c = setU (setU U V 0) V 1 c := by
  unfold setU
  rcases (by omega : c / 4 = 0 ∨ c / 4 = 1) with e | e <;> simp [e]
end

theorem lasts_big (a a2 : Option Addr) (la ca l2 c2 : Nat) (fl : Int) (w : World) (h : 200 < la ∨ 200 < l2) :
    Calls Try.prog 4 #[.slice a la ca, .int .i64 fl, .slice a2 l2 c2] w fun e w' => e = .returned (.bool true) ∧ Below w.heap.size w w' := by
  by_cases hl : 200 < la
  · clear h
    go_enter Try.func4, Try.ntmps4
    go_wp2_with (fail)
    with_reducible refine (alive2_any _).mono ?_
    rintro e w1 ⟨rfl, hl1⟩
    go_wp2_with (fail)
    go_ret
    exact ⟨rfl, hl1⟩
  · have h2 : 200 < l2 := by omega
    clear h
    go_enter Try.func4, Try.ntmps4
    go_wp2_with (fail)
    with_reducible refine (alive2_any _).mono ?_
    rintro e w1 ⟨rfl, hl1⟩
    go_wp2_with (fail)
    go_ret
    exact ⟨rfl, hl1⟩

set_option maxHeartbeats 4000000 in
theorem lasts_in (a a2 : Option Addr) (la ca l2 c2 : Nat) (fl : Int) (zs ks : List Int) (w : World) (hx : Ins w a la zs) (hy : Ins w a2 l2 ks) (h : la ≤ 200) (h2 : l2 ≤ 200) :
    Calls Try.prog 4 #[.slice a la ca, .int .i64 fl, .slice a2 l2 c2] w fun e w' => e = .returned (.bool true) ∧ Below w.heap.size w w' := by
  go_enter Try.func4, Try.ntmps4
  go_wp2_with (fail)
  with_reducible refine (alive2_any _).mono ?_
  rintro e w1 ⟨rfl, hl1⟩
  have hx1 := ins_below hx (Nat.le_refl _) hl1
  have hy1 := ins_below hy (Nat.le_refl _) hl1
  go_wp2_with (fail)
  refine (new_ok 2 4 w1 (by omega) (by omega) (by omega) (by omega)).mono ?_
  rintro e w2 ⟨L, rfl, hr2, hM0, hl2⟩
  have hM : Hid (∀ k, L.M 2 k → w1.heap.size ≤ k) := hM0
  clear hM0 hx hy
  go_wp2_with (fail)
  obtain ⟨Z, hZ⟩ : ∃ Z : Obj, Hid (Z = .cells #[.int .u8 0, .int .u8 0, .int .u8 0, .int .u8 0, .int .u8 0, .int .u8 0, .int .u8 0, .int .u8 0] 47) := ⟨_, Lib.hid rfl⟩
  rw [← hZ.out]
  have e1 : Hid ((w2.alloc Z).heap.size = w2.heap.size + 1) := by unfold Hid; simp
  have hA : Below w2.heap.size w2 (w2.alloc Z) := (Below.refl _ _).alloc (Nat.le_refl _) _
  have hA2 : Below (w2.alloc Z).heap.size (w2.alloc Z) ((w2.alloc Z).alloc Z) := (Below.refl _ _).alloc (Nat.le_refl _) _
  have hr3 := (hr2.plus hA (by simp)).plus hA2 (by simp)
  rw [e1.out] at hr3 hA2
  have hB3 : Below w1.heap.size w1 ((w2.alloc Z).alloc Z) := (hl2.trans (hA.mono hl2.size)).trans (hA2.mono (by have := hl2.size; omega))
  have hsM : Hid (¬ L.M 2 w2.heap.size) := fun x => by have := hr2.low _ x; omega
  have hwM : Hid (¬ L.M 2 (w2.heap.size + 1)) := fun x => by have := hr2.low _ x; omega
  have hs3 : Arr ((w2.alloc Z).alloc Z) w2.heap.size (List.replicate 8 0) := ⟨by rw [hZ.out]; exact (Below.heap_alloc _ _ _ (by simp)).trans (heap_alloc_new w2 _)⟩
  have hw3 : Arr ((w2.alloc Z).alloc Z) (w2.heap.size + 1) (List.replicate 8 0) := ⟨by rw [← e1.out, hZ.out]; exact heap_alloc_new _ _⟩
  have hsB : w1.heap.size ≤ w2.heap.size := hl2.size
  obtain ⟨sb, hsb⟩ : ∃ sb, sb = w2.heap.size := ⟨_, rfl⟩
  obtain ⟨wb, hwb⟩ : ∃ wb, wb = w2.heap.size + 1 := ⟨_, rfl⟩
  have hne : Hid (sb ≠ wb) := by unfold Hid; omega
  have hwB : w1.heap.size ≤ wb := by omega
  rw [← hwb] at hr3 hw3 hwM ⊢
  rw [← hsb] at hr3 hs3 hsM hsB ⊢
  obtain ⟨M, hMM⟩ : ∃ M, Hid (M = plus (plus (L.M 2) sb) wb) := ⟨_, Lib.hid rfl⟩
  rw [← hMM.out] at hr3
  have hMs : Hid (M sb) := by unfold Hid; rw [hMM.out]; exact .inl (.inr rfl)
  have hMw : Hid (M wb) := by unfold Hid; rw [hMM.out]; exact .inr rfl
  clear hwb hsb hr2 hl2 hA hA2
  go_loopw [11] (fun i wr => ∃ (k : Nat) (R : Rk) (U V : Nat → Int) (Su W : List Int), k ≤ la ∧ i = .int .i64 k ∧ RackAt wr M L R ∧ Kp U V R ∧ Arr wr sb Su ∧ Su.length = 8 ∧ (∀ c, c < 8 → byt Su c = U c) ∧ Arr wr wb W ∧ W.length = 8 ∧ (∀ c, c < 8 → byt W c = V c) ∧ Below w1.heap.size w1 wr) (fun i _ => la - (intOf i).toNat)
  case atStart => exact ⟨0, _, _, _, _, _, Nat.zero_le _, rfl, hr3, Kp.start, hs3, rfl, fun c _ => byt_zero 8 c, hw3, rfl, fun c _ => byt_zero 8 c, hB3⟩
  case round =>
    obtain ⟨k, R, U, V, Su, W, hk, rfl, hr, hP, hS, hSl, hSU, hW, hWl, hWV, hB⟩ := hrel
    clear hr3 hs3 hw3 hB3
    have hxr := ins_below hx1 (Nat.le_refl _) hB
    by_cases hlt : k < la
    · rcases hxr.2 with h0 | ⟨ba, oa, rfl, _, hca⟩
      · omega
      have hcell := hca k hlt
      obtain ⟨z, hz0⟩ : ∃ z, z = zs.getD k 0 := ⟨_, rfl⟩
      rw [← hz0] at hcell
      obtain ⟨m, hm8, hm⟩ := and7_nat z
      obtain ⟨q, hq⟩ : ∃ q : Nat, (m : Int) / 4 = (q : Int) := ⟨m / 4, by omega⟩
      obtain ⟨r, hr'⟩ : ∃ r : Nat, (m : Int) % 4 = (r : Int) := ⟨m % 4, by omega⟩
      have hq2 : q < 2 := by omega
      have hr4 : r < 4 := by omega
      have hmq : Hid (m = 4 * q + r) := by unfold Hid; omega
      have hW' : Hid (∀ c, c < 8 → byt W c = V c) := hWV
      have hWl' : Hid (W.length = 8) := hWl
      have hS' : Hid (∀ c, c < 8 → byt Su c = U c) := hSU
      have hSl' : Hid (Su.length = 8) := hSl
      clear hca hx1 hy1 hxr hz0 hWV hWl hSU hSl
      go_wp2_with (at_make; refine wpList_mk rfl _ _ rfl .i64 .i64 64 64 64 rfl rfl rfl rfl (by omega) ?_; intro w3 hb3 hl3; have hc3 := hb3.cell (i := 0) (by simp); have hf3 := hb3.free 0)
      have hbs : Below wr.heap.size wr (w3.setCell ⟨wr.heap.size, 0, none⟩ (.int .u8 ((k : Int) + 1))) := hl3.setCell (Nat.le_refl _) _
      have hr3 := hr.below hbs
      have hz3 : Blk (w3.setCell ⟨wr.heap.size, 0, none⟩ (.int .u8 ((k : Int) + 1))) wr.heap.size (one64 ((k : Int) + 1)) := hb3.set 0 _
      have hW3 := hW.below hW.lt hbs
      have hS3 := hS.below hS.lt hbs
      have hbM : Hid (¬ M wr.heap.size) := fun x => by have := hr.low _ x; omega
      have hB3 := hB.trans (hbs.mono hB.size)
      clear hc3 hf3 hb3 hl3 hbs hr hW hS hB
      have hwr := kp_write q r wr.heap.size 0 64 _ hr3 hP hq2 hr4 (hz3.bysn (one64_small (by omega)) (one64_len _)) hbM.out
      rw [one64_zero, ← hmq.out] at hwr
      refine hwr.mono ?_
      rintro e w9 ⟨rfl, R', hr9, hP9, ht9⟩
      have hW9 := hW3.turn ht9 hwM.out
      have hS9 := hS3.turn ht9 hsM.out
      have hB9 := hB3.trans (ht9.below hB3.size hM.out)
      have hcw := hW9.cell (i := m) (by rw [hWl'.out]; exact hm8)
      have hfw := hW9.free m
      clear hwr hr3 hz3 hW3 hS3 hB3 ht9
      have hWs := hW9.set m ((k : Int) + 1)
      have hr10 := hr9.other (turn_set w9 wb m (.int .u8 ((k : Int) + 1))) hMw.out (by rw [hP9.hn]; exact hwM.out)
      have hB10 := hB9.setCell (p := ⟨wb, m, none⟩) hwB (.int .u8 ((k : Int) + 1))
      have hS10 : Arr (w9.setCell ⟨wb, m, none⟩ (.int .u8 ((k : Int) + 1))) sb Su := hS9.turn (turn_set w9 wb m (.int .u8 ((k : Int) + 1))) hne.out
      have hWV10 : Hid (∀ c, c < 8 → byt (W.set m ((k : Int) + 1)) c = setV V m ((k : Int) + 1) c) := fun c hc => by
        rw [byt_set (by rw [hWl'.out]; exact hm8)]
        unfold setV
        split
        · rfl
        · exact hW'.out c hc
      have hWl10 : Hid ((W.set m ((k : Int) + 1)).length = 8) := by unfold Hid; rw [List.length_set]; exact hWl'.out
      obtain ⟨W2, hW2⟩ : ∃ W2, Hid (W2 = W.set m ((k : Int) + 1)) := ⟨_, Lib.hid rfl⟩
      rw [← hW2.out] at hWs hWV10 hWl10
      clear hW9 hr9 hB9 hS9
      by_cases hfl : (k : Int) = fl
      · have hfb : ((k : Int) == fl) = true := by simpa using hfl
        clear hfl
        go_wp2_with (fail)
        have hf0 := kp_flush 0 hr10 hP9 (by omega)
        change Calls _ _ #[_, .int .i64 0] _ _ at hf0
        (with_reducible refine hf0.mono ?_)
        rintro e w11 ⟨rfl, R11, hr11, hP11, ht11⟩
        have hS11 := hS10.turn ht11 hsM.out
        have hW11 := hWs.turn ht11 hwM.out
        have hB11 := hB10.trans (ht11.below hB10.size hM.out)
        clear hf0 hr10 hS10 hWs hB10 ht11 hP9
        go_wp2_with (fail)
        have hf1 := kp_flush 1 hr11 hP11 (by omega)
        change Calls _ _ #[_, .int .i64 1] _ _ at hf1
        (with_reducible refine hf1.mono ?_)
        rintro e w12 ⟨rfl, R12, hr12, hP12, ht12⟩
        have hS12 := hS11.turn ht12 hsM.out
        have hW12 := hW11.turn ht12 hwM.out
        have hB12 := hB11.trans (ht12.below hB11.size hM.out)
        have hP13 := hP12.congrU setU_both
        clear hf1 hr11 hS11 hW11 hB11 ht12 hP11 hP12
        go_wp2_with (first
          | ((with_reducible refine wpList_ldA rfl (.tmp 10) rfl wb W2 rfl hW12 hWl10.out ?_))
          | ((with_reducible refine wpList_stA rfl (.tmp 9) (.tmp 80) rfl sb Su W2 rfl rfl hS12 hSl'.out hWl10.out ?_); intro w13 hS13 ht13; go_frame))
        have hr13 := hr12.other ht13 hMs.out (by rw [hP13.hn]; exact hsM.out)
        have hW13 := hW12.turn ht13 (Ne.symm hne.out)
        have hB13 := hB12.trans (ht13.below hB12.size (fun j e => by rw [e]; exact hsB))
        clear hr12 hS12 hW12 hB12 ht13
        go_roundw
        case rel => exact ⟨k + 1, R12, _, _, _, _, by omega, by go_num, hr13, hP13, hS13, hWl10.out, hWV10.out, hW13, hWl10.out, hWV10.out, hB13⟩
        case measure => simp [intOf]; omega
      · have hfb : ((k : Int) == fl) = false := by simpa using hfl
        clear hfl
        go_wp2_with (fail)
        go_roundw
        case rel => exact ⟨k + 1, R', _, _, _, _, by omega, by go_num, hr10, hP9, hS10, hSl'.out, hS'.out, hWs, hWl10.out, hWV10.out, hB10⟩
        case measure => simp [intOf]; omega
    · obtain rfl : k = la := by omega
      have hW' : Hid (∀ c, c < 8 → byt W c = V c) := hWV
      have hWl' : Hid (W.length = 8) := hWl
      have hS' : Hid (∀ c, c < 8 → byt Su c = U c) := hSU
      have hSl' : Hid (Su.length = 8) := hSl
      have hyr := ins_below hy1 (Nat.le_refl _) hB
      clear hx1 hxr hWV hWl hSU hSl
      have hKR := hP.restored hr ks
      have hn6 : Hid (R.n = 2) := hP.hn
      have hyM : l2 = 0 ∨ ∀ b off, a2 = some ⟨b, off, none⟩ → ¬ M b := by
        rcases hy1.2 with h0 | ⟨b, off, ha, hlt, _⟩
        · exact .inl h0
        · refine .inr fun b' off' e x => ?_
          rw [ha] at e
          cases e
          rw [hMM.out] at x
          rcases x with (x | x) | x
          · have := hM.out b x; omega
          · omega
          · omega
      go_wp2_with (fail)
      refine (restore_ok M L R l2 c2 a2 ks wr hr hyr hyM (by omega)).mono ?_
      rintro e w6 ⟨rfl, hr6, ht6⟩
      rw [hn6.out] at ht6
      have hW6 := hW.turn ht6 hwM.out
      have hS6 := hS.turn ht6 hsM.out
      have hB6 := hB.trans (ht6.below hB.size hM.out)
      obtain ⟨R', hR'⟩ : ∃ R', Hid (R' = R.restore ks) := ⟨_, Lib.hid rfl⟩
      rw [← hR'.out] at hr6 hKR
      have hn5 : Hid (R'.n = 2) := hKR.hn
      have hS5 : Hid (R'.S = 4) := hKR.hS
      have ho5 : Hid (R'.off = false) := hKR.off
      clear hr hW hS hB hP hyr hy1 hyM ht6
      go_wp2_with (fail)
      go_loopw [14] (fun i wr => ∃ c : Nat, c ≤ 8 ∧ i = .int .i64 c ∧ RackAt wr M L R' ∧ Arr wr sb Su ∧ Arr wr wb W ∧ Below w1.heap.size w1 wr) (fun i _ => 8 - (intOf i).toNat)
      case atStart => exact ⟨0, by omega, rfl, hr6, hS6, hW6, hB6⟩
      case round =>
        obtain ⟨c, hc, rfl, hr, hS, hW, hB⟩ := hrel
        clear hr6 hW6 hS6 hB6
        by_cases hlt : c < 8
        · obtain ⟨q, hq⟩ : ∃ q : Nat, (c : Int) / 4 = (q : Int) := ⟨c / 4, by omega⟩
          obtain ⟨r, hr'⟩ : ∃ r : Nat, (c : Int) % 4 = (r : Int) := ⟨c % 4, by omega⟩
          have hq2 : q = c / 4 := by omega
          have hr4 : r = c % 4 := by omega
          have hla := read_ok M L R' wr q r hr ho5.out (by rw [hn5.out]; omega) (by rw [hS5.out]; omega) (hKR.good q (by omega))
          have hrd : (R'.d q).read r = sec (R'.d q).last r := by unfold Dk.read; rw [hKR.cache q r]; rfl
          rw [hrd] at hla
          have hv := hKR.last c hlt
          rw [← hq2, ← hr4] at hv
          have hdq := hr.drv q (by rw [hn5.out]; omega)
          have hlen : (sec (R'.d q).last r).length = 64 := sec_len hdq.len (by rw [hS5.out]; omega)
          obtain ⟨ys, hys⟩ : ∃ ys, Hid (ys = sec (R'.d q).last r) := ⟨_, Lib.hid rfl⟩
          rw [← hys.out] at hla hlen hv
          have hv' : Hid (byt ys 0 = U c ∨ byt ys 0 = V c) := hv
          have hcs : Hid (byt Su c = U c) := hS'.out c hlt
          have hcw : Hid (byt W c = V c) := hW'.out c hlt
          clear hq2 hr4 hdq hrd hKR hv
          go_wp2_with (fail)
          refine hla.mono ?_
          rintro e w9 ⟨a9, c9, rfl, hs9⟩
          have hr9 := hr.below hs9.bel
          have hW9 := hW.below hW.lt hs9.bel
          have hS9 := hS.below hS.lt hs9.bel
          have hB9 := hB.trans (hs9.bel.mono hB.size)
          rcases hs9.bys.place with h0 | ⟨b9, o9, rfl, _, hc9⟩
          · omega
          rw [hlen] at hc9 ⊢
          have e1 : w9.cell? ⟨b9, o9, none⟩ = some (.int .u8 (byt ys 0)) := hc9 0 (by omega)
          have e2 : w9.cell? ⟨sb, c, none⟩ = some (.int .u8 (byt Su c)) := hS9.cell (by rw [hSl'.out]; exact hlt)
          have e3 : w9.cell? ⟨wb, c, none⟩ = some (.int .u8 (byt W c)) := hW9.cell (by rw [hWl'.out]; exact hlt)
          clear hs9 hc9 hr hW hS hB hla hlen
          by_cases hu : byt ys 0 = U c
          · rw [hu] at e1
            rw [hcs.out] at e2
            clear hu
            go_wp2_with (fail)
            go_quiet (fail)
            go_wp2_with (fail)
            have hq9 : Below w9.heap.size w9 (w9.drewN nq) := below_drewN (Below.refl _ _) nq
            go_roundw
            case rel => exact ⟨c + 1, by omega, by go_num, hr9.below hq9, hS9.below hS9.lt hq9, hW9.below hW9.lt hq9, hB9.trans (hq9.mono hB9.size)⟩
            case measure => simp [intOf]; omega
          · have hvv : byt ys 0 = V c := hv'.out.resolve_left hu
            rw [hvv] at e1 hu
            rw [hcs.out] at e2
            rw [hcw.out] at e3
            have hub : (V c != U c) = true := by simpa using hu
            clear hu hvv
            go_wp2_with (fail)
            go_quiet (fail)
            go_wp2_with (fail)
            have hq9 : Below w9.heap.size w9 (w9.drewN nq) := below_drewN (Below.refl _ _) nq
            go_roundw
            case rel => exact ⟨c + 1, by omega, by go_num, hr9.below hq9, hS9.below hS9.lt hq9, hW9.below hW9.lt hq9, hB9.trans (hq9.mono hB9.size)⟩
            case measure => simp [intOf]; omega
        · obtain rfl : c = 8 := by omega
          go_wp2_with (fail)
          go_ret
          exact ⟨rfl, hl1.trans (hB.mono hl1.size)⟩

theorem law_lasts (a a2 : Option Addr) (la ca l2 c2 : Nat) (fl : Int) (zs ks : List Int) (w : World) (hx : Ins w a la zs) (hy : Ins w a2 l2 ks) :
    Calls Try.prog 4 #[.slice a la ca, .int .i64 fl, .slice a2 l2 c2] w fun e w' => e = .returned (.bool true) ∧ Below w.heap.size w w' := by
  by_cases h : 200 < la ∨ 200 < l2
  · exact lasts_big a a2 la ca l2 c2 fl w h
  · exact lasts_in a a2 la ca l2 c2 fl zs ks w hx hy (by omega) (by omega)

end Go.Proofs.Ytcgemckookefmaa
