/-
  DeviceKeeps' walk.
-/
import Derived.Test.YtcgemckookefmaaKp
namespace Go.Proofs.Ytcgemckookefmaa
open Go.RowKit Go.Maps

section
variable {U V : Nat → Int} {R : Rk} {M : Nat → Prop} {L : Lay} {w : World}
theorem Kp.rest_all (hr : RackAt w M L R) (h : Kp U V R) {c : Nat} (hc : c < 8) : byt (sec ((R.restore [3]).d (c / 4)).last (c % 4)) 0 = V c := by
  rw [h.rest_byt hr [3] hc]
  have hb := (h.good (c / 4) (by omega)).1
  rcases h.cache c hc with ⟨h1, h2⟩ | ⟨zs, h1, _⟩
  · rw [h2]; split <;> rfl
  · rw [if_pos]
    unfold Dk.stays
    rw [h1, hb]
    simp [keptB, Nat.mod_one]
theorem Kp.rest_none (hr : RackAt w M L R) (h : Kp U V R) {c : Nat} (hc : c < 8) : byt (sec ((R.restore []).d (c / 4)).last (c % 4)) 0 = U c := by
  rw [h.rest_byt hr [] hc, if_neg]
  simp [Dk.stays, keptB]
end

theorem info3 : (Try.prog.info? 3).map (fun i => (i.zero, i.size, i.bytes)) = some (some (.int .i64 0), 1, 8) := by kernel_rfl

/-- 'append' of one number onto a new empty slice. -/
theorem wpList_one {w : World} {ops : Array Oper} {rest : List Oper} {o : Oper} {a : Act} {Q : Exit → Act → World → Prop} (hgd : o.guard = none) (s x : Operand)
    (ho : o.op = .call { callee := .builtin .append, args := #[s, x], argTypes := #[31, 31] })
    (g1 g2 : Nat) (z : Int) (hs : a.eval s = .slice (some ⟨g1, 0, none⟩) 0 0) (hx : a.eval x = .slice (some ⟨g2, 0, none⟩) 1 1) (h1 : w.heap[g1]? = some (.cells #[] 3 (0, 0))) (h2 : w.cell? ⟨g2, 0, none⟩ = some (.int .i64 z)) (B : Nat) (hB : B ≤ g1) (w0 : World) (hb : Below B w0 w)
    (h : ∀ ad c w', Ins w' ad 1 [z] → (∀ b off, ad = some ⟨b, off, none⟩ → B ≤ b) → Below B w0 w' → wpList Try.prog ops Q rest (a.put o.dst (.slice ad 1 c)) w') : wpList Try.prog ops Q (o :: rest) a w := by
  obtain ⟨i0, hi, hz0, hz1, hz2⟩ := info_parts info3
  have hlt := lt_of_block h1
  have hown : w.ownsRow B 3 1 (.slice (some ⟨g1, 0, none⟩) 0 0) 0 [] := ⟨rfl, .inr ⟨g1, 0, #[], rfl, hB, h1, Nat.le_refl _, Nat.zero_le _, rfl, rfl⟩⟩
  refine wpList_append_own w hgd s x 31 ho B 3 i0 (.int .i64 0) 1 8 Try.underlying31 hi hz0 hz1 hz2 rfl (by decide) (.slice (some ⟨g1, 0, none⟩) 0 0) 0 [] hs hown ⟨g2, 0, none⟩ 1 1 [.int .i64 z] hx rfl ?_ ?_ (by unfold maxLen; omega) (by omega) (by omega) ?_
  · intro j u hj
    have : j = 0 := by
      rcases Nat.eq_zero_or_pos j with h | h
      · exact h
      · rw [List.getElem?_eq_none (by simp; omega)] at hj; cases hj
    subst this
    simp at hj
    subst hj
    exact h2
  · intro u hu
    obtain rfl := List.mem_singleton.1 hu
    rfl
  · intro v' w' hown' hgrow _
    rcases hown'.2 with ⟨_, h0⟩ | ⟨g, cap, cur, rfl, hbg, hh, _, _, hsz, htake⟩
    · omega
    refine h _ _ w' ⟨rfl, .inr ⟨g, 0, rfl, (Array.getElem?_eq_some_iff.1 hh).1, fun i hi => ?_⟩⟩ (fun b off e => by cases e; exact hbg) (hb.grown hgrow (by omega) fun k hk => by cases hk; exact hB)
    obtain rfl : i = 0 := by omega
    rw [cell_of_row w' g _ _ _ (0, 0) hh, ← Array.getElem?_toList]
    have := congrArg (fun l => l[0]?) htake
    simp at this
    simpa using this

theorem keeps_big (a : Option Addr) (la ca : Nat) (all : Bool) (w : World) (h : 100 < la) :
    Calls Try.prog 8 #[.slice a la ca, .bool all] w fun e w' => e = .returned (.bool true) ∧ Below w.heap.size w w' := by
  go_enter Try.func8, Try.ntmps8
  go_wp2_with (fail)
  with_reducible refine (alive2_any _).mono ?_
  rintro e w1 ⟨rfl, hl1⟩
  go_wp2_with (fail)
  go_ret
  exact ⟨rfl, hl1⟩

theorem and7_nat (n : Int) : ∃ m : Nat, m < 8 ∧ bits .and .i64 n 7 = (m : Int) := ⟨(n % 8).toNat, by omega, by rw [i64_and7]; omega⟩

/-- 64 bytes of which only the first is told. -/
def one64 (v : Int) : List Int := zeros64.set 0 v
theorem one64_len (v : Int) : (one64 v).length = 64 := by simp [one64, zeros64]
theorem one64_zero (v : Int) : byt (one64 v) 0 = v := by unfold one64; rw [byt_set (by simp [zeros64])]; simp
theorem one64_small {v : Int} (h : 0 ≤ v ∧ v ≤ 255) : AllB (one64 v) := by
  intro z hz
  rcases List.mem_or_eq_of_mem_set hz with hz | rfl
  · rw [(List.mem_replicate.1 hz).2]; omega
  · exact h

set_option maxHeartbeats 2000000 in
theorem keeps_yes (a : Option Addr) (la ca : Nat) (zs : List Int) (w : World) (hx : Ins w a la zs) (h : la ≤ 100) :
    Calls Try.prog 8 #[.slice a la ca, .bool true] w fun e w' => e = .returned (.bool true) ∧ Below w.heap.size w w' := by
  go_enter Try.func8, Try.ntmps8
  go_wp2_with (fail)
  with_reducible refine (alive2_any _).mono ?_
  rintro e w1 ⟨rfl, hl1⟩
  have hx1 := ins_below hx (Nat.le_refl _) hl1
  go_wp2_with (fail)
  refine (new_ok 2 4 w1 (by omega) (by omega) (by omega) (by omega)).mono ?_
  rintro e w2 ⟨L, rfl, hr2, hM0, hl2⟩
  have hM : Hid (∀ k, L.M 2 k → w1.heap.size ≤ k) := hM0
  clear hM0 hx
  go_wp2_with (fail)
  have hA : Below w2.heap.size w2 (w2.alloc (.cells #[.int .u8 0, .int .u8 0, .int .u8 0, .int .u8 0, .int .u8 0, .int .u8 0, .int .u8 0, .int .u8 0] 47)) := (Below.refl _ _).alloc (Nat.le_refl _) _
  have hr3 := hr2.more hA (by simp)
  have hB3 := hl2.trans (hA.mono hl2.size)
  have hwM : Hid (¬ L.M 2 w2.heap.size) := fun x => by have := hr2.low _ x; omega
  have hw3 : Arr (w2.alloc (.cells #[.int .u8 0, .int .u8 0, .int .u8 0, .int .u8 0, .int .u8 0, .int .u8 0, .int .u8 0, .int .u8 0] 47)) w2.heap.size (List.replicate 8 0) := ⟨heap_alloc_new w2 _⟩
  have hwB : w1.heap.size ≤ w2.heap.size := hl2.size
  obtain ⟨wb, hwb⟩ : ∃ wb, wb = w2.heap.size := ⟨_, rfl⟩
  rw [← hwb] at hr3 hw3 hwM hwB ⊢
  clear hwb hr2 hl2 hA
  go_loopw [8] (fun i wr => ∃ (k : Nat) (R : Rk) (V : Nat → Int) (W : List Int), k ≤ la ∧ i = .int .i64 k ∧ RackAt wr (L.M' 2 wb) L R ∧ Kp (fun _ => 0) V R ∧ Arr wr wb W ∧ W.length = 8 ∧ (∀ c, c < 8 → byt W c = V c) ∧ Below w1.heap.size w1 wr) (fun i _ => la - (intOf i).toNat)
  case atStart => exact ⟨0, _, _, _, Nat.zero_le _, rfl, hr3, Kp.start, hw3, rfl, fun c _ => byt_zero 8 c, hB3⟩
  case round =>
    obtain ⟨k, R, V, W, hk, rfl, hr, hP, hW, hWl, hWV, hB⟩ := hrel
    clear hr3 hw3 hB3
    have hxr := ins_below hx1 (Nat.le_refl _) hB
    by_cases hlt : k < la
    · rcases hxr.2 with h0 | ⟨ba, oa, rfl, _, hca⟩
      · omega
      have hcell := hca k hlt
      obtain ⟨z, hz0⟩ : ∃ z, z = zs.getD k 0 := ⟨_, rfl⟩
      rw [← hz0] at hcell
      obtain ⟨m, hm8, hm⟩ := and7_nat z
      obtain ⟨q, hq⟩ : ∃ q : Nat, (m : Int) / 4 = (q : Int) := ⟨m / 4, by omega⟩
      obtain ⟨r, hr'⟩ : ∃ r : Nat, (m : Int) % 4 = (r : Int) := ⟨m % 4, by omega⟩
      have hq2 : q < 2 := by omega
      have hr4 : r < 4 := by omega
      have hmq : Hid (m = 4 * q + r) := by unfold Hid; omega
      have hW' : Hid (∀ c, c < 8 → byt W c = V c) := hWV
      have hWl' : Hid (W.length = 8) := hWl
      clear hca hx1 hxr hz0 hWV hWl
      go_wp2_with (at_make; refine wpList_mk rfl _ _ rfl .i64 .i64 64 64 64 rfl rfl rfl rfl (by omega) ?_; intro w3 hb3 hl3; have hc3 := hb3.cell (i := 0) (by simp); have hf3 := hb3.free 0)
      have hbs : Below wr.heap.size wr (w3.setCell ⟨wr.heap.size, 0, none⟩ (.int .u8 ((k : Int) + 1))) := hl3.setCell (Nat.le_refl _) _
      have hr3 := hr.below hbs
      have hz3 : Blk (w3.setCell ⟨wr.heap.size, 0, none⟩ (.int .u8 ((k : Int) + 1))) wr.heap.size (one64 ((k : Int) + 1)) := hb3.set 0 _
      have hW3 := hW.below hW.lt hbs
      have hbM : Hid (¬ L.M' 2 wb wr.heap.size) := fun x => by have := hr.low _ x; omega
      have hB3 := hB.trans (hbs.mono hB.size)
      clear hc3 hf3 hb3 hl3 hbs hr hW hB
      have hwr := kp_write q r wr.heap.size 0 64 _ hr3 hP hq2 hr4 (hz3.bysn (one64_small (by omega)) (one64_len _)) hbM.out
      rw [one64_zero, ← hmq.out] at hwr
      refine hwr.mono ?_
      rintro e w9 ⟨rfl, R', hr9, hP9, ht9⟩
      have hW9 := hW3.turn ht9 hwM.out
      have hB9 := hB3.trans (ht9.below hB3.size hM.out)
      have hcw := hW9.cell (i := m) (by rw [hWl'.out]; exact hm8)
      have hfw := hW9.free m
      clear hwr hr3 hz3 hW3 hB3 ht9
      go_wp2_with (fail)
      have hWs := hW9.set m ((k : Int) + 1)
      have hr10 := hr9.setMore hP9.hn hwM.out m (.int .u8 ((k : Int) + 1))
      have hB10 := hB9.setCell (p := ⟨wb, m, none⟩) hwB (.int .u8 ((k : Int) + 1))
      have hWV10 : Hid (∀ c, c < 8 → byt (W.set m ((k : Int) + 1)) c = setV V m ((k : Int) + 1) c) := fun c hc => by
        rw [byt_set (by rw [hWl'.out]; exact hm8)]
        unfold setV
        split
        · rfl
        · exact hW'.out c hc
      have hWl10 : Hid ((W.set m ((k : Int) + 1)).length = 8) := by unfold Hid; rw [List.length_set]; exact hWl'.out
      clear hcw hfw hW9 hr9 hB9
      go_roundw
      case rel => exact ⟨k + 1, R', _, _, by omega, by go_num, hr10, hP9, hWs, hWl10.out, hWV10.out, hB10⟩
      case measure => simp [intOf]; omega
    · obtain rfl : k = la := by omega
      have hW' : Hid (∀ c, c < 8 → byt W c = V c) := hWV
      have hWl' : Hid (W.length = 8) := hWl
      clear hx1 hxr hWV hWl
      have hA1 : Below wr.heap.size wr ((wr.alloc (.cells #[] 3)).alloc (.cells #[.int .i64 3] 3)) := ((Below.refl _ _).alloc (Nat.le_refl _) _).alloc (by simp) _
      have hg1 : ((wr.alloc (.cells #[] 3)).alloc (.cells #[.int .i64 3] 3)).heap[wr.heap.size]? = some (.cells #[] 3 (0, 0)) := (Below.heap_alloc _ _ _ (by simp)).trans (heap_alloc_new wr _)
      have hg2 : ((wr.alloc (.cells #[] 3)).alloc (.cells #[.int .i64 3] 3)).cell? ⟨wr.heap.size + 1, 0, none⟩ = some (.int .i64 3) := by
        have e : (wr.alloc (.cells #[] 3)).heap.size = wr.heap.size + 1 := by simp
        rw [← e, cell_of_row _ _ _ _ _ (0, 0) (heap_alloc_new (wr.alloc (.cells #[] 3)) _)]
        rfl
      go_wp2_with (at_builtin; go_must (refine wpList_one rfl (.tmp 64) (.tmp 65) rfl wr.heap.size (wr.heap.size + 1) 3 rfl rfl hg1 hg2 wr.heap.size (Nat.le_refl _) wr hA1 ?_); intro ad cc w5 hks5 hnew5 hb5)
      have hr5 := hr.below hb5
      have hW5 := hW.below hW.lt hb5
      have hB5 := hB.trans (hb5.mono hB.size)
      have hlow : Hid (∀ j, L.M' 2 wb j → j < wr.heap.size) := hr.low
      have hV : Hid (∀ c, c < 8 → byt (sec ((R.restore [3]).d (c / 4)).last (c % 4)) 0 = V c) := fun c hc => hP.rest_all hr hc
      have hn5 : Hid ((R.restore [3]).n = 2) := hP.hn
      have hS5 : Hid ((R.restore [3]).S = 4) := hP.hS
      have hn6 : Hid (R.n = 2) := hP.hn
      clear hA1 hg1 hg2 hr hW hB hP hb5
      refine (restore_ok (L.M' 2 wb) L R 1 cc ad [3] w5 hr5 hks5 (.inr fun b off e x => ?_) (by omega)).mono ?_
      · have h1 := hlow.out b x
        have h2 := hnew5 b off e
        omega
      rintro e w6 ⟨rfl, hr6, ht6⟩
      rw [hn6.out] at ht6
      have hW6 := hW5.turn ht6 hwM.out
      have hB6 := hB5.trans (ht6.below hB5.size hM.out)
      obtain ⟨R', hR'⟩ : ∃ R', Hid (R' = R.restore [3]) := ⟨_, Lib.hid rfl⟩
      rw [← hR'.out] at hr6 hV hn5 hS5
      clear hks5 hnew5 hr5 hW5 hB5 ht6 hlow
      go_wp2_with (fail)
      go_loopw [12] (fun i wr => ∃ c : Nat, c ≤ 8 ∧ i = .int .i64 c ∧ RackAt wr (L.M' 2 wb) L R' ∧ Arr wr wb W ∧ Below w1.heap.size w1 wr) (fun i _ => 8 - (intOf i).toNat)
      case atStart => exact ⟨0, by omega, rfl, hr6, hW6, hB6⟩
      case round =>
        obtain ⟨c, hc, rfl, hr, hW, hB⟩ := hrel
        clear hr6 hW6 hB6
        by_cases hlt : c < 8
        · obtain ⟨q, hq⟩ : ∃ q : Nat, (c : Int) / 4 = (q : Int) := ⟨c / 4, by omega⟩
          obtain ⟨r, hr'⟩ : ∃ r : Nat, (c : Int) % 4 = (r : Int) := ⟨c % 4, by omega⟩
          have hq2 : q = c / 4 := by omega
          have hr4 : r = c % 4 := by omega
          have hv := hV.out c hlt
          rw [← hq2, ← hr4] at hv
          have hla := lasting_ok (L.M' 2 wb) L R' wr q r hr (by rw [hn5.out]; omega) (by rw [hS5.out]; omega)
          have hdq := hr.drv q (by rw [hn5.out]; omega)
          have hlen : (sec (R'.d q).last r).length = 64 := sec_len hdq.len (by rw [hS5.out]; omega)
          obtain ⟨ys, hys⟩ : ∃ ys, Hid (ys = sec (R'.d q).last r) := ⟨_, Lib.hid rfl⟩
          rw [← hys.out] at hla hlen hv
          have hcw : byt W c = V c := hW'.out c hlt
          have hWc := hWl'.out
          clear hq2 hr4 hdq
          go_wp2_with (fail)
          refine hla.mono ?_
          rintro e w9 ⟨a9, c9, rfl, hs9⟩
          have hr9 := hr.below hs9.bel
          have hW9 := hW.below hW.lt hs9.bel
          have hB9 := hB.trans (hs9.bel.mono hB.size)
          rcases hs9.bys.place with h0 | ⟨b9, o9, rfl, _, hc9⟩
          · omega
          rw [hlen] at hc9 ⊢
          have e1 : w9.cell? ⟨b9, o9, none⟩ = some (.int .u8 (V c)) := by rw [← hv]; exact hc9 0 (by omega)
          have e2 : w9.cell? ⟨wb, c, none⟩ = some (.int .u8 (V c)) := by rw [← hcw]; exact hW9.cell (by omega)
          clear hs9 hc9 hr hW hB hv hcw hla hlen hWc
          go_wp2_with (fail)
          go_quiet (fail)
          go_wp2_with (fail)
          have hq9 : Below w9.heap.size w9 (w9.drewN nq) := below_drewN (Below.refl _ _) nq
          go_roundw
          case rel => exact ⟨c + 1, by omega, by go_num, hr9.below hq9, hW9.below hW9.lt hq9, hB9.trans (hq9.mono hB9.size)⟩
          case measure => simp [intOf]; omega
        · obtain rfl : c = 8 := by omega
          go_wp2_with (fail)
          go_ret
          exact ⟨rfl, hl1.trans (hB.mono hl1.size)⟩

set_option maxHeartbeats 2000000 in
theorem keeps_no (a : Option Addr) (la ca : Nat) (zs : List Int) (w : World) (hx : Ins w a la zs) (h : la ≤ 100) :
    Calls Try.prog 8 #[.slice a la ca, .bool false] w fun e w' => e = .returned (.bool true) ∧ Below w.heap.size w w' := by
  go_enter Try.func8, Try.ntmps8
  go_wp2_with (fail)
  with_reducible refine (alive2_any _).mono ?_
  rintro e w1 ⟨rfl, hl1⟩
  have hx1 := ins_below hx (Nat.le_refl _) hl1
  go_wp2_with (fail)
  refine (new_ok 2 4 w1 (by omega) (by omega) (by omega) (by omega)).mono ?_
  rintro e w2 ⟨L, rfl, hr2, hM0, hl2⟩
  have hM : Hid (∀ k, L.M 2 k → w1.heap.size ≤ k) := hM0
  clear hM0 hx
  go_wp2_with (fail)
  have hA : Below w2.heap.size w2 (w2.alloc (.cells #[.int .u8 0, .int .u8 0, .int .u8 0, .int .u8 0, .int .u8 0, .int .u8 0, .int .u8 0, .int .u8 0] 47)) := (Below.refl _ _).alloc (Nat.le_refl _) _
  have hr3 := hr2.more hA (by simp)
  have hB3 := hl2.trans (hA.mono hl2.size)
  have hwM : Hid (¬ L.M 2 w2.heap.size) := fun x => by have := hr2.low _ x; omega
  have hw3 : Arr (w2.alloc (.cells #[.int .u8 0, .int .u8 0, .int .u8 0, .int .u8 0, .int .u8 0, .int .u8 0, .int .u8 0, .int .u8 0] 47)) w2.heap.size (List.replicate 8 0) := ⟨heap_alloc_new w2 _⟩
  have hwB : w1.heap.size ≤ w2.heap.size := hl2.size
  obtain ⟨wb, hwb⟩ : ∃ wb, wb = w2.heap.size := ⟨_, rfl⟩
  rw [← hwb] at hr3 hw3 hwM hwB ⊢
  clear hwb hr2 hl2 hA
  go_loopw [8] (fun i wr => ∃ (k : Nat) (R : Rk) (V : Nat → Int) (W : List Int), k ≤ la ∧ i = .int .i64 k ∧ RackAt wr (L.M' 2 wb) L R ∧ Kp (fun _ => 0) V R ∧ Arr wr wb W ∧ W.length = 8 ∧ (∀ c, c < 8 → byt W c = 0) ∧ Below w1.heap.size w1 wr) (fun i _ => la - (intOf i).toNat)
  case atStart => exact ⟨0, _, _, _, Nat.zero_le _, rfl, hr3, Kp.start, hw3, rfl, fun c _ => byt_zero 8 c, hB3⟩
  case round =>
    obtain ⟨k, R, V, W, hk, rfl, hr, hP, hW, hWl, hWV, hB⟩ := hrel
    clear hr3 hw3 hB3
    have hxr := ins_below hx1 (Nat.le_refl _) hB
    by_cases hlt : k < la
    · rcases hxr.2 with h0 | ⟨ba, oa, rfl, _, hca⟩
      · omega
      have hcell := hca k hlt
      obtain ⟨z, hz0⟩ : ∃ z, z = zs.getD k 0 := ⟨_, rfl⟩
      rw [← hz0] at hcell
      obtain ⟨m, hm8, hm⟩ := and7_nat z
      obtain ⟨q, hq⟩ : ∃ q : Nat, (m : Int) / 4 = (q : Int) := ⟨m / 4, by omega⟩
      obtain ⟨r, hr'⟩ : ∃ r : Nat, (m : Int) % 4 = (r : Int) := ⟨m % 4, by omega⟩
      have hq2 : q < 2 := by omega
      have hr4 : r < 4 := by omega
      have hmq : Hid (m = 4 * q + r) := by unfold Hid; omega
      have hW' : Hid (∀ c, c < 8 → byt W c = 0) := hWV
      have hWl' : Hid (W.length = 8) := hWl
      clear hca hx1 hxr hz0 hWV hWl
      go_wp2_with (at_make; refine wpList_mk rfl _ _ rfl .i64 .i64 64 64 64 rfl rfl rfl rfl (by omega) ?_; intro w3 hb3 hl3; have hc3 := hb3.cell (i := 0) (by simp); have hf3 := hb3.free 0)
      have hbs : Below wr.heap.size wr (w3.setCell ⟨wr.heap.size, 0, none⟩ (.int .u8 ((k : Int) + 1))) := hl3.setCell (Nat.le_refl _) _
      have hr3 := hr.below hbs
      have hz3 : Blk (w3.setCell ⟨wr.heap.size, 0, none⟩ (.int .u8 ((k : Int) + 1))) wr.heap.size (one64 ((k : Int) + 1)) := hb3.set 0 _
      have hW3 := hW.below hW.lt hbs
      have hbM : Hid (¬ L.M' 2 wb wr.heap.size) := fun x => by have := hr.low _ x; omega
      have hB3 := hB.trans (hbs.mono hB.size)
      clear hc3 hf3 hb3 hl3 hbs hr hW hB
      have hwr := kp_write q r wr.heap.size 0 64 _ hr3 hP hq2 hr4 (hz3.bysn (one64_small (by omega)) (one64_len _)) hbM.out
      rw [one64_zero, ← hmq.out] at hwr
      refine hwr.mono ?_
      rintro e w9 ⟨rfl, R', hr9, hP9, ht9⟩
      have hW9 := hW3.turn ht9 hwM.out
      have hB9 := hB3.trans (ht9.below hB3.size hM.out)
      clear hwr hr3 hz3 hW3 hB3 ht9
      go_wp2_with (fail)
      go_roundw
      case rel => exact ⟨k + 1, R', _, W, by omega, by go_num, hr9, hP9, hW9, hWl'.out, hW'.out, hB9⟩
      case measure => simp [intOf]; omega
    · obtain rfl : k = la := by omega
      have hW' : Hid (∀ c, c < 8 → byt W c = 0) := hWV
      have hWl' : Hid (W.length = 8) := hWl
      clear hx1 hxr hWV hWl
      have hb5 : Below wr.heap.size wr (wr.alloc (.cells #[] 3)) := (Below.refl _ _).alloc (Nat.le_refl _) _
      go_wp2_with (fail)
      have hr5 := hr.below hb5
      have hW5 := hW.below hW.lt hb5
      have hB5 := hB.trans (hb5.mono hB.size)
      have hlow : Hid (∀ j, L.M' 2 wb j → j < wr.heap.size) := hr.low
      have hV : Hid (∀ c, c < 8 → byt (sec ((R.restore []).d (c / 4)).last (c % 4)) 0 = 0) := fun c hc => hP.rest_none hr hc
      have hn5 : Hid ((R.restore []).n = 2) := hP.hn
      have hS5 : Hid ((R.restore []).S = 4) := hP.hS
      have hn6 : Hid (R.n = 2) := hP.hn
      clear hr hW hB hP hb5
      refine (restore_ok (L.M' 2 wb) L R 0 0 (some ⟨wr.heap.size, 0, none⟩) [] _ hr5 ⟨rfl, .inl rfl⟩ (.inr fun b off e x => ?_) (by omega)).mono ?_
      · have h1 := hlow.out b x
        cases e
        omega
      rintro e w6 ⟨rfl, hr6, ht6⟩
      rw [hn6.out] at ht6
      have hW6 := hW5.turn ht6 hwM.out
      have hB6 := hB5.trans (ht6.below hB5.size hM.out)
      obtain ⟨R', hR'⟩ : ∃ R', Hid (R' = R.restore []) := ⟨_, Lib.hid rfl⟩
      rw [← hR'.out] at hr6 hV hn5 hS5
      clear hr5 hW5 hB5 ht6 hlow
      go_wp2_with (fail)
      go_loopw [12] (fun i wr => ∃ c : Nat, c ≤ 8 ∧ i = .int .i64 c ∧ RackAt wr (L.M' 2 wb) L R' ∧ Arr wr wb W ∧ Below w1.heap.size w1 wr) (fun i _ => 8 - (intOf i).toNat)
      case atStart => exact ⟨0, by omega, rfl, hr6, hW6, hB6⟩
      case round =>
        obtain ⟨c, hc, rfl, hr, hW, hB⟩ := hrel
        clear hr6 hW6 hB6
        by_cases hlt : c < 8
        · obtain ⟨q, hq⟩ : ∃ q : Nat, (c : Int) / 4 = (q : Int) := ⟨c / 4, by omega⟩
          obtain ⟨r, hr'⟩ : ∃ r : Nat, (c : Int) % 4 = (r : Int) := ⟨c % 4, by omega⟩
          have hq2 : q = c / 4 := by omega
          have hr4 : r = c % 4 := by omega
          have hv := hV.out c hlt
          rw [← hq2, ← hr4] at hv
          have hla := lasting_ok (L.M' 2 wb) L R' wr q r hr (by rw [hn5.out]; omega) (by rw [hS5.out]; omega)
          have hdq := hr.drv q (by rw [hn5.out]; omega)
          have hlen : (sec (R'.d q).last r).length = 64 := sec_len hdq.len (by rw [hS5.out]; omega)
          obtain ⟨ys, hys⟩ : ∃ ys, Hid (ys = sec (R'.d q).last r) := ⟨_, Lib.hid rfl⟩
          rw [← hys.out] at hla hlen hv
          have hcw : byt W c = 0 := hW'.out c hlt
          have hWc := hWl'.out
          clear hq2 hr4 hdq
          go_wp2_with (fail)
          refine hla.mono ?_
          rintro e w9 ⟨a9, c9, rfl, hs9⟩
          have hr9 := hr.below hs9.bel
          have hW9 := hW.below hW.lt hs9.bel
          have hB9 := hB.trans (hs9.bel.mono hB.size)
          rcases hs9.bys.place with h0 | ⟨b9, o9, rfl, _, hc9⟩
          · omega
          rw [hlen] at hc9 ⊢
          have e1 : w9.cell? ⟨b9, o9, none⟩ = some (.int .u8 0) := by rw [← hv]; exact hc9 0 (by omega)
          have e2 : w9.cell? ⟨wb, c, none⟩ = some (.int .u8 0) := by rw [← hcw]; exact hW9.cell (by omega)
          clear hs9 hc9 hr hW hB hv hcw hla hlen hWc
          go_wp2_with (fail)
          go_quiet (fail)
          go_wp2_with (fail)
          have hq9 : Below w9.heap.size w9 (w9.drewN nq) := below_drewN (Below.refl _ _) nq
          go_roundw
          case rel => exact ⟨c + 1, by omega, by go_num, hr9.below hq9, hW9.below hW9.lt hq9, hB9.trans (hq9.mono hB9.size)⟩
          case measure => simp [intOf]; omega
        · obtain rfl : c = 8 := by omega
          go_wp2_with (fail)
          go_ret
          exact ⟨rfl, hl1.trans (hB.mono hl1.size)⟩

theorem law_keeps (a : Option Addr) (la ca : Nat) (all : Bool) (zs : List Int) (w : World) (hx : Ins w a la zs) :
    Calls Try.prog 8 #[.slice a la ca, .bool all] w fun e w' => e = .returned (.bool true) ∧ Below w.heap.size w w' := by
  by_cases h : la ≤ 100
  · cases all with
    | true => exact keeps_yes a la ca zs w hx h
    | false => exact keeps_no a la ca zs w hx h
  · exact keeps_big a la ca all w (by omega)

end Go.Proofs.Ytcgemckookefmaa
