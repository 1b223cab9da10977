/-
  A disk of the program's rack, and its functions, by contract.
-/
import Derived.Test.YtcgemckookefmaaDev0
import Derived.Test.YtcgemckookefmaaMap
namespace Go.Proofs.Ytcgemckookefmaa
open Go.RowKit Go.Maps

/-- What a disk is: its bytes, what is cached of its sectors, has it failed, its count. -/
structure Dk where
  last : List Int
  cache : Nat → Option (List Int)
  bad : Bool
  cnt : Int

/-- A disk of S sectors whose four cells lie in block db from place o on. -/
structure DrvAt (w : World) (M : Nat → Prop) (S db o lb mb : Nat) (d : Dk) : Prop where
  c0 : w.cell? ⟨db, o, none⟩ = some (.slice (some ⟨lb, 0, none⟩) (S * 64) (S * 64))
  c1 : w.cell? ⟨db, o + 1, none⟩ = some (.map (some mb))
  c2 : w.cell? ⟨db, o + 2, none⟩ = some (.bool d.bad)
  c3 : w.cell? ⟨db, o + 3, none⟩ = some (.int .i64 d.cnt)
  blk : Blk w lb d.last
  len : d.last.length = S * 64
  small : AllB d.last
  cache : CacheAt w M S mb d.cache
  big : d.cnt ≤ 9223372036854775807

/-- What a sector reads as. -/
def Dk.read (d : Dk) (s : Nat) : List Int := (d.cache s).getD (sec d.last s)

theorem RetB.mk {w0 w' : World} {v : Value} {n : Nat} {zs : List Int} (h : Own w' w0.heap.size v n zs) (hb : Below w0.heap.size w0 w') : RetB w0 zs (.returned v) w' := RetB.own h hb

theorem read_any (M : Nat → Prop) (S db o lb mb s : Nat) (d : Dk) (w : World) (h : DrvAt w M S db o lb mb d) (hS : S ≤ 4096) (hs : s < S) :
    Calls Try.prog 46 #[.pointer (some ⟨db, o, none⟩), .int .i64 s] w (RetB w (d.read s)) := by
  obtain ⟨n, D, hc⟩ := h.cache
  have c0 := h.c0
  have c1 := h.c1
  cases e : d.cache s with
  | some zs =>
    have er : d.read s = zs := by simp [Dk.read, e]
    obtain ⟨g, c, hg, hy, hrun⟩ := hc.look hS hs e
    rw [er]
    clear hc er e
    go_enter Try.func46, Try.ntmps46
    go_wp2_with (go_at_call 40; refine (clone_any _ _ _ _ _ _ hy (by omega)).mono ?_; rintro e w' ⟨v, rfl, hown, hb⟩)
    go_ret
    exact RetB.own hown hb
  | none =>
    have er : d.read s = sec d.last s := by simp [Dk.read, e]
    have hrun := hc.miss hS hs e
    have hy := h.blk.sec h.len h.small hs
    rw [er]
    clear hc er e
    go_enter Try.func46, Try.ntmps46
    go_wp2_with (first
      | (go_at_call 41; refine (lastingOf_any db o lb s S w c0 hs hS).mono ?_; rintro e w' ⟨rfl, rfl⟩)
      | (go_at_call 40; refine (clone_any _ _ _ _ _ _ hy (by omega)).mono ?_; rintro e w' ⟨v, rfl, hown, hb⟩))
    go_ret
    exact RetB.own hown hb

/-- The image's bytes, and noughts behind them, as many as the disk has. -/
def loadL (S : Nat) (zs : List Int) : List Int := zs.take (S * 64) ++ List.replicate (S * 64 - zs.length) 0
theorem loadL_len (S : Nat) (zs : List Int) : (loadL S zs).length = S * 64 := by simp [loadL]; omega
theorem loadL_small (S : Nat) {zs : List Int} (h : AllB zs) : AllB (loadL S zs) := (h.take _).app (AllB.zeros _)
theorem byt_loadL {S : Nat} {zs : List Int} {i : Nat} (h : i < S * 64) : byt (loadL S zs) i = byt zs i := by
  unfold loadL
  rw [byt_pad, byt_take h]

/-- Blocks other than the disk's own two. -/
def Own2 (lb mb : Nat) : Nat → Prop := fun k => k = lb ∨ k = mb

theorem DrvAt.lt {w : World} {M : Nat → Prop} {S db o lb mb : Nat} {d : Dk} (h : DrvAt w M S db o lb mb d) : db < w.heap.size := World.block_lt_of_cell? w _ h.c0

set_option maxHeartbeats 400000 in
theorem load_any (M : Nat → Prop) (S db o lb mb n c : Nat) (a : Option Addr) (zs : List Int) (d : Dk) (w : World) (h : DrvAt w M S db o lb mb d) (hx : Bys w a n zs) (h1 : lb ≠ mb) (h2 : db ≠ lb) (h3 : db ≠ mb) (m1 : M lb) (hS : S ≤ 4096) (hn : n ≤ 1000000000000) :
    Calls Try.prog 47 #[.pointer (some ⟨db, o, none⟩), .slice a n c] w fun e w' => e = .returned (.tuple #[]) ∧ Turn (Own2 lb mb) w w' ∧ DrvAt w' M S db o lb mb { d with last := loadL S zs, cache := noneC } := by
  obtain ⟨nn, D, hc⟩ := h.cache
  have c0 := h.c0
  have c1 := h.c1
  have f0 : Hid (d.last.length = S * 64) := Lib.hid h.len
  by_cases hm : S * 64 ≤ n
  · have hk : Hid (Nat.min n (S * 64) = S * 64) := Lib.hid (Nat.min_eq_right hm)
    go_enter Try.func47, Try.ntmps47
    go_wp2_with (with_reducible refine wpList_cpl rfl (.tmp 8) (.tmp 9) rfl lb (S * 64) (S * 64) n c a rfl rfl d.last zs h.blk f0.out hx (S * 64) hk.out ?_)
    intro w1 hb1 ht1
    have a0 := (ht1.cell (a := ⟨db, o, none⟩) h.lt h2).trans c0
    have a1 := (ht1.cell (a := ⟨db, o + 1, none⟩) h.lt h2).trans c1
    have hc1 : CacheD w1 M S mb d.cache nn D := hc.turn (ht1.mono fun k e => by rw [e]; exact m1) (ht1.block mb hc.own.lt (Ne.symm h1))
    clear c0 c1
    have hcl := fun ad c => run_clear_none w1 ad c
    obtain ⟨w2, hclm, hown2, hturn2⟩ := run_clear_map hc1.own Try.underlying62
    go_wp2_with (simp only [hcl, hclm])
    have t2 : Turn (Own2 lb mb) w w2 := (ht1.mono fun k e => .inl e).trans ((turn_map hturn2).mono fun k e => .inr e)
    have e1 : loadL S zs = zs.take (S * 64) ++ d.last.drop n := by
      unfold loadL
      rw [hx.len, Nat.sub_eq_zero_of_le hm, List.drop_eq_nil_of_le (by rw [h.len]; exact hm)]
      rfl
    go_end0
    refine ⟨rfl, t2, ?_⟩
    have t3 := turn_map hturn2
    have hl1 : db < w1.heap.size := Nat.lt_of_lt_of_le h.lt ht1.size
    refine ⟨(t3.cell (a := ⟨db, o, none⟩) hl1 h3).trans a0, (t3.cell (a := ⟨db, o + 1, none⟩) hl1 h3).trans a1, ?_, ?_, ?_, loadL_len S zs, loadL_small S hx.small, CacheAt.empty hown2, h.big⟩
    · exact (t3.cell (a := ⟨db, o + 2, none⟩) hl1 h3).trans ((ht1.cell (a := ⟨db, o + 2, none⟩) h.lt h2).trans h.c2)
    · exact (t3.cell (a := ⟨db, o + 3, none⟩) hl1 h3).trans ((ht1.cell (a := ⟨db, o + 3, none⟩) h.lt h2).trans h.c3)
    · rw [e1]
      exact hb1.turn t3 h1
  · have hk : Hid (Nat.min n (S * 64) = n) := Lib.hid (Nat.min_eq_left (by omega))
    go_enter Try.func47, Try.ntmps47
    go_wp2_with (with_reducible refine wpList_cpl rfl (.tmp 8) (.tmp 9) rfl lb (S * 64) (S * 64) n c a rfl rfl d.last zs h.blk f0.out hx n hk.out ?_)
    intro w1 hb1 ht1
    have a0 := (ht1.cell (a := ⟨db, o, none⟩) h.lt h2).trans c0
    have a1 := (ht1.cell (a := ⟨db, o + 1, none⟩) h.lt h2).trans c1
    have hc1 : CacheD w1 M S mb d.cache nn D := hc.turn (ht1.mono fun k e => by rw [e]; exact m1) (ht1.block mb hc.own.lt (Ne.symm h1))
    have e1 : Hid (loadL S zs = (zs.take (S * 64) ++ d.last.drop n).take n ++ List.replicate (S * 64 - n) 0) := by
      unfold loadL Hid
      rw [hx.len, List.take_of_length_le (by rw [hx.len]; omega), List.take_append_of_le_length (by rw [hx.len]; omega), List.take_of_length_le (by rw [hx.len]; omega)]
    have e2 : Hid ((zs.take (S * 64) ++ d.last.drop n).length = n + (S * 64 - n)) := by
      unfold Hid
      rw [List.length_append, List.length_take, List.length_drop, hx.len, h.len]
      omega
    clear c0 c1
    obtain ⟨w2, hcl, hb2, ht2⟩ := run_clear_blk lb n (S * 64 - n) (S * 64 - n) _ hb1 e2.out (by omega)
    have b0 := (ht2.cell (a := ⟨db, o, none⟩) (Nat.lt_of_lt_of_le h.lt ht1.size) h2).trans a0
    have b1 := (ht2.cell (a := ⟨db, o + 1, none⟩) (Nat.lt_of_lt_of_le h.lt ht1.size) h2).trans a1
    have hc2 : CacheD w2 M S mb d.cache nn D := hc1.turn (ht2.mono fun k e => by rw [e]; exact m1) (ht2.block mb hc1.own.lt (Ne.symm h1))
    obtain ⟨w3, hclm, hown3, hturn3⟩ := run_clear_map hc2.own Try.underlying62
    go_wp2_with (first | simp only [hcl] | simp only [hclm])
    have t12 := ht1.trans ht2
    have t3 := turn_map hturn3
    have t4 : Turn (Own2 lb mb) w w3 := (t12.mono fun k e => .inl e).trans (t3.mono fun k e => .inr e)
    go_end0
    have hl1 : db < w2.heap.size := Nat.lt_of_lt_of_le h.lt t12.size
    refine ⟨rfl, t4, (t3.cell (a := ⟨db, o, none⟩) hl1 h3).trans b0, (t3.cell (a := ⟨db, o + 1, none⟩) hl1 h3).trans b1, ?_, ?_, ?_, loadL_len S zs, loadL_small S hx.small, CacheAt.empty hown3, h.big⟩
    · exact (t3.cell (a := ⟨db, o + 2, none⟩) hl1 h3).trans ((t12.cell (a := ⟨db, o + 2, none⟩) h.lt h2).trans h.c2)
    · exact (t3.cell (a := ⟨db, o + 3, none⟩) hl1 h3).trans ((t12.cell (a := ⟨db, o + 3, none⟩) h.lt h2).trans h.c3)
    · rw [e1.out]
      exact hb2.turn t3 h1

end Go.Proofs.Ytcgemckookefmaa
