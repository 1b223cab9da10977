/-
  The law's 'told', whatever is called.
-/
import Derived.Test.YtoiidhpohghiaaaGreatTw1
import Derived.Test.YtoiidhpohghiaaaGreatTw2
import Derived.Test.YtoiidhpohghiaaaGreatTw4
import Derived.Test.YtoiidhpohghiaaaGreatTwx
import Derived.Test.YtoiidhpohghiaaaGreatArgB
namespace Go.Proofs.YtoiidhpohghiaaaGreat
open Go.RowKit Go.Maps
set_option linter.unusedVariables false

section
variable {w0 w w' : World} {M : Nat → Prop} {L : Lay} {K : RLay} {b y n : Nat} {R : Rk} {F : Rf} {B : Bn}
/-- What a call leaves. -/
def ToldP (w0 : World) (M : Nat → Prop) (L : Lay) (K : RLay) (b y n : Nat) (en : Ending) (w' : World) : Prop := en = .returned (.bool true) ∧ ∃ R F B, Two w0 M L K b y R F B w' ∧ B.d = (n : Int)
theorem told_all (c : Cb) (h : Two w0 M L K b y R F B w) (hd : B.d = (n : Int)) (hn : n ≤ 16) (hz : Pin w c.a c.n c.c c.zs) (hzM : c.n = 0 ∨ ∀ b off, c.a = some ⟨b, off, none⟩ → ¬ M b) (hl : c.n ≤ 1000000000000) (hm : c.m ≤ 9223372036854775807) :
    Calls Tryz.prog 11 #[.pointer (some ⟨L.p, 0, none⟩), .pointer (some ⟨b, 0, none⟩), .pointer (some ⟨K.p, 0, none⟩), .pointer (some ⟨y, 0, none⟩), cl c.q c.i c.m c.a c.n c.c c.e c.sl c.st] w (ToldP w0 M L K b y n) := by
  obtain ⟨q, i, m, a, l, k, zs, e, sl, st⟩ := c
  have hj : (B.join e sl st).d = (n : Int) := by rw [← hd]; unfold Bn.join; split <;> rfl
  simp only at hz hzM hl hm ⊢
  by_cases e0 : q = 0
  · subst e0; exact (told_read h).mono fun _ _ x => ⟨x.1, _, _, _, x.2, hd⟩
  by_cases e1 : q = 1
  · subst e1; exact (told_write h hz hzM hl).mono fun _ _ x => ⟨x.1, _, _, _, x.2, hd⟩
  by_cases e2 : q = 2
  · subst e2; exact (told_flush h hd hn).mono fun _ _ x => ⟨x.1, _, _, _, x.2, hd⟩
  by_cases e4 : q = 4
  · subst e4; exact (told_every h hz hzM hl hd hn).mono fun _ _ x => ⟨x.1, _, _, _, x.2, hd⟩
  by_cases e5 : q = 5
  · subst e5; exact (told_rows h hd hn).mono fun _ _ x => ⟨x.1, _, _, _, x.2, hd⟩
  by_cases e6 : q = 6
  · subst e6; exact (told_join h hd hn).mono fun _ _ x => ⟨x.1, _, _, _, x.2, hj⟩
  by_cases e7 : q = 7
  · subst e7; exact (told_arm h hm hd hn).mono fun _ _ x => ⟨x.1, _, _, _, x.2, hd⟩
  by_cases e8 : q = 8
  · subst e8; exact (told_doom h hm).mono fun _ _ x => ⟨x.1, _, _, _, x.2, hd⟩
  by_cases e9 : q = 9
  · subst e9; exact (told_restore h hd hn).mono fun _ _ x => ⟨x.1, _, _, _, x.2, hd⟩
  exact (told_none h hd hn (by simpa using e0) (by simpa using e1) (by simpa using e2) (by simpa using e4) (by simpa using e5) (by simpa using e6) (by simpa using e7) (by simpa using e8) (by simpa using e9)).mono fun _ _ x => ⟨x.1, _, _, _, x.2, hd⟩
end

theorem RefAt.also {w w' : World} {M N : Nat → Prop} {L : RLay} {F : Rf} (h : RefAt w M L F) (hb : Below w.heap.size w w') (hN : ∀ k, N k → w.heap.size ≤ k ∧ k < w'.heap.size) : RefAt w' (Go.Proofs.YtoiidhpohghiaaaGreat.also M N) L F := by
  have hw := h.below hb
  obtain ⟨fl, fc, h⟩ := h
  have hs : ∀ {v : Value} {zs : List Int}, SlL w M v zs → SlL w' (Go.Proofs.YtoiidhpohghiaaaGreat.also M N) v zs := by
    rintro v zs ⟨g, c, rfl, hg, hy⟩
    refine ⟨g, c, rfl, fun x => ?_, hy.next hb⟩
    rcases x with x | x
    · exact hg x
    · rcases hy.place with h0 | ⟨b, off, e, hl, _⟩
      · omega
      · cases e
        have := (hN _ x).1
        omega
  have ht : Turn (fun _ => False) w w' := Turn.of_below hb
  have hf := h.keep ht (fun _ x => x.elim) (fun _ _ x => x)
  exact ⟨fl, fc, ⟨hf.row, hf.cl, hf.cc, hf.cb, hf.cn, fun k hk => hs (h.last k hk), fun k hk => (h.cach k hk).imp id fun ⟨zs, e, hz⟩ => ⟨zs, e, hs hz⟩, hf.apart, fun k hk => .inl (h.sub k hk), fun k hk => hk.elim (fun x => Nat.lt_of_lt_of_le (h.low k x) hb.size) (fun x => (hN k x).2), hf.few, hf.one, hf.fewS, hf.bigp, hf.bigc⟩⟩

/-- Both banks, opened. -/
theorem Two.opened {w0 W w5 w6 : World} {L : Lay} {K : RLay} {R : Rk} {F : Rf} {d r s e sl st : Int} {en en' : Ending} (hb : Both W L K R F) (hr : Rel R F) (hlo : ∀ k, L.M R.n k ∨ K.M k → w0.heap.size ≤ k) (hbel : Below w0.heap.size w0 W)
    (h5 : OpenPost L.p R d r s e sl st W en w5) (h6 : ROpenPost K.p R d r s e sl st w5 en' w6) (hok : openOk R d r s sl st = true) :
    ∃ M b y, en = .returned (.tuple #[.pointer (some ⟨b, 0, none⟩), .int .i64 0]) ∧ en' = .returned (.tuple #[.pointer (some ⟨y, 0, none⟩), .int .i64 0]) ∧ Two w0 M L K b y R F ⟨d, r, s, e, sl, st⟩ w6 := by
  obtain ⟨hb5, h5⟩ := h5
  obtain ⟨hb6, h6⟩ := h6
  rw [hok, if_pos rfl] at h5 h6
  obtain ⟨b, rfl, hlb, hB⟩ := h5
  obtain ⟨y, rfl, hly, hY⟩ := h6
  have hbl := hB.lt
  have hyl := hY.lt
  have hW6 : Below W.heap.size W w6 := hb5.trans (hb6.mono hb5.size)
  have hs5 := hb5.size
  have hs6 := hb6.size
  have hN : ∀ k, (k = b ∨ k = y) → W.heap.size ≤ k ∧ k < w6.heap.size := by
    rintro k (rfl | rfl) <;> omega
  have hL : ∀ k, L.M R.n k → k < W.heap.size := fun k hk => hb.rk.low k (hb.rk.sub k hk)
  have hK : ∀ k, K.M k → k < W.heap.size := fun k hk => hb.rf.low k (hb.rf.sub k hk)
  have hs0 := hbel.size
  refine ⟨also (fun k => L.M R.n k ∨ K.M k) (fun k => k = b ∨ k = y), b, y, rfl, rfl, ⟨hb.rk.also hW6 hN, hB.next hb6, .inr (.inl rfl), fun x => ?_, fun k hk => ?_, hbel.trans (hW6.mono hs0)⟩, hb.rf.also hW6 hN, hY, .inr (.inr rfl), fun x => ?_, fun x => ?_, fun x => ?_, hb.ne, by omega, hr⟩
  · have := hL _ x; omega
  · rcases hk with hk | hk
    · exact hlo k hk
    · have := (hN k hk).1; omega
  · have := hL _ x; omega
  · have := hK _ x; omega
  · have := hK _ x; omega

end Go.Proofs.YtoiidhpohghiaaaGreat
