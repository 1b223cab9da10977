/-
  A rack and its bank side by side, as a law keeps them: each call's contract.
-/
import Derived.Test.YtciddoeeiamndaaGreatHold
import Derived.Test.YtciddoeeiamndaaGreatOpm
namespace Go.Proofs.YtciddoeeiamndaaGreat
open Go.RowKit Go.Maps
set_option linter.unusedVariables false

structure St (w0 : World) (M : Nat → Prop) (L : Lay) (b : Nat) (R : Rk) (B : Bn) (w : World) : Prop where
  rk : RackAt w M L R
  bk : BnAt w b L.p B
  mb : M b
  nb : ¬ L.M R.n b
  lo : ∀ k, M k → w0.heap.size ≤ k
  bel : Below w0.heap.size w0 w
section
variable {w0 w w' : World} {M : Nat → Prop} {L : Lay} {b n : Nat} {R : Rk} {B : Bn}
theorem St.next (h : St w0 M L b R B w) (hb : Below w.heap.size w w') : St w0 M L b R B w' :=
  ⟨h.rk.below hb, h.bk.next hb, h.mb, h.nb, h.lo, h.bel.trans (hb.mono h.bel.size)⟩
theorem St.drew (h : St w0 M L b R B w) : St w0 M L b R B w.drew := h.next (below_drewN (Below.refl _ _) 1)
theorem St.drewN (h : St w0 M L b R B w) (q : Nat) : St w0 M L b R B (w.drewN q) := h.next (below_drewN (Below.refl _ _) q)
theorem St.turned (h : St w0 M L b R B w) (ht : Turn (L.M R.n) w w') : Below w0.heap.size w0 w' := h.bel.trans (ht.below h.bel.size (fun k hk => h.lo k (h.rk.sub k hk)))
theorem St.call (h : St w0 M L b R B w) {R' : Rk} (hn : R'.n = R.n) (hr : RackAt w' M L R') (ht : Turn (L.M R.n) w w') : St w0 M L b R' B w' :=
  ⟨hr, h.bk.turn ht h.nb, h.mb, by rw [hn]; exact h.nb, h.lo, h.turned ht⟩
/-- What a call leaves: the answer, the state, what has turned. -/
def StPost (w0 : World) (M : Nat → Prop) (L : Lay) (b : Nat) (R' : Rk) (B : Bn) (w : World) (v : Value) (e : Ending) (w' : World) : Prop :=
  e = .returned v ∧ St w0 M L b R' B w' ∧ Turn (L.M R'.n) w w'
theorem St.post (h : St w0 M L b R B w) {R' : Rk} (hn : R'.n = R.n) {v : Value} {e : Ending} (hc : CallPost M L R R' w v e w') : StPost w0 M L b R' B w v e w' :=
  ⟨hc.1, h.call hn hc.2.1 hc.2.2, by rw [hn]; exact hc.2.2⟩

/-- Bytes that are new, and an error. -/
def StRead (w0 : World) (M : Nat → Prop) (L : Lay) (b : Nat) (R : Rk) (B : Bn) (w : World) (zs : List Int) (x : Int) (e : Ending) (w' : World) : Prop :=
  ∃ a c, e = .returned (.tuple #[.slice a zs.length c, .int .i64 x]) ∧ Pin w' a zs.length c zs ∧ (∀ y, a = some y → w.heap.size ≤ y.block) ∧ St w0 M L b R B w' ∧ Below w.heap.size w w'
theorem St.read (h : St w0 M L b R B w) {zs : List Int} {x : Int} {e : Ending} (hp : RetP w zs x e w') : StRead w0 M L b R B w zs x e w' := by
  obtain ⟨v, rfl, hown, hb⟩ := hp
  obtain ⟨a, c, rfl, hpin, hlo⟩ := hown.pin
  exact ⟨a, c, rfl, hpin, fun y hy => (hlo y hy).1, h.next hb, hb⟩
theorem st_bread (i k : Int) (h : St w0 M L b R B w) : Calls Tryz.prog 111 #[.pointer (some ⟨b, 0, none⟩), .int .i64 i, .int .i64 k] w (StRead w0 M L b R B w (brV B R i k) (brE B R i k)) :=
  (bread_any i k h.rk h.bk).mono fun _ _ => h.read
theorem st_rread (i k : Int) (h : St w0 M L b R B w) : Calls Tryz.prog 13 #[.pointer (some ⟨L.p, 0, none⟩), .int .i64 i, .int .i64 k] w (StRead w0 M L b R B w (R.rdV i k) (R.rdE i k)) :=
  (readP_all i k h.rk).mono fun _ _ => h.read
theorem bw_n (B : Bn) (R : Rk) (i k : Int) (zs : List Int) : (bw B R i k zs).n = R.n := by
  unfold bw
  split
  · exact R.wr_n _ _ _
  · rfl
theorem st_bwrite (i k : Int) (a : Option Addr) (m c : Nat) (zs : List Int) (h : St w0 M L b R B w) (hz : Bys w a m zs) (hzM : m = 0 ∨ ∀ b off, a = some ⟨b, off, none⟩ → ¬ M b) :
    Calls Tryz.prog 40 #[.pointer (some ⟨b, 0, none⟩), .int .i64 i, .int .i64 k, .slice a m c] w (StPost w0 M L b (bw B R i k zs) B w (.int .i64 (bwE B R i k zs))) :=
  (bwrite_any i k a m c zs h.rk h.bk h.nb hz hzM).mono fun _ _ => h.post (bw_n B R i k zs)
theorem st_flush (h : St w0 M L b R B w) (hd : B.d = (n : Int)) (hn : n ≤ 16) :
    Calls Tryz.prog 18 #[.pointer (some ⟨b, 0, none⟩)] w (StPost w0 M L b (flG B R B.num).2.2 B w (.int .i64 (flG B R B.num).2.1)) :=
  (flush_bank M L R w b n B h.rk h.bk h.nb hd hn).mono fun _ _ => h.post (flG_n B R _)
theorem St.joined (h : St w0 M L b R B w) {e sl st : Int} (hb : BnAt w' b L.p (B.join e sl st)) (ht : Turn (· = b) w w') : St w0 M L b R (B.join e sl st) w' :=
  ⟨h.rk.keep ht (fun _ x => x ▸ h.mb) (fun _ hk x => h.nb (x ▸ hk)), hb, h.mb, h.nb, h.lo, h.bel.trans (ht.below h.bel.size (fun k x => x ▸ h.lo b h.mb))⟩
theorem st_join (e sl st : Int) (h : St w0 M L b R B w) :
    Calls Tryz.prog 42 #[.pointer (some ⟨b, 0, none⟩), mb e sl st] w fun en w' => en = .returned (.tuple #[]) ∧ St w0 M L b R (B.join e sl st) w' ∧ Turn (· = b) w w' :=
  (join_any e sl st h.bk).mono fun _ _ hh => ⟨hh.1, h.joined hh.2.1 hh.2.2, hh.2.2⟩
theorem st_bad (h : St w0 M L b R B w) (hd : B.d = (n : Int)) (hn : n ≤ 16) :
    Calls Tryz.prog 63 #[.pointer (some ⟨b, 0, none⟩)] w fun en w' => ∃ a c, en = .returned (.slice a (badL B R n).length c) ∧ Ins w' a (badL B R n).length (badL B R n) ∧ (a = none → (badL B R n).length = 0) ∧ St w0 M L b R B w' ∧ Below w.heap.size w w' :=
  (bad_any M L R w b n B h.rk h.bk hd hn).mono fun _ _ hh => by
    obtain ⟨v, rfl, ho, hb⟩ := hh
    obtain ⟨a, c, rfl, hins, _, _, _⟩ := ho.ins
    refine ⟨a, c, rfl, hins, fun e => ?_, h.next hb, hb⟩
    rcases hins.2 with h0 | ⟨g, off, e2, _⟩
    · exact h0
    · rw [e] at e2; cases e2
theorem st_doom (i m : Int) (h : St w0 M L b R B w) (hm : m ≤ 9223372036854775807) :
    Calls Tryz.prog 23 #[.pointer (some ⟨L.p, 0, none⟩), .int .i64 i, .int .i64 m] w (StPost w0 M L b (R.doom i m) B w (.int .i64 (R.dkE i))) :=
  (doom_all i m h.rk hm).mono fun _ _ => h.post (by unfold Rk.doom; split <;> rfl)
theorem st_restore (a : Option Addr) (m c : Nat) (ks : List Int) (h : St w0 M L b R B w) (hx : Ins w a m ks) (hxm : m = 0 ∨ ∀ b off, a = some ⟨b, off, none⟩ → ¬ M b) (hm : m ≤ 1000000000000) :
    Calls Tryz.prog 20 #[.pointer (some ⟨L.p, 0, none⟩), .slice a m c] w (StPost w0 M L b (R.restore ks) B w (.tuple #[])) :=
  (restore_ok M L R m c a ks w h.rk hx hxm hm).mono fun _ _ => h.post (R' := R.restore ks) rfl

/-- What Open leaves, a member that fits having been told. -/
theorem St.opened {w1 : World} {d r s e sl st : Int} {en : Ending} (hr : RackAt w M L R) (hlo : ∀ k, M k → w0.heap.size ≤ k) (hbel : Below w0.heap.size w0 w) (hop : OpenPost L.p R d r s e sl st w en w1) (hok : openOk R d r s sl st = true) :
    ∃ b, en = .returned (.tuple #[.pointer (some ⟨b, 0, none⟩), .int .i64 0]) ∧ w.heap.size ≤ b ∧ St w0 (also M (· = b)) L b R ⟨d, r, s, e, sl, st⟩ w1 := by
  obtain ⟨hb, h⟩ := hop
  rw [hok, if_pos rfl] at h
  obtain ⟨b, rfl, hlt, hB⟩ := h
  have hbl := hB.lt
  refine ⟨b, rfl, hlt, hr.also hb (fun k x => by subst x; exact ⟨hlt, hbl⟩), hB, .inr rfl, fun x => ?_, fun k x => ?_, hbel.trans (hb.mono hbel.size)⟩
  · have := hr.low b (hr.sub b x); omega
  · rcases x with x | rfl
    · exact hlo k x
    · exact Nat.le_trans hbel.size hlt
end

theorem hasSl_at {d : Int} {m i : Nat} (hd : d = (m : Int)) (hi : i < m) : hasSl d (i : Int) = true := decide_eq_true ⟨by omega, by omega⟩
theorem bw_at {B : Bn} {m i : Nat} (hd : B.d = (m : Int)) (hi : i < m) (R : Rk) (k : Int) (zs : List Int) : bw B R (i : Int) k zs = R.wr (B.dk i : Int) k zs ∧ bwE B R (i : Int) k zs = R.wrE (B.dk i : Int) k zs := by
  unfold bw bwE
  rw [hasSl_at hd hi, if_pos rfl, if_pos rfl, Bn.dk_eq hd]
  exact ⟨rfl, rfl⟩
theorem br_at {B : Bn} {m i : Nat} (hd : B.d = (m : Int)) (hi : i < m) (R : Rk) (k : Int) : brV B R (i : Int) k = R.rdV (B.dk i : Int) k ∧ brE B R (i : Int) k = R.rdE (B.dk i : Int) k := by
  unfold brV brE
  rw [hasSl_at hd hi, if_pos rfl, if_pos rfl, Bn.dk_eq hd]
  exact ⟨rfl, rfl⟩
theorem Pin.cell0 {w : World} {a : Option Addr} {n c : Nat} {zs : List Int} (h : Pin w a n c zs) (hn : 0 < n) : ∃ b off, a = some ⟨b, off, none⟩ ∧ b < w.heap.size ∧ w.cell? ⟨b, off, none⟩ = some (.int .u8 (byt zs 0)) := by
  obtain ⟨b, off, e, hlt, hc⟩ := h.at hn
  exact ⟨b, off, e, hlt, hc 0 hn⟩
theorem rt_small : Rt 3 3 12 := ⟨⟨by omega, by omega, by omega, by omega, by omega, by omega⟩, by decide⟩
theorem sect_small : sect 3 3 12 = 41 := by
  unfold sect
  rw [if_pos rt_small]
  omega
theorem openOk_small {R : Rk} (hn : R.n = 4) (hS : R.S = 41) (sl st : Int) : openOk R 3 3 12 sl st = memOk 3 sl st := by
  unfold openOk rackOk
  rw [decide_eq_true rt_small, sect_small, hn, hS]
  simp

end Go.Proofs.YtciddoeeiamndaaGreat
