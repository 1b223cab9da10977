/-
  The program's Groups, by contract.
-/
import Derived.Test.YtcpplppccljmiaaGr
namespace Go.Proofs.Ytcpplppccljmiaa
open Go.RowKit Go.Maps
set_option linter.unusedVariables false

/-- The rows that are still to come. -/
def Rows (w : World) (B H0 : Nat) (L : List Inf) (D : DataW Unit) (left : Lit → Bool) : Prop :=
  ∀ f c, grp L f c ≠ [] → left (keyK f c) = true → ∃ g cap, D.atKey (keyK f c) .nil = ptG g (grp L f c).length cap ∧ g < H0 ∧ OwnF w B (.slice (some ⟨g, 0, none⟩) (grp L f c).length cap) (grp L f c).length (grp L f c)
theorem Rows.kept {w w' : World} {B H0 : Nat} {L : List Inf} {D : DataW Unit} {left : Lit → Bool} {row : Option Nat} (h : Rows w B H0 L D left) (hg : w.grownBy w' row) (hr : ∀ g, row = some g → H0 ≤ g) : Rows w' B H0 L D left := by
  intro f c hne hl
  obtain ⟨g, cap, a, b, o⟩ := h f c hne hl
  refine ⟨g, cap, a, b, World.ownsRow.kept o hg (.inr fun e => ?_)⟩
  have := hr g e.symm
  omega
/-- One row has been gone over: it may have turned. -/
theorem Rows.struck {w w' : World} {B H0 n : Nat} {L : List Inf} {D : DataW Unit} {left : Lit → Bool} {f c : Int} {g k : Nat} (h : Rows w B H0 L D left) (hW : AllW L) (hap : ∀ f c f' c' g n k n' k', grp L f c ≠ [] → grp L f' c' ≠ [] → D.atKey (keyK f c) .nil = ptG g n k → D.atKey (keyK f' c') .nil = ptG g n' k' → f = f' ∧ c = c')
    (hne : grp L f c ≠ []) (ha : D.atKey (keyK f c) .nil = ptG g n k) (hg : w.grownBy w' (some g)) : Rows w' B H0 L D (fun z => left z && !z.sameKey (keyK f c)) := by
  intro f' c' hne' hl
  simp only [Bool.and_eq_true, Bool.not_eq_true'] at hl
  obtain ⟨g', cap, a, b, o⟩ := h f' c' hne' hl.1
  refine ⟨g', cap, a, b, World.ownsRow.kept o hg (.inr fun e => ?_)⟩
  have e' : g' = g := by simpa [Value.ownBlock] using e
  subst e'
  obtain ⟨rfl, rfl⟩ := hap f' c' f c _ _ _ _ _ hne' hne a ha
  obtain ⟨w1, w2⟩ := grp_wn hW hne
  have := WideAt.sameKey_self (isKeyK w1 w2)
  rw [this] at hl
  cases hl.2
theorem Rows.less {w : World} {B H0 : Nat} {L : List Inf} {D : DataW Unit} {left : Lit → Bool} {kl : Lit} (h : Rows w B H0 L D left) : Rows w B H0 L D (fun z => left z && !z.sameKey kl) := by
  intro f' c' hne' hl
  simp only [Bool.and_eq_true, Bool.not_eq_true'] at hl
  exact h f' c' hne' hl.1

/-- The groups of the kin that have been gone over. -/
structure Done (L : List Inf) (left : Lit → Bool) (F : List Gc) : Prop where
  nodup : (F.map Gc.gr).Nodup
  mem : ∀ G, G ∈ F.map Gc.gr ↔ ∃ f c, grp L f c ≠ [] ∧ left (keyK f c) = false ∧ IsG L f c G
theorem IsG.ne {L : List Inf} {f c : Int} {G : Gr} (h : IsG L f c G) : grp L f c ≠ [] := by
  obtain ⟨S, a, b, _⟩ := h
  intro e
  rw [e] at a
  exact b a.eq_nil
theorem left_struck {L : List Inf} (hW : AllW L) {left : Lit → Bool} {f c f' c' : Int} (hne : grp L f c ≠ []) (hne' : grp L f' c' ≠ []) (h : ¬ (f' = f ∧ c' = c)) : (left (keyK f' c') && !(keyK f' c').sameKey (keyK f c)) = left (keyK f' c') := by
  obtain ⟨w1, w2⟩ := grp_wn hW hne
  obtain ⟨w3, w4⟩ := grp_wn hW hne'
  rw [sameKey_ne (fun e => h (keyK_inj w3 w4 w1 w2 e))]
  simp
theorem left_self {L : List Inf} (hW : AllW L) {left : Lit → Bool} {f c : Int} (hne : grp L f c ≠ []) : (left (keyK f c) && !(keyK f c).sameKey (keyK f c)) = false := by
  obtain ⟨w1, w2⟩ := grp_wn hW hne
  rw [WideAt.sameKey_self (isKeyK w1 w2)]
  simp
theorem Done.no {L : List Inf} {left : Lit → Bool} {F : List Gc} {f c : Int} (h : Done L left F) (hW : AllW L) (hne : grp L f c ≠ []) (hl : left (keyK f c) = true) (hno : ∀ G, ¬ IsG L f c G) : Done L (fun z => left z && !z.sameKey (keyK f c)) F := by
  refine ⟨h.nodup, fun G => ?_⟩
  rw [h.mem G]
  constructor
  · rintro ⟨f', c', a, b, d⟩
    refine ⟨f', c', a, ?_, d⟩
    show (left (keyK f' c') && _) = false
    rw [b]; rfl
  · rintro ⟨f', c', a, b, d⟩
    by_cases e : f' = f ∧ c' = c
    · obtain ⟨rfl, rfl⟩ := e
      exact absurd d (hno G)
    · refine ⟨f', c', a, ?_, d⟩
      have b' : (left (keyK f' c') && !(keyK f' c').sameKey (keyK f c)) = false := b
      rw [left_struck hW hne a e] at b'
      exact b'
theorem Done.yes {L : List Inf} {left : Lit → Bool} {F : List Gc} {f c : Int} {z : Gc} (h : Done L left F) (hW : AllW L) (hne : grp L f c ≠ []) (hl : left (keyK f c) = true) (hz : IsG L f c z.gr) : Done L (fun z => left z && !z.sameKey (keyK f c)) (F ++ [z]) := by
  constructor
  · rw [List.map_append, List.nodup_append]
    refine ⟨h.nodup, by simp, fun a ha b hb e => ?_⟩
    simp only [List.map_cons, List.map_nil, List.mem_singleton] at hb
    rw [h.mem a] at ha
    obtain ⟨f', c', a1, a2, a3⟩ := ha
    subst e hb
    obtain ⟨p1, p2⟩ := hz.seq
    obtain ⟨q1, q2⟩ := a3.seq
    obtain rfl : f' = f := by rw [← p1, ← q1]
    obtain rfl : c' = c := by rw [← p2, ← q2]
    rw [hl] at a2
    cases a2
  · intro G
    rw [List.map_append, List.mem_append, h.mem G]
    simp only [List.map_cons, List.map_nil, List.mem_singleton]
    constructor
    · rintro (⟨f', c', a, b, d⟩ | rfl)
      · refine ⟨f', c', a, ?_, d⟩
        show (left (keyK f' c') && _) = false
        rw [b]; rfl
      · exact ⟨f, c, hne, left_self hW hne, hz⟩
    · rintro ⟨f', c', a, b, d⟩
      by_cases e : f' = f ∧ c' = c
      · obtain ⟨rfl, rfl⟩ := e
        exact .inr (d.uniq hz)
      · refine .inl ⟨f', c', a, ?_, d⟩
        have b' : (left (keyK f' c') && !(keyK f' c').sameKey (keyK f c)) = false := b
        rw [left_struck hW hne a e] at b'
        exact b'

/-- The step of a range over the rows. -/
theorem wpList_next_rows {w : World} {ops : Array Oper} {rest : List Oper} {o : Oper} {a : Act} {Q : Exit → Act → World → Prop} (hg : o.guard = none) (it : Operand) (hop : o.op = Op.next it false)
    (w0 : World) (B mb r n m : Nat) (L : List Inf) (D : DataW Unit) (hgm : GmD w0 B mb m L D) (hW : AllW L) (left : Lit → Bool) (cnt : Nat) (hit : a.eval it = .pointer (some ⟨r, 0, none⟩)) (h : w.ranges Try.prog 59 elemG mb r n D left cnt)
    (hDone : cnt = 0 → (∀ kl, left kl = false) → wpList Try.prog ops Q rest (a.put o.dst (.tuple #[.bool false])) w)
    (hMore : ∀ (f c : Int) (g cap : Nat) (w' : World) (cnt' : Nat), grp L f c ≠ [] → D.atKey (keyK f c) .nil = ptG g (grp L f c).length cap → left (keyK f c) = true → w'.ranges Try.prog 59 elemG mb r n D (fun z => left z && !z.sameKey (keyK f c)) cnt' → cnt' < cnt → w.grownBy w' (some r) → w'.heap.size = w.heap.size →
      (Instr.entry (.pointer (some ⟨r, 0, none⟩))).run Try.prog w' = .ok (.tuple #[.agg #[.int .i64 f, .int .i64 c], .slice (some ⟨g, 0, none⟩) (grp L f c).length cap]) w' →
      wpList Try.prog ops Q rest (a.put o.dst (.tuple #[.bool true, .agg #[.int .i64 f, .int .i64 c], .slice (some ⟨g, 0, none⟩) (grp L f c).length cap])) w') :
    wpList Try.prog ops Q (o :: rest) a w :=
  wpList_next_ranges w hg it hop 59 lawG elemG id id (fun key _ _ => ⟨key, rfl⟩) (fun v _ _ => ⟨v, rfl⟩) mb r n D left cnt hit h hDone (fun x v kl y w' cnt' hkey hlk hv hat hrg hlt hgr hsz hen => by
    obtain ⟨f, c, rfl, hne⟩ := hgm.keys kl (has_true_of_atKey hat)
    obtain ⟨w1, w2⟩ := grp_wn hW hne
    obtain rfl : x = .agg #[.int .i64 f, .int .i64 c] := lawG.inj hkey (keyK_of w1 w2)
    obtain ⟨g, cap, ha, _⟩ := hgm.rows f c hne
    obtain ⟨y1, y2⟩ := y
    have := hat .nil
    rw [ha] at this
    simp only at this
    rw [← this] at hv
    obtain rfl := elemG_pt hv
    exact hMore f c g cap w' cnt' hne ha hlk hrg hlt hgr hsz hen)
end Go.Proofs.Ytcpplppccljmiaa
