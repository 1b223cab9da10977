/-
  What the program's map is asked: its calls by contract, as assumptions (proved elsewhere, of the landed code).
  T: the blocks that its calls may turn; D: those that it hangs on (T is of D).
-/
import Derived.Test.YtgedgkdnjnbijaaRn
import Derived.Test.YtgedgkdnjnbijaaRh
namespace Go.Proofs.Ytgedgkdnjnbijaa
open Go.RowKit
set_option linter.unusedVariables false
set_option linter.unusedSimpArgs false

abbrev Pred := World → Nat → (Nat → Prop) → (Nat → Prop) → (Nat → Int) → (Nat → List Int) → Prop
/-- What a call that changes a map leaves. -/
def Left (Pmp : Pred) (w : World) (p : Nat) (T D : Nat → Prop) (A : Nat → Int) (X : Nat → List Int) (w' : World) : Prop :=
  Turn T w w' ∧ ∃ T' D', Pmp w' p T' D' A X ∧ (∀ j, T' j → T j ∨ w.heap.size ≤ j) ∧ (∀ j, D' j → D j ∨ w.heap.size ≤ j)
structure MapOk (Pmp : Pred) : Prop where
  td : ∀ {w p T D A X}, Pmp w p T D A X → ∀ j, T j → D j
  lt : ∀ {w p T D A X}, Pmp w p T D A X → ∀ j, D j → j < w.heap.size
  turn : ∀ {w w' p T D A X N}, Pmp w p T D A X → Turn N w w' → (∀ j, D j → ¬ N j) → Pmp w' p T D A X
  new : ∀ (a : Option Addr) (n c : Nat) (ks : List Int) (w : World), Ins w a n ks → (a = none → n = 0 ∧ c = 0) → n ≤ 2000 →
    Calls Try.prog 10 #[.slice a n c] w fun e w' => (nwO ks = true → ∃ p T D, e = .returned (.tuple #[.pointer (some ⟨p, 0, none⟩), .int .i64 0]) ∧ Pmp w' p T D (num ks) (fun _ => []) ∧ ∀ j, D j → w.heap.size ≤ j) ∧
      (nwO ks = false → e = .returned (.tuple #[.pointer none, .int .i64 28])) ∧ Below w.heap.size w w'
  put : ∀ {w p T D A X}, Pmp w p T D A X → ∀ (k : Int) (a : Option Addr) (n c : Nat) (x : List Int), Pin w a n c x → (0 < n → ∀ y, a = some y → ¬ T y.block) →
    Calls Try.prog 16 #[.pointer (some ⟨p, 0, none⟩), .int .i64 k, .slice a n c] w fun e w' => e = .returned (.int .i64 (if puO k x then 0 else 28)) ∧
      Left Pmp w p T D (if puO k x then upd A k.toNat 0 else A) (if puO k x then upd X k.toNat (bnO x) else X) w'
  ad : ∀ {w p T D A X}, Pmp w p T D A X → ∀ (k : Int), Calls Try.prog 19 #[.pointer (some ⟨p, 0, none⟩), .int .i64 k] w fun e w' => e = .returned (.int .i64 (adO A k)) ∧ Below w.heap.size w w'
  bytes : ∀ {w p T D A X}, Pmp w p T D A X → ∀ (k : Int), Calls Try.prog 17 #[.pointer (some ⟨p, 0, none⟩), .int .i64 k] w (RetT w (byX X k) (byO X k))
  cut : ∀ {w p T D A X}, Pmp w p T D A X → ∀ (n : Int), (Lit.int .i64 n).wf = true → Calls Try.prog 22 #[.pointer (some ⟨p, 0, none⟩), .int .i64 n] w fun e w' => e = .returned (.tuple #[]) ∧
      Left Pmp w p T D (cutF 0 A (ctN n) 828) (cutF [] X (ctN n) 828) w'
  place : ∀ {w p T D A X}, Pmp w p T D A X → ∀ (k t : Int), Calls Try.prog 21 #[.pointer (some ⟨p, 0, none⟩), .int .i64 k, .int .i64 t] w fun e w' => e = .returned (.int .i64 (if plO X k t then 0 else 28)) ∧
      Left Pmp w p T D (if plO X k t then upd A k.toNat t else A) (if plO X k t then upd X k.toNat [] else X) w'
  move : ∀ {w p T D A X}, Pmp w p T D A X → ∀ (f t : Int), Calls Try.prog 24 #[.pointer (some ⟨p, 0, none⟩), .int .i64 f, .int .i64 t] w fun e w' => e = .returned (.int .i64 (if moO f t then mvN A f 828 else 0)) ∧
      Left Pmp w p T D (if moO f t then mvA A f t 828 else A) X w'
  fresh : ∀ {w p T D A X}, Pmp w p T D A X → Calls Try.prog 20 #[.pointer (some ⟨p, 0, none⟩)] w (SelPost w (selL (freP X) 828))
  there : ∀ {w p T D A X}, Pmp w p T D A X → Calls Try.prog 23 #[.pointer (some ⟨p, 0, none⟩)] w (SelPost w (selL (theP A X) 828))
  clone : ∀ {w p T D A X}, Pmp w p T D A X → Calls Try.prog 13 #[.pointer (some ⟨p, 0, none⟩)] w fun e w' => ∃ q T' D', e = .returned (.pointer (some ⟨q, 0, none⟩)) ∧ Pmp w' q T' D' A X ∧
      (∀ j, T' j → w.heap.size ≤ j) ∧ (∀ j, D' j → (D j ∧ ¬ T j) ∨ w.heap.size ≤ j) ∧ Below w.heap.size w w'
theorem MapOk.next {Pmp : Pred} (H : MapOk Pmp) {w w' p T D A X} (h : Pmp w p T D A X) (hb : Below w.heap.size w w') : Pmp w' p T D A X := H.turn (N := fun _ => False) h (Turn.of_below hb) (fun _ _ h => h)
end Go.Proofs.Ytgedgkdnjnbijaa
