/-
  The program's Join, by contract.
-/
import Derived.Test.YthoblenoijkglaaDoorSp
namespace Go.Proofs.YthoblenoijkglaaDoor
open Go.RowKit
set_option linter.unusedVariables false
set_option linter.unusedSimpArgs false

/-- What Join answers: the path and a number. -/
def JoiV (o : Option (List UInt8)) (e : Ending) : Prop :=
  match o with
  | none => e = .returned (.tuple #[.string ⟨#[]⟩, .int .i64 20])
  | some s => e = .returned (.tuple #[.string (tx s), .int .i64 0])
theorem tx_app (x y : List UInt8) : tx x ++ tx y = tx (x ++ y) := by
  rw [← tx_data (tx x ++ tx y)]
  congr 1
theorem slash_app (x : List UInt8) : (⟨#[47]⟩ : ByteArray) ++ tx x = tx (47 :: x) := tx_app [47] x
theorem map_tx (L : List (List UInt8)) : (L.map tx).map (·.data.toList) = L := by
  rw [List.map_map]
  conv => rhs; rw [← List.map_id L]
  exact List.map_congr_left fun x _ => by simp [data_tx]
theorem sjoin_any (w : World) (a : Option Addr) (n c : Nat) (L : List (List UInt8)) (h : Sts w a n L) (hA : arP L = true) (hc : n ≤ c) (hz : a = none → n = 0) :
    Calls Tryd.prog 24 #[.slice a n c, .string slash] w fun e w' => e = .returned (.string (tx (Lib.join L [47]))) ∧ Below w.heap.size w w' := by
  have hl := h.len
  have h8 := arP_len hA
  rcases h.place with h0 | ⟨b, off, rfl, hlt, hcs⟩
  · have e0 : n = 0 := h0
    subst e0
    obtain rfl : L = [] := List.length_eq_zero_iff.1 hl
    exact (Any.strings_Join_none lays156 Builder_Extra_156 a c slash w).mono fun e w' ⟨he, hw⟩ => ⟨he, hw ▸ Below.refl _ _⟩
  · have := Any.strings_Join lays156 Builder_Extra_156 b off c (L.map tx) slash w (fun j x hj => by
      rw [List.getElem?_map] at hj
      cases hj' : L[j]? with
      | none => rw [hj'] at hj; cases hj
      | some y =>
        rw [hj'] at hj
        cases hj
        have hlt' : j < n := by
          have := (List.getElem?_eq_some_iff.1 hj').1
          omega
        have e2 : tat L j = y := by simp [tat, List.getD, hj']
        have := hcs j hlt'
        rw [e2] at this
        exact this) hlt (by rw [List.length_map]; omega) (by rw [List.length_map]; omega) (by
        rw [map_tx]
        have := joi_len hA
        show (Lib.join L [47]).length ≤ _
        omega)
    rw [List.length_map, hl, map_tx] at this
    exact this
set_option maxHeartbeats 1000000 in
theorem join_any (w : World) (a : Option Addr) (n c : Nat) (L : List (List UInt8)) (h : Sts w a n L) (hc : n ≤ c) (hz : a = none → n = 0) :
    Calls Tryd.prog 14 #[.slice a n c] w fun e w' => JoiV (joi L) e ∧ Below w.heap.size w w' := by
  have har := are_any w a n c L h
  cases hA : arP L with
  | false =>
    have hj := Lib.hid (show joi L = none by unfold joi; rw [hA]; rfl)
    rw [hA] at har
    clear h
    go_enter Tryd.func14, Tryd.ntmps14
    go_wp2_with (fail)
    refine har.mono ?_
    rintro e w' ⟨rfl, hb⟩
    go_wp2_with (fail)
    go_ret2
    exact ⟨by rw [hj.out]; rfl, hb⟩
  | true =>
    have hj := Lib.hid (show joi L = some (47 :: Lib.join L [47]) by unfold joi; rw [hA]; rfl)
    rw [hA] at har
    have H := Lib.hid h
    have HJ := Lib.hid (joi_len hA)
    clear h
    go_enter Tryd.func14, Tryd.ntmps14
    go_wp2_with (fail)
    refine har.mono ?_
    rintro e w' ⟨rfl, hb⟩
    have hsj := sjoin_any w' a n c L (H.out.next hb) hA hc hz
    have HB := Lib.hid hb
    clear hb har
    go_wp2_with (fail)
    refine hsj.mono ?_
    rintro e w2 ⟨rfl, hb2⟩
    have HB2 := Lib.hid (HB.out.trans (hb2.mono HB.out.size))
    have kj : ¬ 9223372036854775807 < 1 + (tx (Lib.join L [47])).size := by rw [tx_size]; have := HJ.out; omega
    have hcl := clone_any (⟨#[47]⟩ ++ tx (Lib.join L [47])) w2 (by rw [slash_app, tx_size]; have := HJ.out; simp; omega)
    clear hb2 hsj
    go_wp2_with (fail)
    refine hcl.mono ?_
    rintro e w3 ⟨rfl, hb3⟩
    have HB3 := Lib.hid (HB2.out.trans (hb3.mono HB2.out.size))
    clear hb3 hcl
    go_wp2_with (fail)
    go_ret2
    refine ⟨?_, HB3.out⟩
    rw [hj.out]
    show _ = _
    rw [← slash_app]
    rfl
end Go.Proofs.YthoblenoijkglaaDoor
