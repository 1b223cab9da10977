/-
  The law GeoSpots: the program's answers are the document's.
-/
import Derived.Test.YtodjeglcdjodfaaWGeo6
namespace Go.Proofs.Ytodjeglcdjodfaa
open Go.RowKit

theorem both_block (d r s g k : Int) : ∃ x y b, Ans 20 #[gv d r s, .int .i64 g, .int .i64 k] (sv x y b) ∧ Ans 21 #[gv d r s, .int .i64 g, .int .i64 k] (sv x y b) := by
  by_cases h : Bk d r s g k
  · exact ⟨_, _, _, fun w => block_yes d r s g k w h.toSg h.k0 h.k1, fun w => rblock_yes d r s g k w h.toSg h.k0 h.k1⟩
  · refine ⟨0, 0, false, fun w => block_no d r s g k w h, fun w => ?_⟩
    by_cases hr : Rt d r s
    · by_cases k0 : 0 ≤ k
      · by_cases k1 : k ≤ PL d r
        · exact rblock_off d r s g k w hr (fun q => h ⟨q, k0, k1⟩) k0 k1
        · exact rblock_khigh d r s g k w hr (by omega)
      · exact rblock_klow d r s g k w hr (by omega)
    · exact rblock_out d r s g k w hr
theorem both_parity (d r s g k : Int) : ∃ x y b, Ans 22 #[gv d r s, .int .i64 g, .int .i64 k] (sv x y b) ∧ Ans 23 #[gv d r s, .int .i64 g, .int .i64 k] (sv x y b) := by
  by_cases h : Sg d r s g ∧ 0 ≤ k ∧ k < r
  · exact ⟨_, _, _, fun w => parity_yes d r s g k w h.1 h.2.1 h.2.2, fun w => rparity_yes d r s g k w h.1 h.2.1 h.2.2⟩
  · exact ⟨0, 0, false, fun w => parity_no d r s g k w h, fun w => rparity_no d r s g k w h⟩
theorem both_where (d r s n : Int) : ∃ p q b, Ans 24 #[gv d r s, .int .i64 n] (.tuple #[.int .i64 p, .int .i64 q, .bool b]) ∧ Ans 25 #[gv d r s, .int .i64 n] (.tuple #[.int .i64 p, .int .i64 q, .bool b]) := by
  by_cases h : Ak d r s n
  · exact ⟨_, _, _, fun w => where_ok d r s n w h, fun w => rwhere_yes d r s n w h⟩
  · exact ⟨_, _, _, fun w => where_no d r s n w h, fun w => rwhere_no d r s n w h⟩
theorem both_address (d r s g k : Int) : ∃ a, Ans 26 #[gv d r s, .int .i64 g, .int .i64 k] (.int .i64 a) ∧ Ans 27 #[gv d r s, .int .i64 g, .int .i64 k] (.int .i64 a) := by
  by_cases h : Pk d r s g k
  · exact ⟨_, fun w => address_ok d r s g k w h, fun w => raddress_ok d r s g k w h⟩
  · exact ⟨_, fun w => address_no d r s g k w h, fun w => raddress_no d r s g k w h⟩
theorem law_spots (d r s g k n : Int) (w : World) :
    Calls Try.prog 4 #[gv d r s, .int .i64 g, .int .i64 k, .int .i64 n] w fun e w' => e = .returned (.bool true) ∧ Below w.heap.size w w' := by
  obtain ⟨x, y, b, h1, h2⟩ := both_block d r s g k
  obtain ⟨x', y', b', h3, h4⟩ := both_parity d r s g k
  obtain ⟨p, q, b'', h5, h6⟩ := both_where d r s n
  obtain ⟨a, h7, h8⟩ := both_address d r s g k
  exact spots_any d r s g k n x y b x' y' b' p q b'' a w h1 h2 h3 h4 h5 h6 h7 h8

end Go.Proofs.Ytodjeglcdjodfaa
