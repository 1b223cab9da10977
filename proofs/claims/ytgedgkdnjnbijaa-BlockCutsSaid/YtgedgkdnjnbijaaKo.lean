/-
  The landed code keeps what the walks ask of a map.
-/
import Derived.Test.YtgedgkdnjnbijaaKn
import Derived.Test.YtgedgkdnjnbijaaKl
import Derived.Test.YtgedgkdnjnbijaaKc
import Derived.Test.YtgedgkdnjnbijaaKd
import Derived.Test.YtgedgkdnjnbijaaKv
import Derived.Test.YtgedgkdnjnbijaaKt
namespace Go.Proofs.Ytgedgkdnjnbijaa
open Go.RowKit Go.Maps Go.ChangeMaps Go.MapKept
set_option linter.unusedVariables false
set_option linter.unusedSimpArgs false

theorem NumP.sel {w w' : World} {ks : List Int} {e : Ending} (h : NumP w ks e w') : SelPost w ks e w' := by
  obtain ⟨v, rfl, hO, hb⟩ := h
  exact SelPost.own hO hb
theorem pmp_ok : MapOk Pmp where
  td h j hj := by
    obtain ⟨b, c, _, hT, hD⟩ := h
    rcases (hT j).1 hj with e | e
    · exact (hD j).2 (.inr (.inl e))
    · exact (hD j).2 (.inr (.inr e))
  lt h j hj := by
    obtain ⟨b, c, h, hT, hD⟩ := h
    rcases (hD j).1 hj with rfl | rfl | rfl
    · exact h.lt
    · exact h.ma.lt
    · exact h.mx.lt
  turn h ht hN := by
    obtain ⟨b, c, h, hT, hD⟩ := h
    exact ⟨b, c, h.turn ht (hN _ ((hD _).2 (.inl rfl))) (hN _ ((hD _).2 (.inr (.inl rfl)))) (hN _ ((hD _).2 (.inr (.inr rfl)))), hT, hD⟩
  new a n c ks w h _ hn := by
    refine (new_any a n c ks w h (by omega)).mono ?_
    rintro e w' ⟨h1, h2, h3⟩
    refine ⟨fun hy => ?_, h2, h3⟩
    obtain ⟨p, b, c, he, hP, hp, hb, hc⟩ := h1 hy
    refine ⟨p, _, _, he, hP.pmp, fun j hj => ?_⟩
    rcases hj with rfl | rfl | rfl <;> assumption
  put h k a n m x hx hb := by
    obtain ⟨b, c, h, hT, hD⟩ := h
    refine (put_any h k a n m x hx (fun h0 y e => Pmp.off hT (hb h0 y e))).mono ?_
    rintro e w' ⟨he, ht, hP⟩
    exact ⟨he, hP.left hT hD ht⟩
  ad h k := by
    obtain ⟨b, c, h, hT, hD⟩ := h
    exact at_any h k
  bytes h k := by
    obtain ⟨b, c, h, hT, hD⟩ := h
    exact bytes_any h k
  cut h n _ := by
    obtain ⟨b, c, h, hT, hD⟩ := h
    refine (pcut_any h n).mono ?_
    rintro e w' ⟨he, ht, hP⟩
    exact ⟨he, hP.left hT hD ht⟩
  place h k t := by
    obtain ⟨b, c, h, hT, hD⟩ := h
    refine (place_any h k t).mono ?_
    rintro e w' ⟨he, ht, hP⟩
    exact ⟨he, hP.left hT hD ht⟩
  move h f t := by
    obtain ⟨b, c, h, hT, hD⟩ := h
    refine (move_any h f t).mono ?_
    rintro e w' ⟨he, ht, hP⟩
    exact ⟨he, hP.left hT hD ht⟩
  fresh h := by
    obtain ⟨b, c, h, hT, hD⟩ := h
    exact (pfresh_any h rfl).mono fun e w' h => h.sel
  there h := by
    obtain ⟨b, c, h, hT, hD⟩ := h
    exact (pthere_any h rfl).mono fun e w' h => h.sel
  clone h := by
    obtain ⟨b, c, h, hT, hD⟩ := h
    refine (pclone_any h).mono ?_
    rintro e w' ⟨q, d, g, he, hP, h1, h2, h3, hb⟩
    refine ⟨q, _, _, he, hP.pmp, fun j hj => ?_, fun j hj => .inr ?_, hb⟩
    · rcases hj with rfl | rfl <;> assumption
    · rcases hj with rfl | rfl | rfl <;> assumption
end Go.Proofs.Ytgedgkdnjnbijaa
