/-
  caesuraref4.said, whatever the line.
-/
import Derived.Test.YthdmhelgmejicaaGreatDoorPfSdW
namespace Go.Proofs.YthdmhelgmejicaaGreatDoor
open Go.RowKit Go.Shelf
theorem said_any (x : By) (hx : x.length ≤ 4194400) (w : World) : Calls Tryz.prog 30 #[.string (rd x)] w fun e w' => SaidIs x e ∧ w' = w := by
  by_cases h1 : ptOk x = true
  · obtain ⟨r, hr⟩ : ∃ r, r = x.drop (ptLen x) := ⟨_, rfl⟩
    match hab : r with
    | [] => exact said_short x hx w h1 [] hr (by simp)
    | [a] => exact said_short x hx w h1 [a] hr (by simp)
    | a :: b :: r' =>
      by_cases ha : a = 46
      · by_cases hb : b = 46
        · subst ha hb
          by_cases h3 : ptOk r' = true
          · exact said_y x hx w h1 _ hr r' rfl h3
          · exact said_n x hx w h1 _ hr r' rfl (by simpa using h3)
        · exact said_b x hx w h1 _ hr a b r' rfl ha hb
      · exact said_a x hx w h1 _ hr a b r' rfl ha
  · exact said_pre0 x hx w (by simpa using h1)
end Go.Proofs.YthdmhelgmejicaaGreatDoor
