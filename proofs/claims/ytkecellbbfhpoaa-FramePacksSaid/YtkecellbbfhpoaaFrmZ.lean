/-
  Layer 4, the code: what its six functions say.
-/
import Derived.Test.YtkecellbbfhpoaaFrmS
namespace Go.Proofs.Ytkecellbbfhpoaa
open Go.RowKit Go.ChangeShapes Go.WideShapes
namespace Frm
open Hsh

theorem says : Says where
  pack := fun o n c xs w hn _ _ hA => pack_any o n c xs (by unfold maxLen; omega) w hA
  unpack := fun s w hs _ => unpack_any s hs w
  seals := fun s w hs _ => by
    by_cases h : s.size ≤ 262136
    · have hz := sea_ok (l := s.toList) (by rw [toL_len]; exact h)
      rw [hz.1, hz.2]
      exact seal_ok s h w
    · have hz := sea_no (l := s.toList) (by rw [toL_len]; omega)
      rw [hz.1, hz.2]
      exact (seal_long s (by omega) hs w).mono fun _ _ ⟨a, b⟩ => ⟨a, b ▸ Bel.refl _⟩
  opens := fun s w hs _ => open_any s hs w
  split := fun s w hs _ => split_any s hs w
  join := fun o n c xs w hn hx _ hA => join_any o n c xs (by unfold maxLen; omega) hx w hA
end Frm
end Go.Proofs.Ytkecellbbfhpoaa
