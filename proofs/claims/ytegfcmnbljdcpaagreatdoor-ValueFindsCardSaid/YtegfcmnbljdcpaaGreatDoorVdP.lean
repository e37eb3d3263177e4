/-
  Layer 6: the reference's Decode; the law ValueDecodes.
-/
import Derived.Test.YtegfcmnbljdcpaaGreatDoorVdO
import Derived.Test.YtegfcmnbljdcpaaGreatDoorMK
namespace Go.Proofs.YtegfcmnbljdcpaaGreatDoor
open Go.RowKit Go.ChangeShapes Go.WideShapes
namespace Val

theorem gV_valR {s : Txt} : valG intR s = (match gV (rdG intR s.length) s with | some (_, []) => (rdG intR s.length s).map (·.1) | _ => none) := by
  unfold valG gV
  cases h : rdG intR s.length s with
  | none => rfl
  | some x =>
    obtain ⟨v, r⟩ := x
    cases r <;> rfl
theorem decR_a {s : Txt} (h : ¬ 4000 < s.length) (hg : gV (rdG intR s.length) s = none) : decT s = ([], 1) :=
  dec_none snd_intR ful_intR h (by rw [gV_valR, hg])
theorem decR_b {s : Txt} (h : ¬ 4000 < s.length) {cs : List Cel} {d : UInt8} {r : Txt} (hg : gV (rdG intR s.length) s = some (cs, d :: r)) : decT s = ([], 1) :=
  dec_none snd_intR ful_intR h (by rw [gV_valR, hg])
theorem decR_c {s : Txt} (h : ¬ 4000 < s.length) {cs : List Cel} (hg : gV (rdG intR s.length) s = some (cs, [])) : decT s = (chkd cs, chk cs) := by
  have hv : ∃ v, valG intR s = some v ∧ cs = flat v := by
    unfold gV at hg
    cases hr : rdG intR s.length s with
    | none => rw [hr] at hg; cases hg
    | some x =>
      obtain ⟨v, r⟩ := x
      rw [hr] at hg
      simp only [Option.map_some, Option.some.injEq, Prod.mk.injEq] at hg
      obtain ⟨h1, h2⟩ := hg
      subst h2
      exact ⟨v, by unfold valG; rw [hr], h1.symm⟩
  obtain ⟨v, hv, rfl⟩ := hv
  rw [dec_some snd_intR ful_intR keeps_clamp h hv, ckT_eq]
theorem decT_len (s : Txt) : (decT s).1.length ≤ 4000 := by
  by_cases h : 4000 < s.length
  · rw [dec_long h]; exact Nat.zero_le _
  · cases hg : gV (rdG intR s.length) s with
    | none => rw [decR_a h hg]; exact Nat.zero_le _
    | some x =>
      obtain ⟨cs, r⟩ := x
      have h1 := (gV_shp _ hg).2.1
      cases r with
      | cons d r => rw [decR_b h hg]; exact Nat.zero_le _
      | nil =>
        rw [decR_c h hg]
        simp only [List.length_nil] at h1
        show (chkd cs).length ≤ _
        unfold chkd
        split
        · omega
        · exact Nat.zero_le _
theorem same_me (l : List Cel) : sameB l l = true := decide_eq_true rfl
end Val
end Go.Proofs.YtegfcmnbljdcpaaGreatDoor
