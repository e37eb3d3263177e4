/-
  Layer 6, plainly: Decode of Encode, Encode of Decode.
-/
import Derived.Test.YtegfcmnbljdcpaaGreatDoorVdP
namespace Go.Proofs.YtegfcmnbljdcpaaGreatDoor
open Go.RowKit Go.ChangeShapes Go.WideShapes
namespace Val

theorem dec_enc {l : List Cel} (h : chk l = 0) : decT (encT l) = (l, 0) := by
  obtain ⟨t, hp, ht⟩ := chk_ok h
  obtain ⟨_, hlf⟩ := par_some.1 hp
  have he : encT l = text t := by
    unfold encT
    rw [hp]
    exact if_pos ht
  have hlen : ¬ 4000 < (text t).length := by
    intro k
    unfold chkT at ht
    repeat' split at ht
    all_goals first | exact absurd ht (by decide) | omega
  unfold decT
  rw [he, if_neg hlen, val_some.2 rfl]
  show ckT (flat t) = _
  unfold ckT
  rw [← hlf, if_pos h]
theorem enc_dec {s : Txt} (h : (decT s).2 = 0) : encT (decT s).1 = s ∧ chk (decT s).1 = 0 := by
  unfold decT at h ⊢
  by_cases h4 : 4000 < s.length
  · rw [if_pos h4] at h; cases h
  · rw [if_neg h4] at h ⊢
    cases hv : val s with
    | none => rw [hv] at h; cases h
    | some v =>
      rw [hv] at h
      simp only at h ⊢
      unfold ckT at h ⊢
      by_cases hc : chk (flat v) = 0
      · rw [if_pos hc] at h ⊢
        refine ⟨?_, hc⟩
        obtain ⟨t, hp, ht⟩ := chk_ok hc
        obtain ⟨hwt, hlf⟩ := par_some.1 hp
        have hwv : wf v = true := by
          cases hw : wf v with
          | true => rfl
          | false =>
            rw [chk_nwf hw] at hc
            exact absurd hc (by decide)
        obtain ⟨rfl, -⟩ := flat_inj (r := []) (q := []) hwv hwt (by rw [hlf])
        show encT (flat v) = s
        unfold encT
        rw [hp, val_some.1 hv]
        exact if_pos ht
      · rw [if_neg hc] at h
        exact absurd h hc
end Val
end Go.Proofs.YtegfcmnbljdcpaaGreatDoor
