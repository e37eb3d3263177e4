/-
  Layer 6: Get, as the program has it.
-/
import Derived.Test.YtegfcmnbljdcpaaGreatDoorVeB
namespace Go.Proofs.YtegfcmnbljdcpaaGreatDoor
open Go.RowKit Go.ChangeShapes Go.WideShapes
namespace Val

theorem get_nil {l : List Cel} {key : ByteArray} (h : getE l key ≠ 0) : getB l key = [] := by
  unfold getE at h
  unfold getB
  by_cases hk : keyE l = 0
  · rw [if_pos hk] at h
    cases hg : getM key (keyB l) (itmB l) with
    | none => rfl
    | some y => rw [hg] at h; exact absurd rfl h
  · rw [keyE_no hk]
    cases itmB l <;> rfl
theorem path_one (l : List Cel) (key : ByteArray) : pathB l [key] = getB l key ∧ pathE l [key] = getE l key := by
  unfold pathB pathE
  by_cases h0 : chk l = 0
  · rw [if_pos h0, if_pos h0, pathR]
    by_cases hg : getE l key = 0
    · rw [if_pos hg]
      exact ⟨rfl, hg.symm⟩
    · rw [if_neg hg]
      exact ⟨(get_nil hg).symm, rfl⟩
  · have hk : keyE l = chk l := by unfold keyE; rw [if_neg h0]
    have he : getE l key = chk l := by unfold getE; rw [if_neg (by rw [hk]; exact h0), hk]
    rw [if_neg h0, if_neg h0]
    exact ⟨(get_nil (by rw [he]; exact h0)).symm, he.symm⟩
theorem vget_any (l : List Cel) (key : ByteArray) (o : Option Addr) (n c : Nat) (hn : n ≤ 1000000) (hc : n ≤ c) (hsh : Shrt l) (w : World) (hA : CArg w o n l) :
    Calls Tryz.prog 11 #[.slice o n c, .string key] w fun e w' => CRes w' e (getB l key) (getE l key) ∧ Bel w w' := by
  have B1 := Lib.hid (Bel.alloc (Bel.refl w) (.cells #[.string key] 9))
  have HS : SlArg (w.alloc (.cells #[.string key] 9)) (some ⟨w.heap.size, 0, none⟩) 1 [key] := ⟨rfl, fun i hi => ⟨_, rfl, by
    obtain rfl : i = 0 := by simp at hi; omega
    exact World.cell?_alloc_new ..⟩⟩
  have HP := Lib.hid (vpath_any l [key] o n c hn hc hsh (some ⟨w.heap.size, 0, none⟩) 1 1 (by decide) _ (hA.on B1.out) HS)
  rw [(path_one l key).1, (path_one l key).2] at HP
  clear HS hA
  go_enter Tryz.func11, Tryz.ntmps11
  go_wp2_with fail
  refine HP.out.mono ?_
  rintro e w1 ⟨⟨o1, n1, c1, rfl, h1, h2⟩, g⟩
  have H1 := Lib.hid h1
  have G := Lib.hid (Bel.trans B1.out g)
  clear h1 g
  go_wp2_with fail
  go_ret2
  exact ⟨⟨o1, n1, c1, rfl, H1.out, h2⟩, G.out⟩
end Val
end Go.Proofs.YtegfcmnbljdcpaaGreatDoor
