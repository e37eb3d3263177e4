/-
  Layer 6: Keys, as the program has it.
-/
import Derived.Test.YtegfcmnbljdcpaaGreatDoorVdT
namespace Go.Proofs.YtegfcmnbljdcpaaGreatDoor
open Go.RowKit Go.ChangeShapes Go.WideShapes
namespace Val

/-- Whether a value is a map. -/
def isM : V → Bool
  | .map _ => true
  | _ => false
theorem head_kind (t : V) : ∃ h r, flat t = h :: r ∧ ((h.k == 6) = isM t) := by
  cases t with
  | null => exact ⟨_, _, rfl, rfl⟩
  | bool b => exact ⟨_, _, rfl, rfl⟩
  | int n => exact ⟨_, _, rfl, rfl⟩
  | str s => exact ⟨_, _, rfl, rfl⟩
  | list x => exact ⟨_, _, rfl, rfl⟩
  | map x => exact ⟨_, _, rfl, rfl⟩
set_option maxHeartbeats 4000000 in
theorem vkeys_any (l : List Cel) (o : Option Addr) (n c : Nat) (hn : n ≤ 1000000) (hc : n ≤ c) (hsh : Shrt l) (w : World) (hA : CArg w o n l) :
    Calls Tryz.prog 9 #[.slice o n c] w fun e w' => (∃ o2 n2 c2, e = .returned (.tuple #[.slice o2 n2 c2, .int .i64 (keyE l)]) ∧ w'.ownsRow w.heap.size 9 1 (.slice o2 n2 c2) n2 (Go.Proofs.YtegfcmnbljdcpaaGreatDoor.encS (keyB l))) ∧ Bel w w' := by
  have HA := Lib.hid hA
  have HC := Lib.hid (vcheck_any l o n c hn hsh w hA)
  by_cases h0 : chk l = 0
  · obtain ⟨t, hp, ht⟩ := chk_ok h0
    obtain ⟨_, hlf⟩ := par_some.1 hp
    obtain ⟨h, r, hf, hk⟩ := head_kind t
    have hpos := flat_pos t
    rw [← hlf] at hpos
    have hln := hA.1
    obtain ⟨b, q, rfl, hcs⟩ := hA.2.2 (by omega)
    obtain ⟨z1, -, -, -⟩ := hcs 0 hpos
    have hl0 : l[0] = h := by simp only [hlf, hf, List.getElem_cons_zero]
    rw [hl0] at z1
    simp only [Nat.zero_mul, Nat.add_zero] at z1
    have Z1 := Lib.hid z1
    have hn0 : 0 < n := by omega
    obtain ⟨kd, hkd⟩ : ∃ kd, h.k = kd := ⟨_, rfl⟩
    rw [hkd] at Z1 hk
    rw [h0] at HC
    cases t with
    | map x =>
      have hz1 : Hid (keyB l = keysM x) := Lib.hid (by unfold keyB; rw [hp]; exact if_pos ht)
      have hz2 : Hid (keyE l = 0) := Lib.hid (by unfold keyE; rw [if_pos h0, hp])
      have HS := Lib.hid (fun W (g : Bel w W) => split_map x l hlf (some ⟨b, q, none⟩) n c hn hc W (HA.out.on g))
      have hne : (kd != 6) = false := by rw [bne, hk]; rfl
      clear hk hcs z1 hl0 hp ht hlf hf h0 hkd hA hpos
      go_enter Tryz.func9, Tryz.ntmps9
      go_wp2_with fail
      refine HC.out.mono ?_
      rintro e w1 ⟨rfl, g1⟩
      have G1 := Lib.hid g1
      have x1 := g1.cell' Z1.out
      clear g1
      go_wp2_with fail
      refine (HS.out _ G1.out).mono ?_
      rintro e w2 ⟨aN, mN, cN, aV, mV, cV, qs, rfl, hR, hI⟩
      have HR := Lib.hid hR
      clear hR hI
      go_wp2_with fail
      go_ret2
      refine ⟨⟨_, _, _, by rw [hz2.out]; rfl, ?_⟩, Bel.trans G1.out HR.out.2.2.2⟩
      rw [hz1.out]
      exact ⟨HR.out.1.1, HR.out.1.2.imp id (fun ⟨g, cap, cur, h1, h2, h3⟩ => ⟨g, cap, cur, h1, Nat.le_trans G1.out.size h2, h3⟩)⟩
    | _ =>
      have hz1 : Hid (keyB l = []) := Lib.hid (by unfold keyB; rw [hp])
      have hz2 : Hid (keyE l = 7) := Lib.hid (by unfold keyE; rw [if_pos h0, hp])
      have hne : (kd != 6) = true := by rw [bne, hk]; rfl
      clear hk hcs z1 hl0 hp ht hlf hf h0 hkd hA hpos
      go_enter Tryz.func9, Tryz.ntmps9
      go_wp2_with fail
      refine HC.out.mono ?_
      rintro e w1 ⟨rfl, g1⟩
      have G1 := Lib.hid g1
      have x1 := g1.cell' Z1.out
      clear g1
      go_wp2_with fail
      go_ret2
      exact ⟨⟨none, 0, 0, by rw [hz2.out]; rfl, by rw [hz1.out]; exact World.ownsRow_nil _ _ _ _⟩, G1.out⟩
  · obtain ⟨E, hE⟩ : ∃ E, chk l = E := ⟨_, rfl⟩
    have hz1 : Hid (keyB l = []) := Lib.hid (by
      unfold keyB
      cases hp : par l with
      | none => rfl
      | some t =>
        cases t with
        | map x => exact if_neg (fun e => h0 (by unfold chk; rw [hp]; exact e))
        | _ => rfl)
    have hz2 : Hid (keyE l = E) := Lib.hid (by unfold keyE; rw [if_neg h0, hE])
    rw [hE] at HC h0
    have hne : (E != 0) = true := by simpa using h0
    clear hA hE h0
    go_enter Tryz.func9, Tryz.ntmps9
    go_wp2_with fail
    refine HC.out.mono ?_
    rintro e w1 ⟨rfl, g1⟩
    have G1 := Lib.hid g1
    clear g1
    go_wp2_with fail
    go_ret2
    exact ⟨⟨none, 0, 0, by rw [hz2.out]; rfl, by rw [hz1.out]; exact World.ownsRow_nil _ _ _ _⟩, G1.out⟩
end Val
end Go.Proofs.YtegfcmnbljdcpaaGreatDoor
