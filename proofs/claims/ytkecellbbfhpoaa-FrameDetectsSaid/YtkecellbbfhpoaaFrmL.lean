/-
  Layer 4: the law Torn, out of what the functions of the layer say.
-/
import Derived.Test.YtkecellbbfhpoaaFrmK
namespace Go.Proofs.Ytkecellbbfhpoaa
open Go.RowKit Go.ChangeShapes Go.WideShapes
theorem SlArg.take {w : World} {o : Option Addr} {n : Nat} {xs : List ByteArray} (h : SlArg w o n xs) (k : Nat) (hk : k ≤ n) : SlArg w o k (xs.take k) :=
  ⟨by rw [List.length_take, h.1]; omega, fun i hi => by
    have hi' : i < xs.length := by rw [List.length_take] at hi; omega
    obtain ⟨a, e, hc⟩ := h.2 i hi'
    exact ⟨a, e, by rw [hc, List.getElem_take]⟩⟩
theorem size_strs (w : World) : (sizeOf (Try.prog.elem 22)).run Try.prog w = .ok 1 w := by kernel_rfl
theorem elem_strs : Try.prog.underlying 22 = some (.slice (Try.prog.elem 22)) := by kernel_rfl
/-- l[:k]. -/
theorem cut_to (o : Option Addr) (n c k : Nat) (h : k ≤ c) (W : World) : (Instr.slice 22 (.slice o n c) none (some (.int .i64 (k : Int))) none).run Try.prog W = .ok (.slice o k c) W := by
  rw [run_slice_h W 22 _ n c elem_strs .i64 (k : Int) (by omega) (by omega), size_strs]
  cases o <;> simp [Result.andThen, sliced, Addr.add_zero']
namespace Frm
open Hsh

theorem joi_small {xs : List ByteArray} {n : Nat} (hlen : xs.length = n) (h : tot n xs ≤ 20000) : OkJ (lists xs) ∧ ∀ b ∈ lists xs, b.length ≤ 262136 := by
  have h1 := tot_le xs n h
  have e : ∀ l : List ByteArray, (frms (lists l)).length = 8 * l.length + (l.map ByteArray.size).sum := by
    intro l
    induction l with
    | nil => rfl
    | cons x r ih =>
      have : lists (x :: r) = x.toList :: lists r := rfl
      rw [this, frms_cons, List.length_append, frm_len, ih, toL_len]
      simp only [List.length_cons, List.map_cons, List.sum_cons]
      omega
  refine ⟨by unfold OkJ; rw [e, hlen]; omega, fun b hb => ?_⟩
  obtain ⟨x, hx, rfl⟩ := List.mem_map.1 hb
  have := sum_mem hx
  rw [toL_len]
  omega
/-- Where the walk of whole frames stands. -/
def At (xs : List ByteArray) (cut k p : Nat) : Prop := torn (lists xs) cut = (k + (torn (lists (xs.drop k)) (cut - p)).1, p + (torn (lists (xs.drop k)) (cut - p)).2)
theorem At.zero (xs : List ByteArray) (cut : Nat) : At xs cut 0 0 := by simp [At]
theorem At.step {xs : List ByteArray} {cut k p : Nat} (h : At xs cut k p) (hk : k < xs.length) (hc : p + 8 + xs[k].size ≤ cut) : At xs cut (k + 1) (p + 8 + xs[k].size) := by
  unfold At at h ⊢
  rw [h, List.drop_eq_getElem_cons hk]
  have e : lists (xs[k] :: xs.drop (k + 1)) = xs[k].toList :: lists (xs.drop (k + 1)) := rfl
  rw [e, torn_cons, toL_len, if_pos (by omega), show cut - p - (8 + xs[k].size) = cut - (p + 8 + xs[k].size) by omega]
  simp only [Prod.mk.injEq]
  omega
theorem At.stop {xs : List ByteArray} {cut k p : Nat} (h : At xs cut k p) (hk : k < xs.length) (hc : cut < p + 8 + xs[k].size) (hp : p ≤ cut) : torn (lists xs) cut = (k, p) := by
  unfold At at h
  rw [h, List.drop_eq_getElem_cons hk]
  have e : lists (xs[k] :: xs.drop (k + 1)) = xs[k].toList :: lists (xs.drop (k + 1)) := rfl
  rw [e, torn_cons, toL_len, if_neg (by omega)]
  rfl
theorem At.all {xs : List ByteArray} {cut k p : Nat} (h : At xs cut k p) (hk : xs.length = k) : torn (lists xs) cut = (k, p) := by
  unfold At at h
  rw [h, List.drop_of_length_le (by omega)]
  rfl
set_option maxHeartbeats 8000000 in
set_option maxRecDepth 100000 in
theorem law_torn (hF : Says) (o : Option Addr) (n c : Nat) (xs : List ByteArray) (cut : Int) (hn : n ≤ 4611686018427387904) (hnc : n ≤ c) (hx : ∀ x ∈ xs, x.size ≤ 140737488355328) (w : World) (hL : Lad w) (hA : SlArg w o n xs) :
    Calls Try.prog 7 #[.slice o n c, .int .i64 cut] w fun e w' => e = .returned (.bool true) ∧ Bel w w' := by
  have ht := Lib.hid (total_any o n c xs hn hx w hA)
  have HA := Lib.hid hA
  have HX := Lib.hid hx
  have HL := Lib.hid hL
  have HF := Lib.hid hF
  have hlen := hA.1
  have hsmall := Lib.hid (fun h => joi_small (xs := xs) (n := n) hlen h)
  clear hA hx hL hF
  generalize tot n xs = T at *
  go_enter Try.func7, Try.ntmps7
  go_wp2_with fail
  refine ht.out.mono ?_
  rintro e w1 ⟨rfl, g1⟩
  have G1 := Lib.hid g1
  clear g1 ht
  by_cases hT : 20000 < T
  · clear hsmall
    go_wp2_with fail
    refine (HF.out.awake w1 (HL.out.on G1.out)).mono ?_
    rintro e w2 ⟨rfl, g2⟩
    have G2 := Bel.trans G1.out g2
    go_wp2_with fail
    go_ret
    exact ⟨rfl, G2⟩
  · obtain ⟨hJ, hbs0⟩ := hsmall.out (by omega)
    have hbs := Lib.hid hbs0
    have q1 := Lib.hid (HF.out.join o n c xs w1 hn HX.out (HL.out.on G1.out) (HA.out.on G1.out))
    rw [(joi_ok hJ).1, (joi_ok hJ).2] at q1
    obtain ⟨P, hP⟩ : ∃ P : ByteArray, ⟨(frms (lists xs)).toArray⟩ = P := ⟨_, rfl⟩
    have hPl0 : P.toList = frms (lists xs) := by rw [← hP, tl']
    have hPs : P.size ≤ 262144 := by rw [← toL_len, hPl0]; exact hJ
    have hPl := Lib.hid hPl0
    rw [hP] at q1
    clear hP hJ hsmall hbs0 hPl0
    go_wp2_with fail
    refine q1.out.mono ?_
    rintro e w2 ⟨rfl, g2⟩
    have G2 := Lib.hid (Bel.trans G1.out g2)
    clear g2 q1 G1
    by_cases hc0 : cut < 0
    · go_wp2_with fail
      refine (HF.out.awake w2 (HL.out.on G2.out)).mono ?_
      rintro e w3 ⟨rfl, g3⟩
      have G3 := Bel.trans G2.out g3
      go_wp2_with fail
      go_ret
      exact ⟨rfl, G3⟩
    · by_cases hc1 : (P.size : Int) < cut
      · go_wp2_with fail
        refine (HF.out.awake w2 (HL.out.on G2.out)).mono ?_
        rintro e w3 ⟨rfl, g3⟩
        have G3 := Bel.trans G2.out g3
        go_wp2_with fail
        go_ret
        exact ⟨rfl, G3⟩
      · obtain ⟨j, rfl⟩ : ∃ j : Nat, cut = (j : Int) := ⟨cut.toNat, by omega⟩
        have hjP : j ≤ P.size := by omega
        go_wp2_with fail
        go_loopw [7, 8, 40] (fun v a i wr => ∃ (k p : Nat), v = .int .i64 (k : Int) ∧ a = .int .i64 (p : Int) ∧ i = .int .i64 (k : Int) ∧ k ≤ n ∧ p ≤ j ∧ Hid (At xs j k p) ∧ Hid (Bel w wr)) (fun _ _ i _ => n - (intOf i).toNat)
        case atStart => exact ⟨0, 0, rfl, rfl, rfl, Nat.zero_le _, Nat.zero_le _, Lib.hid (At.zero _ _), G2⟩
        case round =>
          obtain ⟨k, p, rfl, rfl, rfl, hk, hp, hat, hb⟩ := hrel
          rename World => W0
          clear G2
          by_cases hlt : k < n
          · have hkx : k < xs.length := by omega
            have hxs := HX.out xs[k] (List.getElem_mem hkx)
            have hst := Lib.hid (fun h => hat.out.step hkx h)
            have hso := Lib.hid (fun h => hat.out.stop hkx h hp)
            obtain ⟨a, rfl, hc⟩ := (HA.out.on hb.out).2 k hkx
            obtain ⟨x, hxe⟩ : ∃ x, xs[k] = x := ⟨_, rfl⟩
            rw [hxe] at hc hst hso hxs
            have a1 : IntKind.i64.wrap ((p : Int) + 8) = (p : Int) + 8 := by rw [IntKind.wrap_i64]; omega
            have a2 : IntKind.i64.wrap ((p : Int) + 8 + (x.size : Int)) = (p : Int) + 8 + (x.size : Int) := by rw [IntKind.wrap_i64]; omega
            by_cases hfit : p + 8 + x.size ≤ j
            · have hat' := Lib.hid (hst.out hfit)
              clear hst hso hat hxe
              go_wp2_with fail
              go_round
              case rel => exact ⟨k + 1, p + 8 + x.size, by go_num, by go_num, by go_num, by omega, hfit, hat', hb⟩
              case measure => simp [intOf]; omega
            · have hfin := hso.out (by omega)
              clear hst hso hat hxe
              have hfit' : ((p : Int) + 8 + (x.size : Int) ≤ (j : Int)) = False := eq_false (by omega)
              have sl := fun W => cutB P j (j : Int) rfl hjP W
              obtain ⟨V, hV⟩ : ∃ V : ByteArray, ⟨(P.toList.take j).toArray⟩ = V := ⟨_, rfl⟩
              have hVl : V.toList = P.toList.take j := by rw [← hV, tl']
              have hsp : Hid (split V.toList = (lists (xs.take k), p)) := Lib.hid (by rw [hVl, hPl.out, split_torn _ _ hbs.out, hfin]; simp [lists, List.map_take])
              have r1 := Lib.hid (HF.out.split V W0 (by rw [← toL_len, hVl, List.length_take]; omega) (HL.out.on hb.out))
              rw [hsp.out] at r1
              rw [hV] at sl
              have st := cut_to (some a) n c k (by omega)
              have GB := hb
              clear hV hVl hsp hfin hb
              go_wp2_with fail
              refine r1.out.mono ?_
              rintro e W2 ⟨⟨o3, k3, c3, D3, h3, e3, rfl⟩, g3⟩
              have GW2 := Lib.hid (Bel.trans GB.out g3)
              have hDD : D3 = xs.take k := lists_inj e3
              subst hDD
              have hk3 : k3 ≤ n := by have := h3.1; rw [List.length_take] at this; omega
              have hsm := Lib.hid (same_any o3 (some a) k3 k c3 c _ _ W2 h3 ((HA.out.on GW2.out).take k hk) (by unfold maxLen; omega) (by unfold maxLen; omega))
              clear g3 r1 h3 e3 sl
              go_wp2_with fail
              refine hsm.out.mono ?_
              rintro e W3 ⟨⟨b, hb, rfl⟩, g3⟩
              obtain rfl : b = true := hb.2 (by trivial)
              have GW3 := Lib.hid (Bel.trans GW2.out g3)
              clear hb hsm g3 st
              go_wp2_with fail
              refine (HF.out.awake W3 (HL.out.on GW3.out)).mono ?_
              rintro e W4 ⟨rfl, g4⟩
              have GW4 := Bel.trans GW3.out g4
              go_wp2_with fail
              go_ret
              exact ⟨rfl, GW4⟩
          · obtain rfl : k = n := by omega
            have hfin := hat.out.all hlen
            clear hat
            have sl := fun W => cutB P j (j : Int) rfl hjP W
            obtain ⟨V, hV⟩ : ∃ V : ByteArray, ⟨(P.toList.take j).toArray⟩ = V := ⟨_, rfl⟩
            have hVl : V.toList = P.toList.take j := by rw [← hV, tl']
            have hsp : Hid (split V.toList = (lists (xs.take k), p)) := Lib.hid (by rw [hVl, hPl.out, split_torn _ _ hbs.out, hfin]; simp [lists, List.map_take])
            have r1 := Lib.hid (HF.out.split V W0 (by rw [← toL_len, hVl, List.length_take]; omega) (HL.out.on hb.out))
            rw [hsp.out] at r1
            rw [hV] at sl
            have st := cut_to o k c k (by omega)
            have GB := hb
            clear hV hVl hsp hfin hb
            go_wp2_with fail
            refine r1.out.mono ?_
            rintro e W2 ⟨⟨o3, k3, c3, D3, h3, e3, rfl⟩, g3⟩
            have GW2 := Lib.hid (Bel.trans GB.out g3)
            have hDD : D3 = xs.take k := lists_inj e3
            subst hDD
            have hk3 : k3 ≤ k := by have := h3.1; rw [List.length_take] at this; omega
            have hsm := Lib.hid (same_any o3 o k3 k c3 c _ _ W2 h3 ((HA.out.on GW2.out).take k hk) (by unfold maxLen; omega) (by unfold maxLen; omega))
            clear g3 r1 h3 e3 sl
            go_wp2_with fail
            refine hsm.out.mono ?_
            rintro e W3 ⟨⟨b, hb, rfl⟩, g3⟩
            obtain rfl : b = true := hb.2 (by trivial)
            have GW3 := Lib.hid (Bel.trans GW2.out g3)
            clear hb hsm g3 st
            go_wp2_with fail
            refine (HF.out.awake W3 (HL.out.on GW3.out)).mono ?_
            rintro e W4 ⟨rfl, g4⟩
            have GW4 := Bel.trans GW3.out g4
            go_wp2_with fail
            go_ret
            exact ⟨rfl, GW4⟩
end Frm
end Go.Proofs.Ytkecellbbfhpoaa
