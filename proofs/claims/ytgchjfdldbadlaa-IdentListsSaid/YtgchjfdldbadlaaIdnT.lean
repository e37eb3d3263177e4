/-
  The law IdentLists.
-/
import Derived.Test.YtgchjfdldbadlaaIdnP
namespace Go.Proofs.Ytgchjfdldbadlaa
open Go.RowKit Go.ChangeShapes Go.WideShapes
namespace Idn

theorem append_none (w : World) (g cap : Nat) (c : Nat) : (Builtin.append_ #[36, 36] 36 #[.slice (some ⟨g, 0, none⟩) 0 cap, .slice none 0 c]).run Try.prog w = .ok (.slice (some ⟨g, 0, none⟩) 0 cap) w := by
  obtain ⟨i0, hi, hz0, hz1, hz2⟩ := info_parts info_str
  simp [Builtin.append_, run_underlying Try.underlying36, sizeOf, typeInfo, hi, Builtin.lenOf, Builtin.firstCells, storeCells]
/-- An append whose run is known. -/
theorem wpList_run {P : Program} {w w' : World} {v' v sl : Value} {ops : Array Oper} {rest : List Oper} {o : Oper} {a : Act} {Q : Exit → Act → World → Prop} (hgd : o.guard = none) (s x : Operand) (t : TypeId)
    (ho : o.op = .call { callee := .builtin .append, args := #[s, x], argTypes := #[t, t] }) (hs : a.eval s = v) (hx : a.eval x = sl)
    (hr : (Builtin.append_ #[t, t] o.type #[v, sl]).run P w = .ok v' w') (h : wpList P ops Q rest (a.put o.dst v') w') : wpList P ops Q (o :: rest) a w :=
  wpList_plain hgd fun _ hK => by
    unfold Oper.wp execOp
    simp only [ho, resolve, invoke, builtin, Sem.run_bind, Sem.run_pure, Result.andThen_ok, List.map_toArray, List.map_cons, List.map_nil, hs, hx, hr]
    exact hK _ _ h
/-- A list of one's own. -/
theorem own_made (w : World) (o : Option Addr) (n c : Nat) (xs : List ByteArray) (hn : n ≤ 2000) (hA : SlArg w o n xs) :
    ∃ g cap w1, (Builtin.append_ #[36, 36] 36 #[.slice (some ⟨w.heap.size, 0, none⟩) 0 0, .slice o n c]).run Try.prog (w.alloc (.cells #[] 9)) = .ok (.slice (some ⟨g, 0, none⟩) n cap) w1 ∧
      w1.ownsRow w.heap.size 9 1 (.slice (some ⟨g, 0, none⟩) n cap) n (encS xs) ∧ Bel w w1 := by
  obtain ⟨i0, hi, hz0, hz1, hz2⟩ := info_parts info_str
  have hlen := hA.1
  have own0 : (w.alloc (.cells #[] 9)).ownsRow w.heap.size 9 1 (.slice (some ⟨w.heap.size, 0, none⟩) 0 0) 0 [] := World.ownsRow_made w #[] 0 (Nat.le_refl _) (by decide) rfl
  have b1 : Bel w (w.alloc (.cells #[] 9)) := (Bel.refl w).alloc _
  cases o with
  | none =>
    have h0 : n = 0 := by
      rcases Nat.eq_zero_or_pos n with h | h
      · exact h
      · obtain ⟨a, e, _⟩ := hA.2 0 (by omega)
        cases e
    subst h0
    obtain rfl : xs = [] := List.eq_nil_of_length_eq_zero hlen
    exact ⟨_, _, _, append_none _ _ _ c, own0, b1⟩
  | some p =>
    obtain ⟨v1, w1, r1, o1, g1, hnil⟩ := run_append_own (P := Try.prog) _ w.heap.size 36 36 9 i0 _ 1 16 Try.underlying36 hi hz0 hz1 hz2 rfl (by decide) _ 0 [] own0 p n c (encS xs) (by rw [encS_len]; omega)
      (enc_cells fun i h => by
        obtain ⟨a, e, h1⟩ := (hA.on b1).2 i h
        obtain rfl := Option.some.inj e
        exact h1) str_one (by unfold maxLen; omega) (by omega) b1.size
    rw [List.nil_append, Nat.zero_add] at o1
    obtain ⟨o2, c2, rfl⟩ := own_shape o1
    obtain ⟨g, rfl, _⟩ := own_at o1 (fun h => by subst h; rcases o1.2 with ⟨h1, _⟩ | ⟨_, _, _, h1, _⟩; (cases (hnil.1 h1).1); cases h1)
    exact ⟨g, c2, w1, r1, o1, own_bel own0 b1 g1⟩
theorem out_len {w w' : World} {xs D : List ByteArray} {o : Option Addr} {k c n : Nat} (hx : xs.length = n) (hD : D.map ByteArray.toList = srt (xs.map ByteArray.toList)) (hown : w'.ownsRow w.heap.size 9 1 (.slice o k c) k (encS D)) : k ≤ n := by
  have h1 := hown.1
  rw [encS_len] at h1
  have h2 := congrArg List.length hD
  rw [List.length_map] at h2
  have h3 := srt_len (xs.map ByteArray.toList) n (by simp; omega)
  rw [List.take_of_length_le (by simp; omega)] at h3
  omega
set_option maxRecDepth 100000 in
set_option maxHeartbeats 4000000 in
theorem law_lists (o : Option Addr) (n c : Nat) (xs : List ByteArray) (s : ByteArray) (hn : n ≤ 4611686018427387904) (w : World) (hA : SlArg w o n xs) :
    Calls Try.prog 7 #[.slice o n c, .string s] w fun e w' => e = .returned (.bool true) ∧ Bel w w' := by
  have AW := Lib.hid awake_any
  have hlen := hA.1
  by_cases hbig : 2000 < n
  · go_enter Try.func7, Try.ntmps7
    go_wp2_with fail
    refine (AW.out _).mono ?_
    rintro e w7 ⟨rfl, g7⟩
    go_wp2_with fail
    go_ret
    exact ⟨rfl, g7⟩
  have HA := Lib.hid hA
  obtain ⟨g, cap, w1, r1, hown, b1⟩ := own_made w o n c xs (by omega) hA
  have HO := Lib.hid hown
  have B1 := Lib.hid b1
  have hso := Lib.hid (sorted_any (some ⟨g, 0, none⟩) n cap xs (by omega) w1 (own_sarg hown))
  have R1 := Lib.hid r1
  clear hA hown b1 r1
  go_enter Try.func7, Try.ntmps7
  go_wp2_with (at_builtin; refine wpList_run rfl _ _ _ rfl rfl rfl R1.out ?_; refine Hid.out ?_)
  refine Lib.hid ?_
  clear R1
  go_wp2_with fail
  refine hso.out.mono ?_
  rintro e w2 ⟨⟨v2, rfl, o2, k2, c2, D2, rfl, hD2, hown2⟩, b2⟩
  have hk2 := out_len hlen hD2 hown2
  have HO2 := Lib.hid hown2
  have B2 := Lib.hid b2
  have HD2 := Lib.hid hD2
  have hrs := Lib.hid (rsorted_any o n c xs (by omega) w2 (HA.out.on (Bel.trans B1.out b2)))
  clear hD2 hown2 b2 hso
  go_wp2_with fail
  refine hrs.out.mono ?_
  rintro e w3 ⟨⟨v3, rfl, o3, k3, c3, D3, rfl, hD3, hown3⟩, b3⟩
  have hk3 := out_len hlen hD3 hown3
  have hDD : D2 = D3 := texts_inj (HD2.out.trans hD3.symm)
  have hsa := Lib.hid (same_any o2 o3 k2 k3 c2 c3 D2 D3 w3 ((own_sarg HO2.out).on b3) (own_sarg hown3) (by unfold maxLen; omega) (by unfold maxLen; omega))
  have HDD := Lib.hid hDD
  have B3 := Lib.hid b3
  clear hD3 hown3 b3 hrs hDD
  go_wp2_with fail
  refine hsa.out.mono ?_
  rintro e w4 ⟨⟨bb, hbb, rfl⟩, b4⟩
  obtain rfl : bb = true := hbb.2 HDD.out
  have hsb := Lib.hid (same_any (some ⟨g, 0, none⟩) o n n cap c xs xs w4 ((own_sarg HO.out).on (Bel.trans B2.out (Bel.trans B3.out b4))) (HA.out.on (Bel.trans B1.out (Bel.trans B2.out (Bel.trans B3.out b4)))) (by unfold maxLen; omega) (by unfold maxLen; omega))
  have B4 := Lib.hid b4
  clear b4 hsa hbb
  go_wp2_with fail
  refine hsb.out.mono ?_
  rintro e w5 ⟨⟨bb, hbb, rfl⟩, b5⟩
  obtain rfl : bb = true := hbb.2 trivial
  have B5 := Lib.hid (Bel.trans B2.out (Bel.trans B3.out (Bel.trans B4.out b5)))
  have HO5 : Hid (∃ ys, w5.ownsRow w1.heap.size 9 1 (.slice o2 k2 c2) k2 ys) := Lib.hid ⟨_, own_on (own_on (own_on HO2.out B3.out) B4.out) b5⟩
  clear b5 hsb hbb HO2 HD2 HDD B3 B4
  go_wp2_with fail
  go_loopw [7] (fun v wr => ∃ k : Nat, v = .int .i64 (k : Int) ∧ k ≤ k2 ∧ Hid (Bel w1 wr) ∧ Hid (∃ ys, wr.ownsRow w1.heap.size 9 1 (.slice o2 k2 c2) k2 ys)) (fun v _ => k2 - (intOf v).toNat)
  case atStart => exact ⟨0, rfl, Nat.zero_le _, B5, HO5⟩
  case round =>
    obtain ⟨k, rfl, hk, hb, hown⟩ := hrel
    rename World => W0
    clear B5 HO5
    by_cases hlt : k < k2
    · obtain ⟨ys, hys⟩ := hown.out
      have hone : o2 ≠ none := fun h => by
        subst h
        rcases hys.2 with ⟨h1, _⟩ | ⟨_, _, _, h1, _⟩
        · cases h1; omega
        · cases h1
      obtain ⟨g2, rfl, hkc⟩ := own_at hys hone
      have hyl : ys.length = k2 := by have := hys.1; omega
      have hc := hys.cellAt k (by omega)
      rw [List.getElem?_eq_getElem (by omega)] at hc
      have hf := hys.frozenAt k
      have hst := (hys.stored k (.string ⟨#[63]⟩)).1
      have hge := (hys.lt g2 rfl).1
      have HS := Lib.hid (show ∃ ys, (W0.setCell ⟨g2, k, none⟩ (.string ⟨#[63]⟩)).ownsRow w1.heap.size 9 1 (.slice (some ⟨g2, 0, none⟩) k2 c2) k2 ys from ⟨_, hst⟩)
      have HB := Lib.hid (hb.out.setCell (p := ⟨g2, k, none⟩) hge (.string ⟨#[63]⟩))
      obtain ⟨u, hu⟩ : ∃ u, ys[k] = u := ⟨_, rfl⟩
      rw [hu] at hc
      clear hu hst hys hown hone hyl hge
      go_wp2
      go_round
      case rel => exact ⟨k + 1, by go_num, by omega, HB, HS⟩
      case measure => simp [intOf]; omega
    · obtain rfl : k = k2 := by omega
      have hsc := Lib.hid (same_any (some ⟨g, 0, none⟩) o n n cap c xs xs W0 ((own_sarg HO.out).on hb.out) (HA.out.on (Bel.trans B1.out hb.out)) (by unfold maxLen; omega) (by unfold maxLen; omega))
      have HH := Lib.hid (fun (W : World) (h : Bel w W) => has_any o n c xs s hn W (HA.out.on h))
      have HR := Lib.hid (fun (W : World) (h : Bel w W) => rhas_any o n c xs s hn W (HA.out.on h))
      generalize hasB xs s = hb2 at HH HR
      clear hown
      go_wp2_with fail
      refine hsc.out.mono ?_
      rintro e w6 ⟨⟨bb, hbb, rfl⟩, b6⟩
      obtain rfl : bb = true := hbb.2 trivial
      have B6 := Lib.hid (Bel.trans B1.out (Bel.trans hb.out b6))
      clear hbb hsc b6
      go_wp2_with fail
      refine (HH.out _ B6.out).mono ?_
      rintro e w7 ⟨rfl, rfl⟩
      go_wp2_with fail
      refine (HR.out _ B6.out).mono ?_
      rintro e w8 ⟨rfl, rfl⟩
      go_wp2_with fail
      refine (AW.out _).mono ?_
      rintro e w9 ⟨rfl, g9⟩
      go_wp2_with fail
      go_ret
      exact ⟨rfl, Bel.trans B6.out g9⟩
end Idn
end Go.Proofs.Ytgchjfdldbadlaa
