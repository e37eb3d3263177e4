/-
  The reference's Ranking; has; equal.
-/
import Derived.Test.YtkdahjaflgebiaaDoorHshV
import Derived.OwnWalk
namespace Go.Proofs.YtkdahjaflgebiaaDoor
open Go.RowKit

def encI (l : List Nat) : List Value := l.map fun i : Nat => Value.int .i64 (i : Int)
theorem encI_len (l : List Nat) : (encI l).length = l.length := by simp [encI]
/-- What is owned reads as a slice of numbers. -/
theorem own_iarg {w : World} {base : Nat} {e : TypeId} {o : Option Addr} {k c : Nat} {l : List Nat} (h : w.ownsRow base e 1 (.slice o k c) k (encI l)) : IArg w o k l := by
  have hl : l.length = k := by have := h.1; rw [encI_len] at this; omega
  refine ⟨hl, fun i hi => ?_⟩
  rcases h.2 with ⟨hv, hk⟩ | ⟨g, cap, cur, hv, _, _, _⟩
  · omega
  · simp only [Value.slice.injEq] at hv
    obtain ⟨rfl, -, rfl⟩ := hv
    exact ⟨_, rfl, h.cells rfl i _ (by simp [encI, List.getElem?_eq_getElem hi])⟩
theorem own_shape {w : World} {base : Nat} {e : TypeId} {v : Value} {k : Nat} {xs : List Value} (h : w.ownsRow base e 1 v k xs) : ∃ o c, v = .slice o k c := by
  rcases h.2 with ⟨hv, hk⟩ | ⟨g, cap, cur, hv, _⟩
  · exact ⟨none, 0, by rw [hv, hk]⟩
  · exact ⟨_, _, hv⟩
theorem own_on {w w' : World} {base : Nat} {e : TypeId} {v : Value} {k : Nat} {xs : List Value} (h : w.ownsRow base e 1 v k xs) (b : Bel w w') : w'.ownsRow base e 1 v k xs :=
  h.kept (row := none) ⟨b.os, b.tape, b.output, b.size, fun i hi _ => b.block i hi⟩ (by cases hv : v.ownBlock <;> simp)
theorem own_bel {a w w' : World} {e : TypeId} {v : Value} {k : Nat} {xs : List Value} (h : w.ownsRow a.heap.size e 1 v k xs) (b : Bel a w) (hg : w.grownBy w' v.ownBlock) : Bel a w' :=
  Below.grown b hg b.size fun i hi => (h.lt i hi).1
namespace Hsh

theorem cell_new1 (w : World) (x : Value) (t : TypeId) : ∀ j u, [x][j]? = some u → (w.alloc (.cells #[x] t)).cell? ((⟨w.heap.size, 0, none⟩ : Addr).add j) = some u := fun j u hj => by
  match j, hj with
  | 0, hj =>
    simp only [List.getElem?_cons_zero, Option.some.injEq] at hj
    rw [Lib.add_plain, World.cell?_alloc_new, ← hj]
    rfl
theorem has_any (o : Option Addr) (k c i : Nat) (l : List Nat) (hk : k ≤ 4611686018427387904) (w : World) (hA : IArg w o k l) :
    Calls Tryd.prog 37 #[.slice o k c, .int .i64 (i : Int)] w fun e w' => e = .returned (.bool (decide (i ∈ l))) ∧ w' = w := by
  have HA := Lib.hid hA
  have hlen := hA.1
  clear hA
  go_enter Tryd.func37, Tryd.ntmps37
  go_wp2
  go_loop [5] (fun j => ∃ q : Nat, q ≤ k ∧ j = .int .i64 (q : Int) ∧ Hid (i ∉ l.take q)) (fun j => k - (intOf j).toNat)
  case atStart => exact ⟨0, Nat.zero_le _, rfl, Lib.hid (by simp)⟩
  case round =>
    obtain ⟨q, hq, rfl, hr⟩ := hrel
    by_cases hlt : q < k
    · have hql : q < l.length := by omega
      obtain ⟨p, rfl, hc⟩ := HA.out.2 q hql
      have hmem := Lib.hid (List.getElem_mem hql)
      have hst := Lib.hid (List.take_succ_eq_append_getElem hql)
      obtain ⟨x, hx⟩ : ∃ x, l[q] = x := ⟨_, rfl⟩
      rw [hx] at hc hmem hst
      clear hx
      by_cases he : x = i
      · have hf : Hid (decide (i ∈ l) = true) := Lib.hid (by rw [← he]; exact decide_eq_true hmem.out)
        have e1 : ((x : Int) == (i : Int)) = true := by simp; omega
        clear he
        go_wp2
        go_ret
        exact ⟨by rw [hf.out]; rfl, rfl⟩
      · have e1 : ((x : Int) == (i : Int)) = false := by simp; omega
        have hn := Lib.hid (show i ∉ l.take (q + 1) by
          rw [hst.out]
          intro h
          rcases List.mem_append.1 h with h | h
          · exact hr.out h
          · simp at h
            omega)
        clear he hr
        go_wp2
        go_round
        case rel => exact ⟨q + 1, by omega, by go_num, hn⟩
        case measure => simp [intOf]; omega
    · obtain rfl : q = k := by omega
      have hf : Hid (decide (i ∈ l) = false) := Lib.hid (by
        have := hr.out
        rw [List.take_of_length_le (by omega)] at this
        exact decide_eq_false this)
      clear hr
      go_wp2
      go_ret
      exact ⟨by rw [hf.out]; rfl, rfl⟩
theorem equal_any (o p : Option Addr) (n c d : Nat) (l : List Nat) (hn : n ≤ 64) (w : World) (hA : IArg w o n l) (hB : IArg w p n l) :
    Calls Tryd.prog 24 #[.slice o n c, .slice p n d] w fun e w' => e = .returned (.bool true) ∧ Bel w w' := by
  have HA := Lib.hid hA
  have HB := Lib.hid hB
  have hlen := hA.1
  clear hA hB
  go_enter Tryd.func24, Tryd.ntmps24
  go_wp2
  go_loopw [13] (fun j wr => ∃ q : Nat, q ≤ n ∧ j = .int .i64 (q : Int) ∧ Hid (Bel w wr)) (fun j _ => n - (intOf j).toNat)
  case atStart => exact ⟨0, Nat.zero_le _, rfl, Lib.hid (Bel.refl _)⟩
  case round =>
    obtain ⟨q, hq, rfl, hb⟩ := hrel
    rename World => W0
    by_cases hlt : q < n
    · have hql : q < l.length := by omega
      obtain ⟨a, rfl, hc⟩ := (HA.out.on hb.out).2 q hql
      obtain ⟨b, rfl, hd⟩ := (HB.out.on hb.out).2 q hql
      obtain ⟨x, hx⟩ : ∃ x, l[q] = x := ⟨_, rfl⟩
      rw [hx] at hc hd
      clear hx
      have i1 : (q : Int) < (n : Int) := by omega
      have G := hb.out
      clear hb
      go_upto_region 6 with (fail)
      go_quiet (fail)
      clear i1
      go_wp2_with fail
      go_round
      case rel => exact ⟨q + 1, by omega, by go_num, Lib.hid (Bel.drewN G _)⟩
      case measure => simp [intOf]; omega
    · obtain rfl : q = n := by omega
      go_wp2
      go_ret
      exact ⟨rfl, hb.out⟩
theorem scoreS2 (x key : ByteArray) (v : Nat) (hv : Hid (∀ W : World, Lad W → Calls Tryd.prog 35 #[.string x, .string key] W fun e w' => e = .returned (.int .u64 (v : Int)) ∧ Bel W w')) (w w0 W : World) (hL : Hid (Lad w)) (p q : Addr) (a b : ByteArray) (h1 : W.cell? p = some (.string a)) (h2 : W.cell? q = some (.string b)) (g : Bel w W) (g0 : Bel w0 W) :
    Calls Tryd.prog 35 #[.string x, .string key] W fun e w' => e = .returned (.int .u64 (v : Int)) ∧ w'.cell? p = some (.string a) ∧ w'.cell? q = some (.string b) ∧ Bel w w' ∧ Bel w0 w' :=
  (hv.out W (hL.out.on g)).mono fun _ _ ⟨he, k⟩ => ⟨he, k.cell' h1, k.cell' h2, Bel.trans g k, Bel.trans g0 k⟩
/-- The number that stands for the best of none. -/
def selV : Option Nat → Int
  | none => -1
  | some b => (b : Int)
theorem sel_in {sc : Nat → Nat} {out : List Nat} {j : Nat} (h : j ∈ out) : sel sc out (j + 1) = sel sc out j := by rw [sel, if_pos h]
theorem sel_new {sc : Nat → Nat} {out : List Nat} {j : Nat} (h : j ∉ out) (hs : sel sc out j = none) : sel sc out (j + 1) = some j := by rw [sel, if_neg h, hs]
theorem sel_old {sc : Nat → Nat} {out : List Nat} {j b : Nat} (h : j ∉ out) (hs : sel sc out j = some b) : sel sc out (j + 1) = if sc b < sc j then some j else some b := by rw [sel, if_neg h, hs]
theorem sel_bd {sc : Nat → Nat} {out : List Nat} {j b : Nat} (hs : sel sc out j = some b) : b < j := by
  have := sel_spec sc out j
  rw [hs] at this
  exact this.1
set_option maxHeartbeats 8000000 in
set_option maxRecDepth 100000 in
theorem rrank_ok (o : Option Addr) (n c : Nat) (xs : List ByteArray) (key : ByteArray) (L : List Nat) (hR : IsRank (sco xs key) n L) (hn : n ≤ 64) (hx : ∀ x ∈ xs, x.size ≤ 400) (hkey : key.size ≤ 400) (w : World) (hL : Lad w) (hA : SlArg w o n xs) :
    Calls Tryd.prog 26 #[.string key, .slice o n c] w fun e w' => (∃ o' c', IArg w' o' n L ∧ e = .returned (.slice o' n c')) ∧ Bel w w' := by
  obtain ⟨i0, hi, hz0, hz1, hz2⟩ := info_parts info_int
  have HA := Lib.hid hA
  have hlen := hA.1
  have HL := Lib.hid hL
  have HR := Lib.hid hR
  have hLl := hR.len
  clear hA hL hR
  have e1 : (64 < (n : Int)) = False := eq_false (by omega)
  go_enter Tryd.func26, Tryd.ntmps26
  go_wp2
  go_loopw [5] (fun v wr => ∃ (k c' : Nat) (o' : Option Addr), k ≤ n ∧ v = .slice o' k c' ∧ Hid (wr.ownsRow w.heap.size 3 1 (.slice o' k c') k (encI (L.take k))) ∧ Hid (Bel w wr)) (fun v _ => n - (match v with | .slice _ k _ => k | _ => 0))
  case atStart => exact ⟨0, 0, none, Nat.zero_le _, rfl, Lib.hid (World.ownsRow_nil _ _ _ _), Lib.hid (Bel.refl _)⟩
  case round =>
    obtain ⟨k, c', o', hk, rfl, hown, hb⟩ := hrel
    rename World => W0
    by_cases hlt : k < n
    · have hsel := Lib.hid (sel_rank HR.out hlt)
      have hkL : k < L.length := by omega
      have htl := Lib.hid (List.take_succ_eq_append_getElem hkL)
      have hlL : (L.take k).length = k := by simp; omega
      obtain ⟨l, hl⟩ : ∃ l, L.take k = l := ⟨_, rfl⟩
      obtain ⟨m, hm⟩ : ∃ m, L[k] = m := ⟨_, rfl⟩
      have hmn : m < n := by rw [← hm]; exact HR.out.mem.1 (List.getElem_mem hkL)
      rw [hl, hm] at hsel htl
      rw [hl] at hown hlL
      clear hl hm
      go_upto_region 7 with (fail)
      go_loopw [6, 7] (fun b i wr => ∃ (j : Nat) (s : Option Nat), j ≤ n ∧ Hid (sel (sco xs key) l j = s) ∧ b = .int .i64 (selV s) ∧ i = .int .i64 (j : Int) ∧ Hid (Bel W0 wr)) (fun _ i _ => n - (intOf i).toNat)
      case atStart => exact ⟨0, none, Nat.zero_le _, Lib.hid rfl, rfl, rfl, Lib.hid (Bel.refl _)⟩
      case round =>
        obtain ⟨j, s, hj, hs, rfl, rfl, hbi⟩ := hrel
        rename World => W1
        have G := Bel.trans hb.out hbi.out
        by_cases hjn : j < n
        · have hH := has_any o' k c' j l (by omega) W1 ((own_iarg hown.out).on hbi.out)
          clear htl hsel
          by_cases hin : j ∈ l
          · rw [decide_eq_true hin] at hH
            have HH := Lib.hid hH
            have hs2 : Hid (sel (sco xs key) l (j + 1) = s) := Lib.hid ((sel_in hin).trans hs.out)
            clear hin hH
            go_wp2_with fail
            refine HH.out.mono ?_
            rintro e w2 ⟨rfl, rfl⟩
            go_wp2_with fail
            go_round
            case rel => exact ⟨j + 1, s, by omega, hs2, rfl, by go_num, hbi⟩
            case measure => simp [intOf]; omega
          · rw [decide_eq_false hin] at hH
            have HH := Lib.hid hH
            cases s with
            | none =>
              have hs2 : Hid (sel (sco xs key) l (j + 1) = some j) := Lib.hid (sel_new hin hs.out)
              clear hin hH hs
              rw [show selV none = -1 from rfl]
              have G0 := hbi.out
              go_wp2_with fail
              refine HH.out.mono ?_
              rintro e w2 ⟨rfl, rfl⟩
              go_wp2_with fail
              go_quiet (fail)
              go_wp2_with fail
              go_round
              case rel => exact ⟨j + 1, some j, by omega, hs2, rfl, by go_num, Lib.hid (Bel.drewN G0 _)⟩
              case measure => simp [intOf]; omega
            | some b =>
              have hbj := sel_bd hs.out
              have hst := Lib.hid (sel_old hin hs.out)
              clear hin hH hs
              rw [show selV (some b) = (b : Int) from rfl]
              have hjx : j < xs.length := by omega
              have hbx : b < xs.length := by omega
              obtain ⟨p, hp, hc⟩ := (HA.out.on G).2 j hjx
              obtain ⟨p', hp', hd⟩ := (HA.out.on G).2 b hbx
              subst hp
              obtain rfl := Option.some.inj hp'
              clear hp'
              have s1 := sco_at (key := key) hjx
              have s2 := sco_at (key := key) hbx
              have c1 := fun W h => score_any xs[j] key (hx _ (List.getElem_mem hjx)) hkey W h
              have c2 := fun W h => score_any xs[b] key (hx _ (List.getElem_mem hbx)) hkey W h
              rw [← s1] at c1
              rw [← s2] at c2
              obtain ⟨x, hxe⟩ : ∃ x, xs[j] = x := ⟨_, rfl⟩
              obtain ⟨y, hye⟩ : ∃ y, xs[b] = y := ⟨_, rfl⟩
              rw [hxe] at hc c1
              rw [hye] at hd c2
              clear hxe hye s1 s2
              obtain ⟨v, hv⟩ : ∃ v, sco xs key j = v := ⟨_, rfl⟩
              obtain ⟨u, hu⟩ : ∃ u, sco xs key b = u := ⟨_, rfl⟩
              rw [hv] at c1 hst
              rw [hu] at c2 hst
              have C1 := Lib.hid c1
              have C2 := Lib.hid c2
              have G0 := hbi.out
              clear c1 c2 hv hu hbi
              have i1 : (j : Int) < 64 := by omega
              have i2 : (j : Int) < (n : Int) := by omega
              have i3 : (b : Int) < (n : Int) := by omega
              by_cases hgt : u < v
              · have hs2 : Hid (sel (sco xs key) l (j + 1) = some j) := Lib.hid (by rw [hst.out, if_pos hgt])
                clear hst
                go_wp2_with fail
                refine HH.out.mono ?_
                rintro e w2 ⟨rfl, rfl⟩
                go_wp2_with fail
                go_region_held3 (fun w' => w'.cell? (p.add j) = some (.string x) ∧ w'.cell? (p.add b) = some (.string y) ∧ Bel w w' ∧ Bel W0 w') (first | exact ⟨h1, h2, h3, h4⟩ | exact ⟨hc, hd, Below.drew G, Below.drew G0⟩) (first | (go_at_call 35; (with_reducible refine (scoreS2 x key v C1 w W0 _ HL (p.add j) (p.add b) x y ?_ ?_ ?_ ?_).mono ?_); (first | assumption | exact hc); (first | assumption | exact hd); (first | assumption | exact Below.drew G); (first | assumption | exact Below.drew G0); rintro e w' ⟨rfl, h1, h2, h3, h4⟩) | (go_at_call 35; (with_reducible refine (scoreS2 y key u C2 w W0 _ HL (p.add j) (p.add b) x y ?_ ?_ ?_ ?_).mono ?_); (first | assumption | exact hc); (first | assumption | exact hd); (first | assumption | exact Below.drew G); (first | assumption | exact Below.drew G0); rintro e w' ⟨rfl, h1, h2, h3, h4⟩))
                all_goals
                  clear i1 i2 i3
                  go_wp2_with fail
                  go_round
                  case rel => exact ⟨j + 1, _, by omega, hs2, rfl, by go_num, Lib.hid h4⟩
                  case measure => simp [intOf]; omega
              · have hs2 : Hid (sel (sco xs key) l (j + 1) = some b) := Lib.hid (by rw [hst.out, if_neg hgt])
                have hgt' : v ≤ u := by omega
                clear hst hgt
                go_wp2_with fail
                refine HH.out.mono ?_
                rintro e w2 ⟨rfl, rfl⟩
                go_wp2_with fail
                go_region_held3 (fun w' => w'.cell? (p.add j) = some (.string x) ∧ w'.cell? (p.add b) = some (.string y) ∧ Bel w w' ∧ Bel W0 w') (first | exact ⟨h1, h2, h3, h4⟩ | exact ⟨hc, hd, Below.drew G, Below.drew G0⟩) (first | (go_at_call 35; (with_reducible refine (scoreS2 x key v C1 w W0 _ HL (p.add j) (p.add b) x y ?_ ?_ ?_ ?_).mono ?_); (first | assumption | exact hc); (first | assumption | exact hd); (first | assumption | exact Below.drew G); (first | assumption | exact Below.drew G0); rintro e w' ⟨rfl, h1, h2, h3, h4⟩) | (go_at_call 35; (with_reducible refine (scoreS2 y key u C2 w W0 _ HL (p.add j) (p.add b) x y ?_ ?_ ?_ ?_).mono ?_); (first | assumption | exact hc); (first | assumption | exact hd); (first | assumption | exact Below.drew G); (first | assumption | exact Below.drew G0); rintro e w' ⟨rfl, h1, h2, h3, h4⟩))
                all_goals
                  clear i1 i2 i3
                  go_wp2_with fail
                  go_round
                  case rel => exact ⟨j + 1, _, by omega, hs2, rfl, by go_num, Lib.hid h4⟩
                  case measure => simp [intOf]; omega
        · obtain rfl : j = n := by omega
          obtain rfl : s = some m := hs.out.symm.trans hsel.out
          rw [show selV (some m) = (m : Int) from rfl]
          have hownA := Lib.hid (own_on hown.out hbi.out)
          have GS := G.size
          clear hs hsel
          go_upto_region 12 with (fail)
          have q1 := Lib.hid (cell_new1 W1 (.int .i64 (m : Int)) 3)
          have q2 : Hid (∀ u ∈ [Value.int .i64 (m : Int)], u.oneCell' = true) := Lib.hid (fun u hu => by simp at hu; subst hu; rfl)
          have q3 : Hid (k + 1 ≤ maxLen) := Lib.hid (by unfold maxLen; omega)
          have q4 : Hid ((k + 1) * 8 ≤ 140737488355328) := Lib.hid (by omega)
          have q5 : Hid (w.heap.size ≤ (W1.alloc (.cells #[.int .i64 (m : Int)] 3)).heap.size) := Lib.hid (Nat.le_trans GS (Nat.le_of_lt (alloc_lt _ _)))
          go_wp2_with (at_builtin; refine wpList_append_own _ rfl _ _ 41 rfl w.heap.size 3 i0 (.int .i64 0) 1 8 Tryd.underlying41 hi hz0 hz1 hz2 rfl (by decide) _ _ _ rfl (hownA.out.alloc _) ⟨W1.heap.size, 0, none⟩ 1 1 [.int .i64 (m : Int)] rfl rfl q1.out q2.out q3.out q4.out q5.out ?_; intro v' w3 hown' hgrow3 hnil3; refine Hid.out ?_)
          refine Lib.hid ?_
          obtain ⟨o2, c2, rfl⟩ := own_shape hown'
          have hg3 : (W1.alloc (.cells #[.int .i64 (m : Int)] 3)).grownBy w3 (Value.slice o' k c').ownBlock := hgrow3
          have b3 := Lib.hid (own_bel (hownA.out.alloc _) (G.alloc (.cells #[.int .i64 (m : Int)] 3)) hg3)
          have o3 : Hid (w3.ownsRow w.heap.size 3 1 (.slice o2 (k + 1) c2) (k + 1) (encI (L.take (k + 1)))) := Lib.hid (by
            have e : encI (L.take (k + 1)) = encI l ++ [Value.int .i64 (m : Int)] := by rw [htl.out]; simp [encI]
            rw [e]
            exact hown')
          clear hnil3 hgrow3 hg3 hown' q1 q2 q3 q4 q5 hownA htl
          go_wp2
          go_round
          case rel => exact ⟨k + 1, c2, o2, by omega, rfl, o3, b3⟩
          case measure => simp; omega
    · obtain rfl : k = n := by omega
      have hIA := Lib.hid (own_iarg hown.out)
      have htk : L.take k = L := List.take_of_length_le (by omega)
      rw [htk] at hIA
      clear htk
      go_wp2
      go_ret
      exact ⟨⟨o', c', hIA.out, rfl⟩, hb.out⟩
end Hsh
end Go.Proofs.YtkdahjaflgebiaaDoor
