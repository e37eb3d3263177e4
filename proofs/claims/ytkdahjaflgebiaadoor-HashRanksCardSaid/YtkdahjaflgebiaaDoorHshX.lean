/-
  What Rendezvous and Ranking answer at every list; the law HashRanks.
-/
import Derived.Test.YtkdahjaflgebiaaDoorHshW
namespace Go.Proofs.YtkdahjaflgebiaaDoor
open Go.RowKit
namespace Hsh

theorem rv_err (o : Option Addr) (n c : Nat) (key : ByteArray) (E : Int) (hE : E ≠ 0) (w : World) (ho : Hid (Calls Tryd.prog 34 #[.string key, .slice o n c] w fun e w' => e = .returned (.tuple #[.nilFunc, .int .i64 E]) ∧ w' = w)) :
    Calls Tryd.prog 22 #[.string key, .slice o n c] w fun e w' => e = .returned (.tuple #[.int .i64 0, .int .i64 E]) ∧ Bel w w' := by
  have e1 : (E != 0) = true := by simpa using hE
  go_enter Tryd.func22, Tryd.ntmps22
  go_wp2_with fail
  refine ho.out.mono ?_
  rintro e w1 ⟨rfl, rfl⟩
  go_wp2_with fail
  go_ret2
  exact ⟨rfl, Bel.refl _⟩
theorem rank_err (o : Option Addr) (n c : Nat) (key : ByteArray) (E : Int) (hE : E ≠ 0) (w : World) (ho : Hid (Calls Tryd.prog 34 #[.string key, .slice o n c] w fun e w' => e = .returned (.tuple #[.nilFunc, .int .i64 E]) ∧ w' = w)) :
    Calls Tryd.prog 25 #[.string key, .slice o n c] w fun e w' => e = .returned (.slice none 0 0) ∧ Bel w w' := by
  have e1 : (E != 0) = true := by simpa using hE
  go_enter Tryd.func25, Tryd.ntmps25
  go_wp2_with fail
  refine ho.out.mono ?_
  rintro e w1 ⟨rfl, rfl⟩
  go_wp2_with fail
  go_ret
  exact ⟨rfl, Bel.refl _⟩
theorem rrv_none (o : Option Addr) (c : Nat) (key : ByteArray) (w : World) :
    Calls Tryd.prog 23 #[.string key, .slice o 0 c] w fun e w' => e = .returned (.tuple #[.int .i64 0, .int .i64 5]) ∧ Bel w w' := by
  go_enter Tryd.func23, Tryd.ntmps23
  go_wp2
  go_ret2
  exact ⟨rfl, Bel.refl _⟩
theorem rrv_many (o : Option Addr) (n c : Nat) (key : ByteArray) (h : 64 < n) (hn : n ≤ 4611686018427387904) (w : World) :
    Calls Tryd.prog 23 #[.string key, .slice o n c] w fun e w' => e = .returned (.tuple #[.int .i64 0, .int .i64 3]) ∧ Bel w w' := by
  have e0 : ((n : Int) == 0) = false := by simp; omega
  go_enter Tryd.func23, Tryd.ntmps23
  go_wp2
  go_ret2
  exact ⟨rfl, Bel.refl _⟩
theorem rrank_many (o : Option Addr) (n c : Nat) (key : ByteArray) (h : 64 < n) (hn : n ≤ 4611686018427387904) (w : World) :
    Calls Tryd.prog 26 #[.string key, .slice o n c] w fun e w' => e = .returned (.slice none 0 0) ∧ Bel w w' := by
  go_enter Tryd.func26, Tryd.ntmps26
  go_wp2
  go_ret
  exact ⟨rfl, Bel.refl _⟩
set_option maxHeartbeats 2000000 in
theorem ranks_core (key : ByteArray) (o : Option Addr) (n c nn : Nat) (b : Bool) (V E : Int) (P : List Nat → Prop) (hz : key.size ≤ 140737488355328) (hnn : nn ≤ 64) (w : World) (hL : Lad w)
    (hb : Hid (Calls Tryd.prog 9 #[.slice o n c, .int .i64 70] w fun e w' => e = .returned (.bool b) ∧ w' = w))
    (h1 : Hid (key.size ≤ 200 → b = true → ∀ W, Bel w W → Calls Tryd.prog 22 #[.string key, .slice o n c] W fun e w' => e = .returned (.tuple #[.int .i64 V, .int .i64 E]) ∧ Bel W w'))
    (h2 : Hid (key.size ≤ 200 → b = true → ∀ W, Bel w W → Calls Tryd.prog 23 #[.string key, .slice o n c] W fun e w' => e = .returned (.tuple #[.int .i64 V, .int .i64 E]) ∧ Bel W w'))
    (h3 : Hid (key.size ≤ 200 → b = true → ∀ W, Bel w W → Calls Tryd.prog 25 #[.string key, .slice o n c] W fun e w' => (∃ o1 c1 l, P l ∧ IArg w' o1 nn l ∧ e = .returned (.slice o1 nn c1)) ∧ Bel W w'))
    (h4 : Hid (key.size ≤ 200 → b = true → ∀ l, P l → ∀ W, Bel w W → Calls Tryd.prog 26 #[.string key, .slice o n c] W fun e w' => (∃ o1 c1, IArg w' o1 nn l ∧ e = .returned (.slice o1 nn c1)) ∧ Bel W w')) :
    Calls Tryd.prog 6 #[.string key, .slice o n c] w fun e w' => e = .returned (.bool true) ∧ Bel w w' := by
  have hA := Lib.hid awakeT
  by_cases hs : key.size ≤ 200
  · cases b
    · go_enter Tryd.func6, Tryd.ntmps6
      go_wp2_with fail
      refine hb.out.mono ?_
      rintro e w1 ⟨rfl, rfl⟩
      go_wp2_with fail
      refine (hA.out _ hL).mono ?_
      rintro e w2 ⟨rfl, g2⟩
      go_wp2_with fail
      go_ret
      exact ⟨rfl, g2⟩
    · have H1 := Lib.hid (h1.out hs rfl)
      have H2 := Lib.hid (h2.out hs rfl)
      have H3 := Lib.hid (h3.out hs rfl)
      have H4 := Lib.hid (h4.out hs rfl)
      clear h1 h2 h3 h4
      go_enter Tryd.func6, Tryd.ntmps6
      go_wp2_with fail
      refine hb.out.mono ?_
      rintro e w1 ⟨rfl, rfl⟩
      go_wp2_with fail
      refine (H1.out _ (Bel.refl _)).mono ?_
      rintro e w2 ⟨rfl, g2⟩
      go_wp2_with fail
      refine (H2.out _ g2).mono ?_
      rintro e w3 ⟨rfl, g3⟩
      have G3 := Bel.trans g2 g3
      clear g2 g3 H1 H2
      go_wp2_with fail
      refine (H3.out _ G3).mono ?_
      rintro e w4 ⟨⟨o1, c1, l, hp, ha, rfl⟩, g4⟩
      have G4 := Bel.trans G3 g4
      have HP := Lib.hid hp
      have Ha := Lib.hid ha
      clear hp ha g4 G3 H3
      go_wp2_with fail
      refine (H4.out l HP.out _ G4).mono ?_
      rintro e w5 ⟨⟨o2, c2, hc, rfl⟩, g5⟩
      have G5 := Bel.trans G4 g5
      have hq := Lib.hid (equal_any o1 o2 nn c1 c2 l hnn w5 (Ha.out.on g5) hc)
      clear hc Ha G4 g5 H4
      go_wp2_with fail
      refine hq.out.mono ?_
      rintro e w6 ⟨rfl, g6⟩
      have G6 := Bel.trans G5 g6
      go_wp2_with fail
      refine (hA.out _ (hL.on G6)).mono ?_
      rintro e w7 ⟨rfl, g7⟩
      go_wp2_with fail
      go_ret
      exact ⟨rfl, Bel.trans G6 g7⟩
  · have hs' : 200 < key.size := by omega
    clear hs hb
    go_enter Tryd.func6, Tryd.ntmps6
    go_wp2_with fail
    refine (hA.out _ hL).mono ?_
    rintro e w2 ⟨rfl, g2⟩
    go_wp2_with fail
    go_ret
    exact ⟨rfl, g2⟩
theorem b400 {xs : List ByteArray} {m : Nat} (h : shortB xs m = true) : ∀ x ∈ xs, x.size ≤ 400 := fun x hm => by have := (shortB_true h).2 x hm; omega
theorem law_ranks (key : ByteArray) (o : Option Addr) (n c : Nat) (xs : List ByteArray) (hz : key.size ≤ 140737488355328) (hn : n ≤ 4611686018427387904) (w : World) (hL : Lad w) (hA : SlArg w o n xs) (hx : ∀ x ∈ xs, x.size ≤ maxLen) :
    Calls Tryd.prog 6 #[.string key, .slice o n c] w fun e w' => e = .returned (.bool true) ∧ Bel w w' := by
  have hsh := Lib.hid (short_any o n c 70 xs hn (by omega) hx w hA)
  by_cases h0 : n = 0
  · subst h0
    exact ranks_core key o 0 c 0 (shortB xs 70) 0 5 (fun l => l = []) hz (by omega) w hL hsh
      (Lib.hid fun _ _ W _ => rv_err o 0 c key 5 (by decide) W (Lib.hid (order_none key o c W)))
      (Lib.hid fun _ _ W _ => rrv_none o c key W)
      (Lib.hid fun _ _ W _ => (rank_err o 0 c key 5 (by decide) W (Lib.hid (order_none key o c W))).mono fun _ w' ⟨he, g⟩ => ⟨⟨none, 0, [], rfl, IArg.nil w', he⟩, g⟩)
      (Lib.hid fun hk hs l hl W g => hl ▸ rrank_ok o 0 c xs key [] ⟨List.Perm.refl _, List.Pairwise.nil⟩ (by omega) (b400 hs) (by omega) W (hL.on g) (hA.on g))
  · by_cases h64 : n ≤ 64
    · exact ranks_core key o n c n (shortB xs 70) (bst (sco xs key) n : Int) 0 (IsRank (sco xs key) n) hz h64 w hL hsh
        (Lib.hid fun hk hs W g => rv_ok o n c key (sco xs key) (by omega) h64 W (Lib.hid (order_ok o n c xs key (by omega) h64 (b400 hs) (by omega) W (hL.on g) (hA.on g))))
        (Lib.hid fun hk hs W g => rrv_ok o n c xs key (by omega) h64 (b400 hs) (by omega) W (hL.on g) (hA.on g))
        (Lib.hid fun hk hs W g => (rank_ok o n c key (sco xs key) (by omega) h64 W (Lib.hid (order_ok o n c xs key (by omega) h64 (b400 hs) (by omega) W (hL.on g) (hA.on g)))).mono fun _ w' ⟨⟨g', l, hr, hi, he⟩, gb⟩ => ⟨⟨_, _, l, hr, hi, he⟩, gb⟩)
        (Lib.hid fun hk hs l hl W g => rrank_ok o n c xs key l hl h64 (b400 hs) (by omega) W (hL.on g) (hA.on g))
    · exact ranks_core key o n c 0 (shortB xs 70) 0 3 (fun l => l = []) hz (by omega) w hL hsh
        (Lib.hid fun _ _ W _ => rv_err o n c key 3 (by decide) W (Lib.hid (order_many key o n c (by omega) hn W)))
        (Lib.hid fun _ _ W _ => rrv_many o n c key (by omega) hn W)
        (Lib.hid fun _ _ W _ => (rank_err o n c key 3 (by decide) W (Lib.hid (order_many key o n c (by omega) hn W))).mono fun _ w' ⟨he, g⟩ => ⟨⟨none, 0, [], rfl, IArg.nil w', he⟩, g⟩)
        (Lib.hid fun _ _ l hl W _ => (rrank_many o n c key (by omega) hn W).mono fun _ w' ⟨he, g⟩ => ⟨⟨none, 0, hl ▸ IArg.nil w', he⟩, g⟩)
end Hsh
end Go.Proofs.YtkdahjaflgebiaaDoor
