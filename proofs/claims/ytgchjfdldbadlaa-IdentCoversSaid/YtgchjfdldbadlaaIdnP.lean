/-
  Layer 5: the examples of the chapter (awake).
-/
import Derived.Test.YtgchjfdldbadlaaIdnO
import Derived.Test.YtgchjfdldbadlaaIdnK
import Derived.Test.YtgchjfdldbadlaaIdnH
namespace Go.Proofs.Ytgchjfdldbadlaa
open Go.RowKit Go.ChangeShapes Go.WideShapes
namespace Idn

theorem lit_sarg (w : World) (xs : List ByteArray) : SlArg (w.alloc (.cells (encS xs).toArray 9)) (some ⟨w.heap.size, 0, none⟩) xs.length xs :=
  ⟨rfl, fun i h => ⟨_, rfl, by rw [Addr.add_lit, Nat.zero_add, World.cell?_alloc_new]; simp [encS, h]⟩⟩
theorem b_name {s : ByteArray} {l : List UInt8} {b : Bool} (hs : s.toList = l) (hb : nameB l = b) (w : World) : Calls Try.prog 10 #[.string s] w fun e w' => e = .returned (.bool b) ∧ Bel w w' := by
  have h := name_any s w
  rw [hs, hb] at h
  exact h
theorem b_id {s : ByteArray} {l : List UInt8} {b : Bool} (hs : s.toList = l) (hb : idB l = b) (w : World) : Calls Try.prog 12 #[.string s] w fun e w' => e = .returned (.bool b) ∧ Bel w w' := by
  have h := id_any s w
  rw [hs, hb] at h
  exact h
theorem b_pat {s : ByteArray} {l : List UInt8} {b : Bool} (hs : s.toList = l) (hb : patB l = b) (hz : s.size ≤ maxLen) (w : World) : Calls Try.prog 14 #[.string s] w fun e w' => e = .returned (.bool b) ∧ Bel w w' := by
  have h := pattern_any s hz w
  rw [hs, hb] at h
  exact h
theorem b_mat {p s : ByteArray} {k l : List UInt8} {b : Bool} (hp : p.toList = k) (hs : s.toList = l) (hb : matB k l = b) (hz : p.size ≤ maxLen) (w : World) : Calls Try.prog 25 #[.string p, .string s] w fun e w' => e = .returned (.bool b) ∧ Bel w w' := by
  have h := matches_any p s hz w
  rw [hp, hs, hb] at h
  exact h
theorem b_cov {p s : ByteArray} {k l : List UInt8} {b : Bool} (hp : p.toList = k) (hs : s.toList = l) (hb : covB k l = b) (hz : p.size ≤ maxLen) (hz2 : s.size ≤ maxLen) (w : World) : Calls Try.prog 27 #[.string p, .string s] w fun e w' => e = .returned (.bool b) ∧ Bel w w' := by
  have h := covers_any p s hz hz2 w
  rw [hp, hs, hb] at h
  exact h
theorem aw_ref (w : World) : Calls Try.prog 17 #[.string ⟨#[97, 99, 109, 101]⟩, .string ⟨#[114, 101, 115, 105, 122, 101]⟩, .string ⟨#[51]⟩] w fun e w' => e = .returned (.tuple #[.string ⟨#[97, 99, 109, 101, 47, 114, 101, 115, 105, 122, 101, 58, 51]⟩, .int .i64 0]) ∧ Bel w w' := by
  have h := ref_any ⟨#[97, 99, 109, 101]⟩ ⟨#[114, 101, 115, 105, 122, 101]⟩ ⟨#[51]⟩ (by decide) (by decide) (by decide) w
  rw [tl [97, 99, 109, 101], tl [114, 101, 115, 105, 122, 101], tl [51], show refT [97, 99, 109, 101] [114, 101, 115, 105, 122, 101] [51] = [97, 99, 109, 101, 47, 114, 101, 115, 105, 122, 101, 58, 51] by decide, show refE [97, 99, 109, 101] [114, 101, 115, 105, 122, 101] [51] = 0 by decide] at h
  exact h
theorem aw_parse (w : World) : Calls Try.prog 19 #[.string ⟨#[97, 99, 109, 101, 47, 114, 101, 115, 105, 122, 101, 58, 108, 105, 118, 101]⟩] w fun e w' => e = .returned (.tuple #[.string ⟨#[97, 99, 109, 101]⟩, .string ⟨#[114, 101, 115, 105, 122, 101]⟩, .string ⟨#[108, 105, 118, 101]⟩, .int .i64 0]) ∧ Bel w w' := by
  have h := parseRef_any ⟨#[97, 99, 109, 101, 47, 114, 101, 115, 105, 122, 101, 58, 108, 105, 118, 101]⟩ (by decide) w
  obtain ⟨g1, g2, g3, g4⟩ := pr_some (show prs verB [97, 99, 109, 101, 47, 114, 101, 115, 105, 122, 101, 58, 108, 105, 118, 101] = some ([97, 99, 109, 101], [114, 101, 115, 105, 122, 101], [108, 105, 118, 101]) by decide)
  rw [tl [97, 99, 109, 101, 47, 114, 101, 115, 105, 122, 101, 58, 108, 105, 118, 101], g1, g2, g3, g4] at h
  exact h
theorem aw_child (w : World) : Calls Try.prog 21 #[.string ⟨#[101, 55]⟩, .int .i64 0] w fun e w' => e = .returned (.tuple #[.string ⟨#[101, 55, 46, 48]⟩, .int .i64 0]) ∧ Bel w w' := by
  have h := child_any ⟨#[101, 55]⟩ 0 w
  rw [tl [101, 55], show chiT Num.fmtL [101, 55] 0 = [101, 55, 46, 48] by decide, show chiE Num.fmtL [101, 55] 0 = 0 by decide] at h
  exact h
theorem aw_par (w : World) : Calls Try.prog 23 #[.string ⟨#[101, 55, 46, 48]⟩] w fun e w' => e = .returned (.tuple #[.string ⟨#[101, 55]⟩, .int .i64 0, .bool true]) ∧ Bel w w' := by
  have h := parent_any ⟨#[101, 55, 46, 48]⟩ (by decide) w
  obtain ⟨g1, g2, g3⟩ := pa_some (show par Num.fmtL prsN [101, 55, 46, 48] = some ([101, 55], 0) by decide)
  rw [tl [101, 55, 46, 48], g1, g2, g3] at h
  exact h
theorem aw_par2 (w : World) : Calls Try.prog 23 #[.string ⟨#[101, 55, 46, 48, 48]⟩] w fun e w' => e = .returned (.tuple #[.string ⟨#[]⟩, .int .i64 0, .bool false]) ∧ Bel w w' := by
  have h := parent_any ⟨#[101, 55, 46, 48, 48]⟩ (by decide) w
  obtain ⟨g1, g2, g3⟩ := pa_none (show par Num.fmtL prsN [101, 55, 46, 48, 48] = none by decide)
  rw [tl [101, 55, 46, 48, 48], g1, g2, g3] at h
  exact h
theorem texts_inj {xs ys : List ByteArray} (h : xs.map ByteArray.toList = ys.map ByteArray.toList) : xs = ys := by
  induction xs generalizing ys with
  | nil => cases ys with
    | nil => rfl
    | cons _ _ => cases h
  | cons x r ih => cases ys with
    | nil => cases h
    | cons y t =>
      simp only [List.map_cons, List.cons.injEq] at h
      rw [ih (ys := t) h.2]
      congr 1
      have h1 := h.1
      rw [toL, toL] at h1
      exact ByteArray.ext (Array.toList_inj.1 h1)
theorem aw_sorted (w : World) : Calls Try.prog 29 #[.slice (some ⟨w.heap.size, 0, none⟩) 3 3] (w.alloc (.cells #[.string ⟨#[98]⟩, .string ⟨#[97]⟩, .string ⟨#[98]⟩] 9)) fun e w' => (∃ o k c, SlArg w' o k [⟨#[97]⟩, ⟨#[98]⟩] ∧ k ≤ 2 ∧ e = .returned (.slice o k c)) ∧ Bel (w.alloc (.cells #[.string ⟨#[98]⟩, .string ⟨#[97]⟩, .string ⟨#[98]⟩] 9)) w' := by
  refine (sorted_any (some ⟨w.heap.size, 0, none⟩) 3 3 [⟨#[98]⟩, ⟨#[97]⟩, ⟨#[98]⟩] (by omega) _ (lit_sarg w _)).mono fun e w' ⟨⟨v, he, o, k, c, D, hv, hD, hown⟩, hb⟩ => ⟨⟨o, k, c, ?_, ?_, by rw [he, hv]⟩, hb⟩
  · have hD2 : D = [⟨#[97]⟩, ⟨#[98]⟩] := texts_inj (hD.trans (by
      simp only [List.map_cons, List.map_nil, tl [97], tl [98]]
      decide))
    exact hD2 ▸ own_sarg hown
  · have h1 := (own_sarg hown).1
    have h2 := congrArg List.length hD
    rw [List.length_map] at h2
    have h3 : (srt ([(⟨#[98]⟩ : ByteArray), ⟨#[97]⟩, ⟨#[98]⟩].map ByteArray.toList)).length = 2 := by
      simp only [List.map_cons, List.map_nil, tl [97], tl [98]]
      decide
    omega
theorem aw_same (o : Option Addr) (k c : Nat) (hk : k ≤ 2) (W : World) (h : SlArg W o k [⟨#[97]⟩, ⟨#[98]⟩]) : Calls Try.prog 30 #[.slice o k c, .slice (some ⟨W.heap.size, 0, none⟩) 2 2] (W.alloc (.cells #[.string ⟨#[97]⟩, .string ⟨#[98]⟩] 9)) fun e w' => e = .returned (.bool true) ∧ Bel (W.alloc (.cells #[.string ⟨#[97]⟩, .string ⟨#[98]⟩] 9)) w' :=
  (same_any o _ k 2 c 2 _ _ _ (h.on ((Bel.refl W).alloc _)) (lit_sarg W [⟨#[97]⟩, ⟨#[98]⟩]) (by unfold maxLen; omega) (by decide)).mono fun e w' ⟨⟨b, h1, h2⟩, hb⟩ => ⟨by rw [h2, h1.2 rfl], hb⟩
theorem aw_has (w : World) : Calls Try.prog 32 #[.slice (some ⟨w.heap.size, 0, none⟩) 1 1, .string ⟨#[120]⟩] (w.alloc (.cells #[.string ⟨#[120]⟩] 9)) fun e w' => e = .returned (.bool true) ∧ w.alloc (.cells #[.string ⟨#[120]⟩] 9) = w' := by
  have h := has_any (some ⟨w.heap.size, 0, none⟩) 1 1 [⟨#[120]⟩] ⟨#[120]⟩ (by omega) _ (lit_sarg w [⟨#[120]⟩])
  rw [has_yes (List.mem_singleton.2 rfl)] at h
  exact h
theorem aw_hasNo (w : World) : Calls Try.prog 32 #[.slice none 0 0, .string ⟨#[120]⟩] w fun e w' => e = .returned (.bool false) ∧ w = w' := by
  have h := has_any none 0 0 [] ⟨#[120]⟩ (by omega) w (SlArg.nil w)
  rw [has_no (by simp)] at h
  exact h
set_option maxRecDepth 100000 in
set_option maxHeartbeats 4000000 in
theorem awake_any (w : World) : Calls Try.prog 16 #[] w fun e w' => e = .returned (.bool true) ∧ Bel w w' := by
  go_enter Try.func16, Try.ntmps16
  go_wp2_with fail
  refine (b_name (s := ⟨#[97, 45, 49, 95]⟩) (b := true) (tl [97, 45, 49, 95]) (by decide) _).mono ?_
  rintro e w1 ⟨rfl, g1⟩
  go_wp2_with fail
  refine (b_name (s := ⟨#[65]⟩) (b := false) (tl [65]) (by decide) _).mono ?_
  rintro e w2 ⟨rfl, g2⟩
  go_wp2_with fail
  refine (b_name (s := ⟨#[49, 97]⟩) (b := false) (tl [49, 97]) (by decide) _).mono ?_
  rintro e w3 ⟨rfl, g3⟩
  go_wp2_with fail
  refine (b_name (s := ⟨#[]⟩) (b := false) (tl []) (by decide) _).mono ?_
  rintro e w4 ⟨rfl, g4⟩
  go_wp2_with fail
  refine (b_id (s := ⟨#[97, 46, 49, 58, 98, 47, 67]⟩) (b := true) (tl [97, 46, 49, 58, 98, 47, 67]) (by decide) _).mono ?_
  rintro e w5 ⟨rfl, g5⟩
  go_wp2_with fail
  refine (b_id (s := ⟨#[97, 32, 98]⟩) (b := false) (tl [97, 32, 98]) (by decide) _).mono ?_
  rintro e w6 ⟨rfl, g6⟩
  go_wp2_with fail
  refine (aw_ref _).mono ?_
  rintro e w7 ⟨rfl, g7⟩
  go_wp2_with fail
  refine (aw_parse _).mono ?_
  rintro e w8 ⟨rfl, g8⟩
  go_wp2_with fail
  refine (aw_child _).mono ?_
  rintro e w9 ⟨rfl, g9⟩
  go_wp2_with fail
  refine (aw_par _).mono ?_
  rintro e w10 ⟨rfl, g10⟩
  go_wp2_with fail
  refine (aw_par2 _).mono ?_
  rintro e w11 ⟨rfl, g11⟩
  go_wp2_with fail
  refine (b_pat (s := ⟨#[42]⟩) (b := true) (tl [42]) (by decide) (by decide) _).mono ?_
  rintro e w12 ⟨rfl, g12⟩
  go_wp2_with fail
  refine (b_pat (s := ⟨#[97, 42, 98]⟩) (b := false) (tl [97, 42, 98]) (by decide) (by decide) _).mono ?_
  rintro e w13 ⟨rfl, g13⟩
  go_wp2_with fail
  refine (b_mat (p := ⟨#[97, 47, 42]⟩) (s := ⟨#[97, 47]⟩) (b := true) (tl [97, 47, 42]) (tl [97, 47]) (by decide) (by decide) _).mono ?_
  rintro e w14 ⟨rfl, g14⟩
  go_wp2_with fail
  refine (b_cov (p := ⟨#[97, 47, 42]⟩) (s := ⟨#[97, 47, 98, 42]⟩) (b := true) (tl [97, 47, 42]) (tl [97, 47, 98, 42]) (by decide) (by decide) (by decide) _).mono ?_
  rintro e w15 ⟨rfl, g15⟩
  go_wp2_with fail
  refine (b_cov (p := ⟨#[97, 47, 98]⟩) (s := ⟨#[97, 47, 42]⟩) (b := false) (tl [97, 47, 98]) (tl [97, 47, 42]) (by decide) (by decide) (by decide) _).mono ?_
  rintro e w16 ⟨rfl, g16⟩
  go_wp2_with fail
  refine (aw_sorted _).mono ?_
  rintro e w17 ⟨⟨o, k, c, hS, hk, rfl⟩, g17⟩
  go_wp2_with fail
  refine (aw_same o k c hk _ hS).mono ?_
  rintro e w18 ⟨rfl, g18⟩
  go_wp2_with fail
  refine (aw_has _).mono ?_
  rintro e w19 ⟨rfl, rfl⟩
  go_wp2_with fail
  refine (aw_hasNo _).mono ?_
  rintro e w20 ⟨rfl, rfl⟩
  go_wp2_with fail
  go_ret
  exact ⟨rfl, Bel.alloc (Bel.trans (Bel.alloc (Bel.trans (Bel.alloc (Bel.trans g1 (Bel.trans g2 (Bel.trans g3 (Bel.trans g4 (Bel.trans g5 (Bel.trans g6 (Bel.trans g7 (Bel.trans g8 (Bel.trans g9 (Bel.trans g10 (Bel.trans g11 (Bel.trans g12 (Bel.trans g13 (Bel.trans g14 (Bel.trans g15 (g16)))))))))))))))) _) g17) _) g18) _⟩
end Idn
end Go.Proofs.Ytgchjfdldbadlaa
