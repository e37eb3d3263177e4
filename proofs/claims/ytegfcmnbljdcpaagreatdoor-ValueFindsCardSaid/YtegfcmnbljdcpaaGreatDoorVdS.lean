/-
  Layer 6: size, as the program has it.
-/
import Derived.Test.YtegfcmnbljdcpaaGreatDoorMK
namespace Go.Proofs.YtegfcmnbljdcpaaGreatDoor
open Go.RowKit Go.ChangeShapes Go.WideShapes
namespace Val

mutual
/-- The elements of a value: of a map its keys, as strings, and its values in turns. -/
def kids : V → List V
  | .list x => kidsL x
  | .map x => kidsM x
  | .null => []
  | .bool _ => []
  | .int _ => []
  | .str _ => []
def kidsL : L → List V
  | .nil => []
  | .cons v r => v :: kidsL r
def kidsM : M → List V
  | .nil => []
  | .cons k v r => .str k :: v :: kidsM r
end
def fl (ts : List V) : List Cel := ts.flatMap flat
theorem fl_cons (v : V) (ts : List V) : fl (v :: ts) = flat v ++ fl ts := rfl
theorem fl_app (a b : List V) : fl (a ++ b) = fl a ++ fl b := by simp [fl]
theorem fl_L : ∀ x : L, fl (kidsL x) = flatL x
  | .nil => rfl
  | .cons v r => by rw [kidsL, fl_cons, fl_L r, flatL]
theorem fl_M : ∀ x : M, fl (kidsM x) = flatM x
  | .nil => rfl
  | .cons k v r => by rw [kidsM, fl_cons, fl_cons, fl_M r, flatM]; rfl
theorem kL_len : ∀ x : L, (kidsL x).length = lenL x
  | .nil => rfl
  | .cons v r => by rw [kidsL, lenL, List.length_cons, kL_len r]
theorem kM_len : ∀ x : M, (kidsM x).length = 2 * lenM x
  | .nil => rfl
  | .cons k v r => by rw [kidsM, lenM, List.length_cons, List.length_cons, kM_len r]; omega
theorem fl_len (ts : List V) : ts.length ≤ (fl ts).length := by
  induction ts with
  | nil => exact Nat.zero_le _
  | cons v ts ih =>
    have := flat_pos v
    rw [fl_cons, List.length_append, List.length_cons]
    omega
theorem flat_kids (v : V) : ∃ h : Cel, flat v = h :: fl (kids v) ∧ partsC h = ((kids v).length : Int) ∧ 0 ≤ h.n ∧ h.n ≤ ((kids v).length : Int) := by
  cases v with
  | null => exact ⟨_, rfl, rfl, by decide, by decide⟩
  | bool b => exact ⟨_, rfl, rfl, by show (0 : Int) ≤ 0; decide, by show (0 : Int) ≤ 0; decide⟩
  | int n => exact ⟨_, rfl, rfl, by show (0 : Int) ≤ 0; decide, by show (0 : Int) ≤ 0; decide⟩
  | str s => exact ⟨_, rfl, rfl, by show (0 : Int) ≤ 0; decide, by show (0 : Int) ≤ 0; decide⟩
  | list x =>
    refine ⟨⟨5, 0, [], lenL x⟩, by rw [kids, fl_L]; rfl, ?_, ?_, ?_⟩
    · rw [kids, kL_len]; rfl
    · show (0 : Int) ≤ (lenL x : Int); omega
    · rw [kids, kL_len]; exact Int.le_refl _
  | map x =>
    refine ⟨⟨6, 0, [], lenM x⟩, by rw [kids, fl_M]; rfl, ?_, ?_, ?_⟩
    · rw [kids, kM_len]
      show (if (6 : Int) = 6 then 2 * (lenM x : Int) else (lenM x : Int)) = _
      rw [if_pos rfl]
      omega
    · show (0 : Int) ≤ (lenM x : Int); omega
    · rw [kids, kM_len]
      show (lenM x : Int) ≤ _
      omega
set_option maxRecDepth 100000 in
set_option maxHeartbeats 4000000 in
theorem size_any (v : V) (l rest : List Cel) (hl : l = flat v ++ rest) (o : Option Addr) (n c : Nat) (hn : n ≤ 1000000) (w : World) (hA : CArg w o n l) :
    Calls Tryz.prog 50 #[.slice o n c] w fun e w' => e = .returned (.int .i64 ((flat v).length : Int)) ∧ Bel w w' := by
  have HA := Lib.hid hA
  have hln := hA.1
  obtain ⟨m, hm⟩ : ∃ m, (flat v).length = m := ⟨_, rfl⟩
  have H0 : Hid (l.drop 0 = fl [v] ++ rest) := Lib.hid (by rw [List.drop_zero, hl]; simp [fl])
  have hm0 : (fl [v]).length = m := by rw [← hm]; simp [fl]
  have hmn : m ≤ n := by rw [← hln, hl, List.length_append, ← hm]; omega
  rw [hm]
  have HM0 := Lib.hid hm0
  clear hA hl hm hm0
  go_enter Tryz.func50, Tryz.ntmps50
  go_wp2
  go_loopw [3, 4] (fun nn left wr => ∃ (j : Nat) (ts : List V), nn = .int .i64 (j : Int) ∧ left = .int .i64 (ts.length : Int) ∧ Hid (l.drop j = fl ts ++ rest) ∧ j + (fl ts).length = m ∧ Hid (Bel w wr)) (fun nn _ _ => m - (intOf nn).toNat)
  case atStart => exact ⟨0, [v], rfl, rfl, H0, by rw [HM0.out]; omega, Lib.hid (Bel.refl _)⟩
  case round =>
    obtain ⟨j, ts, rfl, rfl, hd, hjm, hb⟩ := hrel
    rename World => W0
    clear H0 HM0
    cases ts with
    | nil =>
      have hjm2 : j = m := by simpa [fl] using hjm
      subst hjm2
      go_wp2
      go_ret
      exact ⟨rfl, hb.out⟩
    | cons t ts =>
      obtain ⟨h, hf, hp, hh1, hh2⟩ := flat_kids t
      have htl : (t :: ts).length = ts.length + 1 := rfl
      rw [fl_cons, hf, List.length_append, List.length_cons] at hjm
      have hkl := fl_len (kids t)
      have htsl := fl_len ts
      have hjl : j < l.length := by omega
      have hdd := hd.out
      rw [fl_cons, hf, List.drop_eq_getElem_cons hjl, List.cons_append, List.cons_append] at hdd
      obtain ⟨hc, hr⟩ := List.cons.inj hdd
      have HD : Hid (l.drop (j + 1) = fl (kids t ++ ts) ++ rest) := Lib.hid (by rw [hr, fl_app])
      have HJ : Hid (j + 1 + (fl (kids t ++ ts)).length = m) := Lib.hid (by rw [fl_app, List.length_append]; omega)
      obtain ⟨b, off, rfl, hcs⟩ := (HA.out.on hb.out).2.2 (by omega)
      obtain ⟨v1, v2, v3, v4⟩ := hcs j hjl
      rw [hc] at v1 v2 v3 v4
      obtain ⟨xk, xi, xs, xn⟩ := h
      simp only at v1 v2 v3 v4 hh1 hh2
      obtain ⟨X, hX⟩ : ∃ X : ByteArray, ⟨xs.toArray⟩ = X := ⟨_, rfl⟩
      have hXl : X.toList = xs := by rw [← hX, tl]
      rw [hX] at v3
      obtain ⟨q, hq⟩ : ∃ q, (kids t).length = q := ⟨_, rfl⟩
      rw [hq] at hp hkl hh2
      have HP := Lib.hid (fun W => parts_any xk xi xn X (by omega) W)
      rw [hXl, hp] at HP
      have hq2 : (kids t ++ ts).length = q + ts.length := by rw [List.length_append, hq]
      obtain ⟨p, hpp⟩ : ∃ p, ts.length = p := ⟨_, rfl⟩
      rw [hpp] at hq2 htsl
      rw [htl, hpp]
      have HQ := Lib.hid hq2
      clear hdd hr hcs hc hd hf hX hXl hq hp hq2
      go_wp2_with fail
      refine (HP.out _).mono ?_
      rintro e w1 ⟨rfl, rfl⟩
      go_wp2
      go_round
      case rel => exact ⟨j + 1, kids t ++ ts, by go_num, by rw [HQ.out]; go_num, HD, HJ.out, Lib.hid (Bel.alloc hb.out _)⟩
      case measure => simp [intOf]; omega
end Val
end Go.Proofs.YtegfcmnbljdcpaaGreatDoor
