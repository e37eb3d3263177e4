/-
  strconv.ParseUint at base 16, and Unhex.
-/
import Derived.Test.YtkdahjaflgebiaaDoorHshF
import Derived.Test.YtkdahjaflgebiaaDoorShelf
namespace Go.Proofs.YtkdahjaflgebiaaDoor
open Go.RowKit
namespace Hsh

theorem ipu_any (t : ByteArray) (hmax : t.size ≤ 9223372036854775806) (w : World) :
    Calls Tryd.prog 46 #[.string t, .int .i64 16, .int .i64 64] w fun e w' => PuEnds t.data.toList e ∧ Bel w w' := by
  by_cases h0 : t.size = 0
  · have ht : t = ⟨#[]⟩ := by
      obtain ⟨⟨l⟩⟩ := t
      cases l with
      | nil => rfl
      | cons _ _ => simp [ByteArray.size] at h0
    subst ht
    exact ipu_empty w
  · exact (ipu_some t h0 hmax w).mono fun e w' k => ⟨k.1, k.2.out ▸ Lib.bytesWorld_below w 5 t⟩
/-- How strconv.ParseUint ends at base 16, 64 bits. -/
def SpuEnds (l : List UInt8) (e : Ending) : Prop :=
  (∃ n : Nat, pu l = some n ∧ n < 18446744073709551616 ∧ e = .returned (.tuple #[.int .u64 (n : Int), .nilIface])) ∨
  (pu l = none ∧ ∃ (v : Int) (N : Nat), e = .returned (.tuple #[.int .u64 v, .iface 94 (.pointer (some ⟨N, 0, none⟩))]))
def fnPU : ByteArray := ⟨#[80, 97, 114, 115, 101, 85, 105, 110, 116]⟩
theorem spu_any (s : ByteArray) (hs : s.size ≤ 281474976710656) (w : World) (hL : Lad w) :
    Calls Tryd.prog 32 #[.string s, .int .i64 16, .int .i64 64] w fun e w' => SpuEnds s.data.toList e ∧ Bel w w' := by
  have hc := Lib.hid (ipu_any s (by omega) w)
  go_enter Tryd.func32, Tryd.ntmps32
  go_wp2_with fail
  refine hc.out.mono ?_
  rintro e w1 ⟨hp, g1⟩
  rcases hp with ⟨n, p1, p2, rfl⟩ | ⟨p1, rfl | rfl⟩
  · have P := Lib.hid p1
    have P2 := Lib.hid p2
    clear p1 p2
    go_wp2_with fail
    go_ret2
    exact ⟨Or.inl ⟨n, P.out, P2.out, rfl⟩, g1⟩
  · have P := Lib.hid p1
    clear p1
    obtain ⟨tp, p, he⟩ := (hL.on g1).es
    have ht := Lib.hid (Tryd.strconv_toError_syntax fnPU s 16 64 _ w1 hs he (Or.inr ⟨_, _, rfl⟩))
    go_wp2_with fail
    refine ht.out.mono ?_
    rintro e w2 ⟨N, rfl, -, -, g2⟩
    go_wp2_with fail
    go_ret2
    exact ⟨Or.inr ⟨P.out, 0, N, rfl⟩, Bel.trans g1 g2⟩
  · have P := Lib.hid p1
    clear p1
    obtain ⟨tp, p, he⟩ := (hL.on g1).er
    have ht := Lib.hid (Tryd.strconv_toError_range fnPU s 16 64 _ w1 hs he (Or.inr ⟨_, _, rfl⟩))
    go_wp2_with fail
    refine ht.out.mono ?_
    rintro e w2 ⟨N, rfl, -, -, g2⟩
    go_wp2_with fail
    go_ret2
    exact ⟨Or.inr ⟨P.out, 18446744073709551615, N, rfl⟩, Bel.trans g1 g2⟩

theorem digU_of_digV {c : Nat} (h : ¬ digV c < 0) : digU c = digV c := by
  unfold digV at h ⊢
  unfold digU
  by_cases h1 : 48 ≤ c ∧ c ≤ 57
  · rw [if_pos h1, if_pos h1]
  · rw [if_neg h1] at h ⊢
    rw [if_neg h1]
    by_cases h2 : 97 ≤ c ∧ c ≤ 102
    · rw [if_pos h2, if_pos h2]
    · rw [if_neg h2] at h
      omega
theorem puF_of_unF : ∀ (l : List UInt8) (a n k : Nat), a < 16 ^ k → k + l.length ≤ 16 → unF a l = some n → puF a l = some n
  | [], a, n, k, _, _, h => h
  | c :: r, a, n, k, ha, hk, h => by
    have hk' : k + r.length + 1 ≤ 16 := by simpa [Nat.add_assoc] using hk
    rw [unF] at h
    split at h
    · cases h
    · rename_i hneg
      have hb := digV_bd c.toNat
      have hd := digU_of_digV hneg
      have ha2 := pow16 (show k < 16 by omega) ha
      rw [puF, if_neg (by omega), if_neg (by omega), hd]
      exact puF_of_unF r _ n (k + 1) (pow16s ha (by omega)) (by omega) h
theorem pu_of_unh {l : List UInt8} {n : Nat} (h : unh l = some n) : pu l = some n := by
  unfold unh at h
  split at h
  · rename_i h16
    unfold pu
    rw [if_neg (by intro e; rw [e] at h16; simp at h16)]
    exact puF_of_unF l 0 n 0 (by omega) (by omega) h
  · cases h
theorem unhex_core (s : ByteArray) (_hs : s.size ≤ maxLen) (w : World) (hL : Lad w) (hp : Hid (Calls Tryd.prog 32 #[.string s, .int .i64 16, .int .i64 64] w fun e w' => SpuEnds s.data.toList e ∧ Bel w w'))
    (hx : Hid (∀ n : Nat, n < 18446744073709551616 → Tells 17 #[.int .u64 (n : Int)] (.returned (.string ⟨(hexL n).toArray⟩)))) :
    Calls Tryd.prog 18 #[.string s] w fun e w' => e = .returned (.tuple #[.int .u64 (unhV s.toList : Int), .int .i64 (unhE s.toList)]) ∧ Bel w w' := by
  have es : s.toList = s.data.toList := toL s
  go_enter Tryd.func18, Tryd.ntmps18
  go_wp2_with fail
  refine hp.out.mono ?_
  rintro e w1 ⟨he, g1⟩
  have L1 := hL.on g1
  rcases he with ⟨n, p1, p2, rfl⟩ | ⟨p1, v, N, rfl⟩
  · have hh := Lib.hid (hx.out n p2 w1 L1)
    cases hu : unh s.toList with
    | none =>
      have hz : unhV s.toList = 0 ∧ unhE s.toList = 1 := by unfold unhV unhE; rw [hu]; exact ⟨rfl, rfl⟩
      have hne : (⟨(hexL n).toArray⟩ : ByteArray) ≠ s := by
        intro e
        have := unh_hex p2
        rw [← tl (hexL n), e, hu] at this
        cases this
      have HZ := Lib.hid hz
      obtain ⟨x, hX⟩ : ∃ x : ByteArray, ⟨(hexL n).toArray⟩ = x := ⟨_, rfl⟩
      rw [hX] at hne hh
      have hb : (x.toList == s.toList) = false := by
        rw [beq_eq_false_iff_ne]
        intro e
        rw [toL, toL] at e
        exact hne (ByteArray.ext (Array.toList_inj.1 e))
      clear hz hu p1 es hX hx hp hne
      go_wp2_with fail
      refine hh.out.mono ?_
      rintro e w2 ⟨rfl, g2⟩
      go_wp2_with fail
      go_ret2
      exact ⟨by rw [HZ.out.1, HZ.out.2]; rfl, Bel.trans g1 g2⟩
    | some m =>
      have h1 := pu_of_unh hu
      rw [es, p1] at h1
      obtain rfl := Option.some.inj h1
      have hz : unhV s.toList = n ∧ unhE s.toList = 0 := by unfold unhV unhE; rw [hu]; exact ⟨rfl, rfl⟩
      have hX : (⟨(hexL n).toArray⟩ : ByteArray) = s := by
        have := (hex_unh hu).1
        rw [this, es]
      rw [hX] at hh
      have HZ := Lib.hid hz
      clear hz hu p1 es hX hx hp h1
      go_wp2_with fail
      refine hh.out.mono ?_
      rintro e w2 ⟨rfl, g2⟩
      go_wp2_with fail
      go_ret2
      exact ⟨by rw [HZ.out.1, HZ.out.2]; rfl, Bel.trans g1 g2⟩
  · have hu : unh s.toList = none := by
      cases hu : unh s.toList with
      | none => rfl
      | some m =>
        have := pu_of_unh hu
        rw [es, p1] at this
        cases this
    have hz : unhV s.toList = 0 ∧ unhE s.toList = 1 := by unfold unhV unhE; rw [hu]; exact ⟨rfl, rfl⟩
    have HZ := Lib.hid hz
    clear hz hu p1 es hx hp
    go_wp2_with fail
    go_ret2
    exact ⟨by rw [HZ.out.1, HZ.out.2]; rfl, g1⟩
theorem maxLen_lt {s : ByteArray} (hs : s.size ≤ 140737488355328) : s.size ≤ maxLen := by unfold maxLen; omega
theorem unhex_any (s : ByteArray) (hs : s.size ≤ 140737488355328) : Tells 18 #[.string s] (.returned (.tuple #[.int .u64 (unhV s.toList : Int), .int .i64 (unhE s.toList)])) := fun W h =>
  unhex_core s (maxLen_lt hs) W h (Lib.hid (spu_any s (by omega) W h)) (Lib.hid hex_any)
end Hsh
end Go.Proofs.YtkdahjaflgebiaaDoor
