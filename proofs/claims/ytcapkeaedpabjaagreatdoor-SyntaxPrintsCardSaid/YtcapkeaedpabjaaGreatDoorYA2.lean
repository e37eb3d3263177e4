/-
  Layer 8, texts merged: NumK. For every argument within the bounds that each theorem names.
-/
import Derived.Test.YtcapkeaedpabjaaGreatDoorYA1
set_option maxRecDepth 100000
set_option maxHeartbeats 16000000

/-
 The decimal form of an integer is read back as that integer, and what is read is a decimal form. No program is walked here.
-/
namespace Go.Proofs.YtcapkeaedpabjaaGreatDoor
open Go.RowKit
namespace Num

def stepF (a : Nat) (c : UInt8) : Nat := a * 10 + (c.toNat - 48)
def valF : Nat → List UInt8 → Nat
 | a,[] => a
 | a,c :: r => valF (stepF a c) r
theorem valF_nil (a : Nat) : valF a [] = a := rfl
theorem valF_cons (a : Nat) (c : UInt8) (r : List UInt8) : valF a (c :: r) = valF (a * 10 + (c.toNat - 48)) r := by
 have h : stepF a c = a * 10 + (c.toNat - 48) := by unfold stepF; rfl
 rw [← h]
 rfl
theorem fold_ge : ∀ (l : List UInt8) (a : Nat),a ≤ valF a l
 | [],_ => Nat.le_refl _
 | c :: r,a => by
  have := fold_ge r (a * 10 + (c.toNat - 48))
  rw [valF_cons]; omega
theorem valF_append : ∀ (l r : List UInt8) (a : Nat),valF a (l ++ r) = valF (valF a l) r
 | [],_,_ => rfl
 | c :: l,r,a => by rw [List.cons_append,valF_cons,valF_cons,valF_append l r]
theorem scan_eq : ∀ (l : List UInt8) (a : Nat),a ≤ 1000000000000 → scan a l = if valF a l ≤ 1000000000000 then some (valF a l) else none
 | [],a,h => by rw [scan,valF_nil,if_pos h]
 | c :: r,a,h => by
  rw [scan,valF_cons]
  split
  ·rename_i h1
   exact scan_eq r _ h1
  ·rename_i h1
   have := fold_ge r (a * 10 + (c.toNat - 48))
   rw [if_neg (by omega)]
theorem dgt_nat {d : Nat} (h : d < 10) : (dgt d).toNat = 48 + d := by
 show (UInt8.ofNat (48 + d)).toNat = _
 rw [UInt8.toNat_ofNat']
 exact Nat.mod_eq_of_lt (by omega)
theorem dgt_dig {d : Nat} (h : d < 10) : isDig (dgt d) = true := by
 apply dig_of <;> rw [dgt_nat h] <;> omega
theorem fold_digs : ∀ (k n : Nat),valF 0 (digs k n) = n % 10 ^ k
 | 0,n => by simp [digs,valF_nil]; omega
 | k + 1,n => by
  rw [digs,valF_append,fold_digs k (n / 10),valF_cons,valF_nil,dgt_nat (Nat.mod_lt _ (by decide)),Nat.pow_succ,Nat.mul_comm (10 ^ k) 10,Nat.mod_mul]
  omega
theorem digs_all : ∀ (k n : Nat),(digs k n).all isDig = true
 | 0,_ => rfl
 | k + 1,n => by
  rw [digs,List.all_append,digs_all k (n / 10)]
  simp [dgt_dig (Nat.mod_lt n (by decide : 0 < 10))]
theorem lt_ndF : ∀ (f n : Nat),n < 10 ^ (f + 1) → n < 10 ^ ndF f n
 | 0,n,h => h
 | f + 1,n,h => by
  rw [ndF]
  split
  ·omega
  ·have := lt_ndF f (n / 10) (by rw [Nat.pow_succ] at h; omega)
   rw [Nat.pow_succ]
   omega
theorem digs_head : ∀ (f n : Nat),n < 10 ^ (f + 1) → 1 ≤ n → ∃ c r,digs (ndF f n) n = c :: r ∧ c ≠ 48 ∧ isDig c = true
 | 0,n,h,h1 => by
  refine ⟨dgt (n % 10),[],rfl,?_,dgt_dig (Nat.mod_lt _ (by decide))⟩
  intro e
  have := congrArg UInt8.toNat e
  rw [dgt_nat (Nat.mod_lt _ (by decide))] at this
  have : (48 : UInt8).toNat = 48 := rfl
  omega
 | f + 1,n,h,h1 => by
  rw [ndF]
  split
  ·refine ⟨dgt (n % 10),[],rfl,?_,dgt_dig (Nat.mod_lt _ (by decide))⟩
   intro e
   have := congrArg UInt8.toNat e
   rw [dgt_nat (Nat.mod_lt _ (by decide))] at this
   have : (48 : UInt8).toNat = 48 := rfl
   omega
  ·obtain ⟨c,r,e,h2,h3⟩ := digs_head f (n / 10) (by rw [Nat.pow_succ] at h; omega) (by omega)
   exact ⟨c,r ++ [dgt (n % 10)],by rw [digs,e]; rfl,h2,h3⟩
theorem decB_digs (n : Nat) (h : n < 10 ^ 19) : decB (digs (ndF 18 n) n) = true := by
 by_cases h1 : 1 ≤ n
 ·obtain ⟨c,r,e,h2,h3⟩ := digs_head 18 n h h1
  rw [decB,digs_all,e]
  have : (some c != some (48 : UInt8)) = true := by simpa using h2
  simp [this]
 ·obtain rfl : n = 0 := by omega
  rfl

theorem scan_digs (n : Nat) (h : n < 10 ^ 19) : scan 0 (digs (ndF 18 n) n) = if n ≤ 1000000000000 then some n else none := by
 rw [scan_eq _ _ (by decide),fold_digs,Nat.mod_eq_of_lt (lt_ndF 18 n h)]

theorem notneg_digs (n : Nat) : negL (digs (ndF 18 n) n) = false := by
 have h1 := digs_all (ndF 18 n) n
 have h2 := digs_len (ndF 18 n) n
 have h3 := ndF_pos 18 n
 rcases h : digs (ndF 18 n) n with _ | ⟨c,r⟩
 ·rw [h] at h2; simp at h2; omega
 ·rw [h] at h1
  have hc : isDig c = true := by simp at h1; exact h1.1
  rw [negL,prefix45,beq_eq_false_iff_ne]
  intro e
  rw [e] at hc
  exact absurd hc (by decide)

theorem parse_fmt (n : Int) (h1 : -9223372036854775808 ≤ n) (h2 : n ≤ 9223372036854775807) :
  parV (fmtL n) = (if vld n then n else 0) ∧ parE (fmtL n) = (if vld n then 0 else 2) := by
 by_cases hn : n < 0
 ·have hf : fmtL n = 45 :: digs (ndF 18 (-n).toNat) (-n).toNat := by rw [fmtL,if_pos hn,abz_neg hn]; rfl
  obtain ⟨N,hN⟩ := Int.eq_ofNat_of_zero_le (a := -n) (by omega)
  rw [hN,Int.toNat_natCast] at hf
  have hlt : N < 10 ^ 19 := by omega
  have hneg : negL (fmtL n) = true := by rw [hf,negL,prefix45]; rfl
  have hbody : bodyL (fmtL n) = digs (ndF 18 N) N := by
   have : Lib.hasPrefix (fmtL n) [45] = true := hneg
   rw [bodyL,Lib.trimPrefix,this,hf]; rfl
  have hne : (digs (ndF 18 N) N == [48]) = false := by
   obtain ⟨c,r,e,h2,_⟩ := digs_head 18 N hlt (by omega)
   rw [e,beq_eq_false_iff_ne]
   intro h
   injection h with h
   exact h2 h
  have hok : okL (fmtL n) = true := by rw [okL,hneg,hbody,decB_digs N hlt,hne]; rfl
  rw [parV,parE,hok,hneg,hbody,scan_digs N hlt]
  by_cases g : N ≤ 1000000000000
  ·have hv : vld n = true := vld_of (by omega) (by omega)
   rw [hv,if_pos g]
   exact ⟨by show -(N : Int) = n; omega,rfl⟩
  ·have hv : vld n = false := vld_not (by omega)
   rw [hv,if_neg g]
   exact ⟨rfl,rfl⟩
 ·have hf : fmtL n = digs (ndF 18 n.toNat) n.toNat := by rw [fmtL,if_neg hn,abz_pos hn]; rfl
  obtain ⟨N,rfl⟩ := Int.eq_ofNat_of_zero_le (a := n) (by omega)
  rw [Int.toNat_natCast] at hf
  have hlt : N < 10 ^ 19 := by omega
  have hneg : negL (fmtL N) = false := by rw [hf]; exact notneg_digs N
  have hbody : bodyL (fmtL N) = digs (ndF 18 N) N := by
   have : Lib.hasPrefix (fmtL N) [45] = false := hneg
   rw [bodyL,Lib.trimPrefix,this,hf]; rfl
  have hok : okL (fmtL N) = true := by rw [okL,hneg,hbody,decB_digs N hlt]; rfl
  rw [parV,parE,hok,hneg,hbody,scan_digs N hlt]
  by_cases g : N ≤ 1000000000000
  ·have hv : vld (N : Int) = true := vld_of (by omega) (by omega)
   rw [hv,if_pos g]
   exact ⟨rfl,rfl⟩
  ·have hv : vld (N : Int) = false := vld_not (by omega)
   rw [hv,if_neg g]
   exact ⟨rfl,rfl⟩

theorem dgt_back {c : UInt8} (h : isDig c = true) : dgt (c.toNat - 48) = c := by
 have := dig_bd h
 apply UInt8.toNat_inj.1
 rw [dgt_nat (by omega)]
 omega

theorem digs_fold : ∀ (f : Nat) (b : List UInt8),b.all isDig = true → b ≠ [] → b.head? ≠ some 48 → valF 0 b < 10 ^ (f + 1) → digs (ndF f (valF 0 b)) (valF 0 b) = b ∧ 1 ≤ valF 0 b := by
 intro f
 induction f with
 | zero =>
  intro b ha hne hh hlt
  rcases List.eq_nil_or_concat b with rfl | ⟨b',c,rfl⟩
  ·exact absurd rfl hne
  ·rw [List.concat_eq_append] at *
   rw [List.all_append,Bool.and_eq_true] at ha
   have hc : isDig c = true := by simpa using ha.2
   have hb := dig_bd hc
   rw [valF_append,valF_cons,valF_nil] at hlt ⊢
   rcases b' with _ | ⟨x,r⟩
   ·have hc48 : c ≠ 48 := by simpa using hh
    have hcn : c.toNat ≠ 48 := fun e => hc48 (UInt8.toNat_inj.1 (e.trans rfl))
    have e : (0 * 10 + (c.toNat - 48)) % 10 = c.toNat - 48 := by omega
    refine ⟨?_,by show 1 ≤ 0 * 10 + (c.toNat - 48); omega⟩
    show [dgt ((0 * 10 + (c.toNat - 48)) % 10)] = [c]
    rw [e,dgt_back hc]
   ·exfalso
    have hx : x ≠ 48 := by simpa using hh
    have hxd : isDig x = true := by simp at ha; exact ha.1.1
    have hxb := dig_bd hxd
    have hxn : x.toNat ≠ 48 := fun e => hx (UInt8.toNat_inj.1 (e.trans rfl))
    have h1 := fold_ge r (0 * 10 + (x.toNat - 48))
    rw [valF_cons] at hlt
    omega
 | succ f ih =>
  intro b ha hne hh hlt
  rcases List.eq_nil_or_concat b with rfl | ⟨b',c,rfl⟩
  ·exact absurd rfl hne
  ·rw [List.concat_eq_append] at *
   rw [List.all_append,Bool.and_eq_true] at ha
   have hc : isDig c = true := by simpa using ha.2
   have hb := dig_bd hc
   rw [valF_append,valF_cons,valF_nil] at hlt ⊢
   rcases b' with _ | ⟨x,r⟩
   ·have hc48 : c ≠ 48 := by simpa using hh
    have hcn : c.toNat ≠ 48 := fun e => hc48 (UInt8.toNat_inj.1 (e.trans rfl))
    have e : (0 * 10 + (c.toNat - 48)) % 10 = c.toNat - 48 := by omega
    refine ⟨?_,by show 1 ≤ 0 * 10 + (c.toNat - 48); omega⟩
    show digs (ndF (f + 1) (0 * 10 + (c.toNat - 48))) (0 * 10 + (c.toNat - 48)) = [c]
    rw [ndF,if_pos (by omega)]
    show [dgt ((0 * 10 + (c.toNat - 48)) % 10)] = [c]
    rw [e,dgt_back hc]
   ·have hlt' : valF 0 (x :: r) < 10 ^ (f + 1) := by
     rw [Nat.pow_succ] at hlt; omega
    obtain ⟨h1,h2⟩ := ih (x :: r) ha.1 (by simp) (by simpa using hh) hlt'
    generalize valF 0 (x :: r) = F at *
    refine ⟨?_,by omega⟩
    rw [ndF,if_neg (by omega),digs,show (F * 10 + (c.toNat - 48)) / 10 = F from by omega,show (F * 10 + (c.toNat - 48)) % 10 = c.toNat - 48 from by omega,h1,dgt_back hc]

theorem fmt_parse (l : List UInt8) (h : parE l = 0) : vld (parV l) = true ∧ fmtL (parV l) = l := by
 unfold parE at h
 cases hok : okL l
 ·rw [hok] at h; simp at h
 rw [hok,if_pos rfl] at h
 rw [parV,hok,if_pos rfl]
 rw [scan_eq _ _ (by decide)] at h ⊢
 by_cases g : valF 0 (bodyL l) ≤ 1000000000000
 ·rw [if_pos g]
  have hdec : decB (bodyL l) = true ∧ (negL l && bodyL l == [48]) = false := by
   rw [okL,Bool.and_eq_true,Bool.not_eq_true'] at hok
   exact hok
  obtain ⟨hd,hz⟩ := hdec
  rw [decB,Bool.and_eq_true] at hd
  have hcase : (bodyL l = [48] ∧ digs (ndF 18 (valF 0 (bodyL l))) (valF 0 (bodyL l)) = bodyL l ∧ valF 0 (bodyL l) = 0) ∨ (digs (ndF 18 (valF 0 (bodyL l))) (valF 0 (bodyL l)) = bodyL l ∧ 1 ≤ valF 0 (bodyL l)) := by
   rcases Bool.or_eq_true _ _ ▸ hd.2 with h1 | h1
   ·have e : bodyL l = [48] := by simpa using h1
    left
    rw [e]
    exact ⟨rfl,rfl,rfl⟩
   ·right
    rw [Bool.and_eq_true] at h1
    exact digs_fold 18 (bodyL l) hd.1 (by simpa using h1.1) (by simpa using h1.2) (by omega)
  cases hn : negL l
  ·have hb : bodyL l = l := by
    have : Lib.hasPrefix l [45] = false := hn
    rw [bodyL,Lib.trimPrefix,this]; rfl
   have hdg : digs (ndF 18 (valF 0 (bodyL l))) (valF 0 (bodyL l)) = bodyL l := by
    rcases hcase with h1 | h1
    ·exact h1.2.1
    ·exact h1.1
   refine ⟨vld_of (by show (-1000000000000 : Int) ≤ (valF 0 (bodyL l) : Nat); omega) (by show ((valF 0 (bodyL l) : Nat) : Int) ≤ _; omega),?_⟩
   show fmtL ((valF 0 (bodyL l) : Nat) : Int) = l
   rw [fmtL,if_neg (by omega),abz_pos (by omega),Int.toNat_natCast,hdg,hb]
   rfl
  ·have hb : l = 45 :: bodyL l := by
    have hp : Lib.hasPrefix l [45] = true := hn
    rcases l with _ | ⟨a,r⟩
    ·exact absurd hp (by decide)
    ·have ha : a = 45 := by
      rw [prefix45] at hp
      simpa using hp
     rw [bodyL,Lib.trimPrefix,hp,ha]
     rfl
   rw [hn,Bool.true_and] at hz
   have hz' : bodyL l ≠ [48] := by simpa using hz
   obtain ⟨h1,h2⟩ := hcase.resolve_left fun h => hz' h.1
   refine ⟨vld_of (by show (-1000000000000 : Int) ≤ -((valF 0 (bodyL l) : Nat) : Int); omega) (by show -((valF 0 (bodyL l) : Nat) : Int) ≤ _; omega),?_⟩
   show fmtL (-((valF 0 (bodyL l) : Nat) : Int)) = l
   rw [fmtL,if_pos (by omega),abz_neg (by omega),Int.neg_neg,Int.toNat_natCast,h1]
   exact hb.symm
 ·rw [if_neg g] at h
  exact absurd h (by decide)

end Num
end Go.Proofs.YtcapkeaedpabjaaGreatDoor
