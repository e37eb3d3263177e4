/-
  Layer 8, texts merged: NumA, NumE, NumF, NumG, NumH, NumI, NumJ. For every argument within the bounds that each theorem names.
-/
import Derived.Test.YtcapkeaedpabjaaGreatDoorRows
import Derived.WalkKit
import Derived.Lib.Hide
import Derived.Deep.QuietTactic
import Derived.BigQuiet
import Derived.RowKit3
import Derived.Laws.IdiomStrings
import Derived.ShutString
import Derived.Deep.OwnRows
import Derived.Below
import Derived.Test.YtcapkeaedpabjaaGreatDoorShelf
set_option maxRecDepth 100000
set_option maxHeartbeats 16000000

/-
 Contracts of the plain functions of package num and of its reference: which integer or error each one returns.
-/
namespace Go.Proofs.YtcapkeaedpabjaaGreatDoor
open Go.RowKit
namespace Num

def vld (n : Int) : Bool := decide (-1000000000000 ≤ n ∧ n ≤ 1000000000000)
theorem vld_of {n : Int} (h1 : -1000000000000 ≤ n) (h2 : n ≤ 1000000000000) : vld n = true := decide_eq_true ⟨h1,h2⟩
theorem vld_not {n : Int} (h : ¬ (-1000000000000 ≤ n ∧ n ≤ 1000000000000)) : vld n = false := decide_eq_false h

theorem valid_any (n : Int) (w : World) :
  Calls Tryz.prog 231 #[.int .i64 n] w fun e w' => e = .returned (.bool (vld n)) ∧ w = w' := by
 unfold vld
 by_cases h1 : -1000000000000 ≤ n
 ·go_enter Tryz.func231,Tryz.ntmps231
  go_wp2
  go_ret
  exact ⟨by simp [h1],rfl⟩
 ·have h1' : n < -1000000000000 := by omega
  go_enter Tryz.func231,Tryz.ntmps231
  go_wp2
  go_ret
  exact ⟨by simp; omega,rfl⟩
theorem rvalid_any (n : Int) (w : World) :
  Calls Tryz.prog 195 #[.int .i64 n] w fun e w' => e = .returned (.bool (vld n)) ∧ w = w' := by
 unfold vld
 by_cases h1 : -1000000000000 ≤ n
 ·go_enter Tryz.func195,Tryz.ntmps195
  go_wp2
  go_ret
  exact ⟨by simp [h1],rfl⟩
 ·have h1' : n < -1000000000000 := by omega
  go_enter Tryz.func195,Tryz.ntmps195
  go_wp2
  go_ret
  exact ⟨by simp; omega,rfl⟩
def pair (n e : Int) : Ending := .returned (.tuple #[.int .i64 n,.int .i64 e])
def chkE (n : Int) : Int := if vld n then 0 else 8
def abz (n : Int) : Int := if n < 0 then -n else n
theorem abz_neg {n : Int} (h : n < 0) : abz n = -n := if_pos h
theorem abz_pos {n : Int} (h : ¬ n < 0) : abz n = n := if_neg h
theorem amount_any (n : Int) (h1 : -9223372036854775808 ≤ n) (h2 : n ≤ 9223372036854775807) (w : World) :
  Calls Tryz.prog 273 #[.int .i64 n] w fun e w' => e = .returned (.int .u64 (abz n)) ∧ w = w' := by
 by_cases h : n < 0
 ·rw [abz_neg h]
  go_enter Tryz.func273,Tryz.ntmps273
  go_wp2
  go_ret
  refine ⟨?_,rfl⟩
  have e : IntKind.u64.wrap (-IntKind.u64.wrap n) = -n := by rw [IntKind.wrap_u64,IntKind.wrap_u64]; omega
  simp [e]
 ·rw [abz_pos h]
  go_enter Tryz.func273,Tryz.ntmps273
  go_wp2
  go_ret
  exact ⟨by simp,rfl⟩

def ndF : Nat → Nat → Nat
 | 0,_ => 1
 | f + 1,n => if n < 10 then 1 else ndF f (n / 10) + 1
def dgt (d : Nat) : UInt8 := UInt8.ofNat (48 + d)
def digs : Nat → Nat → List UInt8
 | 0,_ => []
 | k + 1,n => digs k (n / 10) ++ [dgt (n % 10)]
theorem digs_len : ∀ k n,(digs k n).length = k
 | 0,_ => rfl
 | k + 1,n => by simp [digs,digs_len k]
theorem ndF_pos : ∀ f n,1 ≤ ndF f n
 | 0,_ => Nat.le_refl _
 | f + 1,n => by unfold ndF; split <;> omega
theorem ndF_le : ∀ f n,ndF f n ≤ f + 1
 | 0,_ => Nat.le_refl _
 | f + 1,n => by have := ndF_le f (n / 10); unfold ndF; split <;> omega

theorem countDigits_any (N : Nat) (hN : N < 18446744073709551616) (w : World) :
  Calls Tryz.prog 274 #[.int .u64 (N : Int)] w fun e w' => e = .returned (.int .i64 (ndF 18 N : Int)) ∧ w = w' := by
 go_enter Tryz.func274,Tryz.ntmps274
 go_wp2
 go_loop [0,4] (fun m i => ∃ (a k f : Nat),m = .int .u64 (a : Int) ∧ i = .int .i64 (k : Int) ∧ k ≤ 18 ∧ a < 18446744073709551616 ∧ k + f = 18 ∧ Hid (ndF 18 N = k + ndF f a)) (fun _ i => 18 - (intOf i).toNat)
 case atStart => exact ⟨N,0,18,rfl,rfl,by omega,hN,rfl,Lib.hid (by omega)⟩
 case round =>
  obtain ⟨a,k,f,rfl,rfl,hk,ha,hf,hr⟩ := hrel
  by_cases g : k < 18
  ·obtain ⟨f,rfl⟩ : ∃ f',f = f' + 1 := ⟨f - 1,by omega⟩
   have hf' : k + f + 1 = 18 := by omega
   clear hf
   have Hf := Lib.hid hf'
   clear hf'
   by_cases g2 : a < 10
   ·have hr' : Hid (ndF 18 N = k + 1) := Lib.hid (by rw [hr.out,ndF,if_pos g2])
    go_wp2
    go_ret
    exact ⟨by rw [hr'.out]; rfl,rfl⟩
   ·have hr' : Hid (ndF 18 N = (k + 1) + ndF f (a / 10)) := Lib.hid (by rw [hr.out,ndF,if_neg g2]; omega)
    go_wp2
    go_round
    case rel => exact ⟨a / 10,k + 1,f,by go_num,by go_num,by omega,by omega,by have := Hf.out; omega,hr'⟩
    case measure => simp [intOf]; omega
  ·obtain rfl : k = 18 := by omega
   obtain rfl : f = 0 := by omega
   clear hf
   have hr' : Hid (ndF 18 N = 19) := Lib.hid (by rw [hr.out]; rfl)
   go_wp2
   go_ret
   exact ⟨by rw [hr'.out]; rfl,rfl⟩

theorem digs_get : ∀ (k n i : Nat),i < k → (digs k n).getD (k - 1 - i) 0 = dgt (n / 10 ^ i % 10)
 | 0,_,_,h => by omega
 | k + 1,n,0,_ => by simp [digs,digs_len]
 | k + 1,n,i + 1,h => by
  have e : k + 1 - 1 - (i + 1) = k - 1 - i := by omega
  have hl : k - 1 - i < (digs k (n / 10)).length := by rw [digs_len]; omega
  rw [e,digs,List.getD_eq_getElem?_getD,List.getElem?_append_left hl,← List.getD_eq_getElem?_getD,digs_get k (n / 10) i (by omega),Nat.div_div_eq_div_mul,← Nat.pow_succ']
def rowF (K N i : Nat) (j : Nat) : Value := if j < K - i then .int .u8 0 else .int .u8 (((digs K N).getD j 0).toNat : Int)

theorem info8 : (Tryz.prog.info? 5).map (fun i => (i.zero,i.size,i.bytes)) = some (some (.int .u8 0),1,1) := by kernel_rfl

def fmtL (n : Int) : List UInt8 := (if n < 0 then [45] else []) ++ digs (ndF 18 (abz n).toNat) (abz n).toNat

def Left (D : List UInt8) (a : Nat) (s : List UInt8) : Prop :=
 (a = 0 ∧ s ≠ [] ∧ s = D) ∨ (∃ f,(a ≠ 0 ∨ s = []) ∧ a < 10 ^ (f + 1) ∧ digs (ndF f a) a ++ s = D)
theorem Left.start {N : Nat} (h : N < 10 ^ 19) : Left (digs (ndF 18 N) N) N [] := Or.inr ⟨18,Or.inr rfl,h,by simp⟩
theorem Left.step {D s : List UInt8} {a : Nat} (h : Left D a s) (g : a ≠ 0 ∨ s = []) : Left D (a / 10) (dgt (a % 10) :: s) := by
 rcases h with ⟨h1,h2,h3⟩ | ⟨f,h1,h2,h3⟩
 ·rcases g with g | g
  ·exact absurd h1 g
  ·exact absurd g h2
 ·by_cases ha : a < 10
  ·refine Or.inl ⟨by omega,by simp,?_⟩
   have e : digs (ndF f a) a = [dgt (a % 10)] := by
    cases f with
    | zero => simp [ndF,digs]
    | succ f => simp [ndF,ha,digs]
   rw [e] at h3
   exact h3
  ·cases f with
   | zero => simp at h2; omega
   | succ f =>
    refine Or.inr ⟨f,Or.inl (by omega),?_,?_⟩
    ·rw [Nat.pow_succ] at h2; omega
    ·rw [ndF,if_neg ha,digs,List.append_assoc] at h3
     exact h3
theorem Left.done {D s : List UInt8} {a : Nat} (h : Left D a s) (g : ¬ (a ≠ 0 ∨ s = [])) : s = D := by
 rcases h with ⟨h1,h2,h3⟩ | ⟨f,h1,h2,h3⟩
 ·exact h3
 ·exact absurd h1 g
theorem Left.len {D s : List UInt8} {a : Nat} (h : Left D a s) : s.length ≤ D.length := by
 rcases h with ⟨h1,h2,h3⟩ | ⟨f,h1,h2,h3⟩
 ·rw [h3]; exact Nat.le_refl _
 ·rw [← h3]; simp

theorem extract_dig : ∀ d : Fin 10,(ByteArray.extract ⟨#[48,49,50,51,52,53,54,55,56,57]⟩ d.val (d.val + 1)) = ⟨#[dgt d.val]⟩ := by decide +kernel
theorem slice_dig (d : Nat) (h : d < 10) (W : World) : (Instr.slice 9 (.string ⟨#[48,49,50,51,52,53,54,55,56,57]⟩) (some (.int .i64 (d : Int))) (some (.int .i64 ((d : Int) + 1))) none).run Tryz.prog W = .ok (.string ⟨#[dgt d]⟩) W := by
 have := run_slice_string (P := Tryz.prog) W 9 ⟨#[48,49,50,51,52,53,54,55,56,57]⟩ .i64 .i64 (d : Int) ((d : Int) + 1) Tryz.underlying9 (by omega) (by omega) (by show (d : Int) + 1 ≤ ((10 : Nat) : Int); omega)
 rw [this]
 have e : ((d : Int) + 1).toNat = d + 1 := by omega
 rw [Int.toNat_natCast,e,extract_dig ⟨d,h⟩]
def emp : Value → Nat
 | .string s => 1 - s.size
 | _ => 0

theorem rformat_pos (N : Nat) (h2 : N ≤ 9223372036854775807) (w : World) :
  Calls Tryz.prog 196 #[.int .i64 (N : Int)] w fun e w' => e = .returned (.string ⟨(digs (ndF 18 N) N).toArray⟩) ∧ w = w' := by
 have hst := Lib.hid (Left.start (N := N) (by omega))
 have hD : (digs (ndF 18 N) N).length ≤ 19 := by rw [digs_len]; exact ndF_le 18 N
 generalize digs (ndF 18 N) N = D at *
 go_enter Tryz.func196,Tryz.ntmps196
 go_wp2
 go_loop [4,5] (fun s m => ∃ (a : Nat) (t : List UInt8),s = .string ⟨t.toArray⟩ ∧ m = .int .i64 (a : Int) ∧ a ≤ 9223372036854775807 ∧ Hid (Left D a t)) (fun s m => (intOf m).toNat + emp s)
 case atStart => exact ⟨N,[],rfl,rfl,h2,hst⟩
 case round =>
  obtain ⟨a,t,rfl,rfl,ha,hl⟩ := hrel
  have hlen := hl.out.len
  have hlen' : t.length ≤ 19 := by omega
  have hsl := slice_dig (a % 10) (by omega)
  rw [show ((a % 10 : Nat) : Int) = (a : Int) % 10 from by omega] at hsl
  by_cases g : a = 0
  ·subst g
   by_cases g2 : t = []
   ·subst g2
    have hn := Lib.hid (hl.out.step (Or.inr rfl))
    go_wp2
    go_round
    case rel => exact ⟨0,[dgt 0],congrArg Value.string (ByteArray.ext (by simp [dgt])),rfl,by omega,hn⟩
    case measure => simp [intOf,emp]; decide
   ·have hd := Lib.hid (hl.out.done (by simp [g2]))
    have g3 : t.isEmpty = false := by simp [g2]
    go_wp2
    go_ret
    exact ⟨by rw [hd.out]; rfl,rfl⟩
  ·have g1 : 1 ≤ a := by omega
   have hn := Lib.hid (hl.out.step (Or.inl g))
   go_wp2
   go_round
   case rel => exact ⟨a / 10,dgt (a % 10) :: t,congrArg Value.string (ByteArray.ext (by simp)),by go_num,by omega,hn⟩
   case measure => simp [intOf,emp]; omega

theorem neg_div (a : Nat) : (-(a : Int)).tdiv 10 = -((a / 10 : Nat) : Int) := by rw [Int.neg_tdiv,Int.tdiv_eq_ediv_of_nonneg (by omega)]; omega
theorem neg_mod (a : Nat) : (-(a : Int)).tmod 10 = -((a % 10 : Nat) : Int) := by rw [Int.neg_tmod,Int.tmod_eq_emod_of_nonneg (by omega)]; omega

theorem rformat_neg (N : Nat) (h1 : 1 ≤ N) (h2 : N ≤ 9223372036854775808) (n : Int) (hn : Hid (n = -(N : Int))) (w : World) :
  Calls Tryz.prog 196 #[.int .i64 n] w fun e w' => e = .returned (.string ⟨(45 :: digs (ndF 18 N) N).toArray⟩) ∧ w = w' := by
 have hst := Lib.hid (Left.start (N := N) (by omega))
 have hD : (digs (ndF 18 N) N).length ≤ 19 := by rw [digs_len]; exact ndF_le 18 N
 generalize digs (ndF 18 N) N = D at *
 have hneg : n < 0 := by have := hn.out; omega
 have hlow : -9223372036854775808 ≤ n := by have := hn.out; omega
 go_enter Tryz.func196,Tryz.ntmps196
 go_wp2
 go_loop [4,5] (fun s m => ∃ (a : Nat) (k : Int) (t : List UInt8),s = .string ⟨t.toArray⟩ ∧ m = .int .i64 k ∧ a ≤ 9223372036854775808 ∧ k ≤ 0 ∧ -9223372036854775808 ≤ k ∧ Hid (k = -(a : Int)) ∧ Hid (Left D a t)) (fun s m => (-intOf m).toNat + emp s)
 case atStart => exact ⟨N,n,[],rfl,rfl,h2,by omega,by omega,hn,hst⟩
 case round =>
  obtain ⟨a,k,t,rfl,rfl,ha,hk0,hk1,hk,hl⟩ := hrel
  have hlen := hl.out.len
  have hlen' : t.length ≤ 19 := by omega
  by_cases g : a = 0
  ·subst g
   have hkz : k = 0 := by have := hk.out; omega
   subst hkz
   have hsl := slice_dig 0 (by omega)
   by_cases g2 : t = []
   ·subst g2
    have hn := Lib.hid (hl.out.step (Or.inr rfl))
    go_wp2
    go_round
    case rel => exact ⟨0,0,[dgt 0],congrArg Value.string (ByteArray.ext (by simp [dgt])),rfl,by omega,by omega,by omega,Lib.hid rfl,hn⟩
    case measure => simp [intOf,emp]; decide
   ·have hd := Lib.hid (hl.out.done (by simp [g2]))
    have g3 : t.isEmpty = false := by simp [g2]
    go_wp2
    go_ret
    exact ⟨by rw [← hd.out]; exact congrArg (Ending.returned ∘ Value.string) (ByteArray.ext (by simp)),rfl⟩
  ·have g1 : 1 ≤ a := by omega
   have hn' := Lib.hid (hl.out.step (Or.inl g))
   have hkn : k < 0 := by have := hk.out; omega
   have hkb : (k != 0) = true := by simp; omega
   have em : k.tmod 10 = -((a % 10 : Nat) : Int) := by rw [hk.out]; exact neg_mod a
   have ed : k.tdiv 10 = -((a / 10 : Nat) : Int) := by rw [hk.out]; exact neg_div a
   have hsl := slice_dig (a % 10) (by omega)
   obtain ⟨d,hd⟩ : ∃ d,d = a % 10 := ⟨_,rfl⟩
   obtain ⟨q,hq⟩ : ∃ q,q = a / 10 := ⟨_,rfl⟩
   rw [← hd] at em hsl hn'
   rw [← hq] at ed hn'
   have hd10 : d ≤ 9 := by omega
   have hqb : q ≤ 922337203685477580 := by omega
   have hqa : q < a := by omega
   have Hd := Lib.hid hd
   have Hq := Lib.hid hq
   clear hd hq
   by_cases hz : d = 0
   ·subst hz
    go_wp2
    go_round
    case rel => exact ⟨q,-(q : Int),dgt 0 :: t,congrArg Value.string (ByteArray.ext (by simp [dgt])),rfl,by omega,by omega,by omega,Lib.hid rfl,hn'⟩
    case measure => have := hk.out; simp [intOf,emp]; omega
   ·have hdp : -(d : Int) < 0 := by omega
    go_wp2
    go_round
    case rel => exact ⟨q,-(q : Int),dgt d :: t,congrArg Value.string (ByteArray.ext (by simp)),rfl,by omega,by omega,by omega,Lib.hid rfl,hn'⟩
    case measure => have := hk.out; simp [intOf,emp]; omega

theorem rformat_any (n : Int) (h1 : -9223372036854775808 ≤ n) (h2 : n ≤ 9223372036854775807) (w : World) :
  Calls Tryz.prog 196 #[.int .i64 n] w fun e w' => e = .returned (.string ⟨(fmtL n).toArray⟩) ∧ w = w' := by
 unfold fmtL
 by_cases h : n < 0
 ·rw [abz_neg h,if_pos h]
  obtain ⟨N,hN⟩ := Int.eq_ofNat_of_zero_le (a := -n) (by omega)
  rw [hN,Int.toNat_natCast]
  exact rformat_neg N (by omega) (by omega) n (Lib.hid (by omega)) w
 ·rw [abz_pos h,if_neg h]
  obtain ⟨N,rfl⟩ := Int.eq_ofNat_of_zero_le (a := n) (by omega)
  rw [Int.toNat_natCast]
  exact rformat_pos N (by omega) w


def isDig (c : UInt8) : Bool := decide (48 ≤ c.toNat) && decide (c.toNat ≤ 57)
def decB (l : List UInt8) : Bool := l.all isDig && (l == [48] || (!l.isEmpty && l.head? != some 48))

theorem all_take {l : List UInt8} {k : Nat} (h : k < l.length) : (l.take (k + 1)).all isDig = ((l.take k).all isDig && isDig l[k]) := by
 rw [List.take_succ_eq_append_getElem h,List.all_append,List.all_cons,List.all_nil,Bool.and_true]
theorem dig_of {c : UInt8} (h1 : 48 ≤ (c.toNat : Int)) (h2 : (c.toNat : Int) ≤ 57) : isDig c = true := by
 simp only [isDig,Bool.and_eq_true,decide_eq_true_eq]; omega
theorem dig_bd {c : UInt8} (h : isDig c = true) : 48 ≤ (c.toNat : Int) ∧ (c.toNat : Int) ≤ 57 := by
 simp only [isDig,Bool.and_eq_true,decide_eq_true_eq] at h; omega
theorem all_get {l : List UInt8} (h : l.all isDig = true) {k : Nat} (hk : k < l.length) : isDig l[k] = true := List.all_eq_true.1 h _ (List.getElem_mem hk)
theorem isDecimal_any (s : ByteArray) (hs : s.size ≤ maxLen) (w : World) :
  Calls Tryz.prog 230 #[.string s] w fun e w' => e = .returned (.bool (decB s.data.toList)) ∧ w = w' := by
 unfold maxLen at hs
 have hll : s.data.toList.length = s.size := by simp
 by_cases hall : s.data.toList.all isDig = true
 ·have hx : s.toList = s.data.toList := Go.ByteArray.toList_eq s
  have H := Lib.hid hall
  have HL := Lib.hid hll
  by_cases g1 : s.toList = [48]
  ·have hd := Lib.hid (show decB s.data.toList = true by rw [← hx,g1]; rfl)
   rw [hd.out]
   clear hx hall hll
   go_enter Tryz.func230,Tryz.ntmps230
   go_wp2
   go_loop [6] (fun i => ∃ k : Nat,k ≤ s.size ∧ i = .int .i64 (k : Int)) (fun i => s.size - (intOf i).toNat)
   case atStart => exact ⟨0,Nat.zero_le _,rfl⟩
   case round =>
    obtain ⟨k,hk,rfl⟩ := hrel
    by_cases hlt : k < s.size
    ·obtain ⟨c1,c2⟩ := dig_bd (all_get H.out (k := k) (by rw [HL.out]; exact hlt))
     have c1' : 48 ≤ (s[k].toNat : Int) := c1
     have c2' : (s[k].toNat : Int) ≤ 57 := c2
     clear c1 c2
     go_wp2
     go_round
     case rel => exact ⟨k + 1,by omega,by go_num⟩
     case measure => simp [intOf]; omega
    ·go_wp2
     go_ret
     exact ⟨rfl,rfl⟩
  by_cases g2 : s.toList = []
  ·have hd := Lib.hid (show decB s.data.toList = false by rw [← hx,g2]; rfl)
   rw [hd.out]
   clear hx hall hll
   go_enter Tryz.func230,Tryz.ntmps230
   go_wp2
   go_loop [6] (fun i => ∃ k : Nat,k ≤ s.size ∧ i = .int .i64 (k : Int)) (fun i => s.size - (intOf i).toNat)
   case atStart => exact ⟨0,Nat.zero_le _,rfl⟩
   case round =>
    obtain ⟨k,hk,rfl⟩ := hrel
    by_cases hlt : k < s.size
    ·obtain ⟨c1,c2⟩ := dig_bd (all_get H.out (k := k) (by rw [HL.out]; exact hlt))
     have c1' : 48 ≤ (s[k].toNat : Int) := c1
     have c2' : (s[k].toNat : Int) ≤ 57 := c2
     clear c1 c2
     go_wp2
     go_round
     case rel => exact ⟨k + 1,by omega,by go_num⟩
     case measure => simp [intOf]; omega
    ·go_wp2
     go_ret
     exact ⟨rfl,rfl⟩
  have hpos : 0 < s.size := by
   rw [← hll]; rw [hx] at g2; exact List.length_pos_iff.2 g2
  have hd : decB s.data.toList = ((s[0].toNat : Int) != 48) := by
   have e1 : s.data.toList.head? = some s[0] := by
    rw [List.head?_eq_getElem?,List.getElem?_eq_getElem (by omega)]; rfl
   rw [hx] at g1 g2
   simp only [decB,hall,e1,Bool.true_and]
   have : (s.data.toList == [48]) = false := by simpa using g1
   have e2 : s.data.toList.isEmpty = false := by simpa using g2
   rw [this,e2]
   by_cases h : s[0] = 48
   ·simp [h]
   ·have h0 : s[0].toNat ≠ 48 := fun e => h (UInt8.toNat_inj.1 (e.trans rfl))
    have h1 : (some s[0] != some (48 : UInt8)) = true := by simpa using h
    have h2 : ((s[0].toNat : Int) != 48) = true := by rw [bne_iff_ne]; omega
    rw [h1,h2]
    rfl
  rw [hd]
  have hgb : Hid ((s.toList == [48]) = false ∧ s.toList.isEmpty = false) := Lib.hid ⟨by simpa using g1,by simpa using g2⟩
  clear hd hx hall hll
  go_enter Tryz.func230,Tryz.ntmps230
  go_wp2
  go_loop [6] (fun i => ∃ k : Nat,k ≤ s.size ∧ i = .int .i64 (k : Int)) (fun i => s.size - (intOf i).toNat)
  case atStart => exact ⟨0,Nat.zero_le _,rfl⟩
  case round =>
   obtain ⟨k,hk,rfl⟩ := hrel
   by_cases hlt : k < s.size
   ·obtain ⟨c1,c2⟩ := dig_bd (all_get H.out (k := k) (by rw [HL.out]; exact hlt))
    have c1' : 48 ≤ (s[k].toNat : Int) := c1
    have c2' : (s[k].toNat : Int) ≤ 57 := c2
    clear c1 c2
    go_wp2
    go_round
    case rel => exact ⟨k + 1,by omega,by go_num⟩
    case measure => simp [intOf]; omega
   ·go_wp2
    go_ret
    exact ⟨by simp [hgb.out.1,hgb.out.2],rfl⟩
 ·have hall' : s.data.toList.all isDig = false := by simpa using hall
  have hd : decB s.data.toList = false := by simp [decB,hall']
  rw [hd]
  have H := Lib.hid hall'
  have HL := Lib.hid hll
  clear hall hall' hd hll
  go_enter Tryz.func230,Tryz.ntmps230
  go_wp2
  go_loop [6] (fun i => ∃ k : Nat,k ≤ s.size ∧ i = .int .i64 (k : Int) ∧ Hid ((s.data.toList.take k).all isDig = true)) (fun i => s.size - (intOf i).toNat)
  case atStart => exact ⟨0,Nat.zero_le _,rfl,Lib.hid (by simp)⟩
  case round =>
   obtain ⟨k,hk,rfl,ha⟩ := hrel
   by_cases hlt : k < s.size
   ·have hst := Lib.hid (all_take (l := s.data.toList) (k := k) (by rw [HL.out]; exact hlt))
    by_cases c1 : (s[k].toNat : Int) < 48
    ·go_wp2
     go_ret
     exact ⟨rfl,rfl⟩
    by_cases c2 : 57 < (s[k].toNat : Int)
    ·have c1' : 48 ≤ (s[k].toNat : Int) := by omega
     go_wp2
     go_ret
     exact ⟨rfl,rfl⟩
    ·have c1' : 48 ≤ (s[k].toNat : Int) := by omega
     have c2' : (s[k].toNat : Int) ≤ 57 := by omega
     go_wp2
     go_round
     case rel => exact ⟨k + 1,by omega,by go_num,Lib.hid (by rw [hst.out,ha.out]; exact dig_of c1' c2')⟩
     case measure => simp [intOf]; omega
   ·have he : k = s.size := by omega
    have hc := ha.out
    rw [he,← HL.out,List.take_length,H.out] at hc
    exact absurd hc (by simp)


def scan : Nat → List UInt8 → Option Nat
 | a,[] => some a
 | a,c :: r => if a * 10 + (c.toNat - 48) ≤ 1000000000000 then scan (a * 10 + (c.toNat - 48)) r else none
def negL (l : List UInt8) : Bool := Lib.hasPrefix l [45]
def bodyL (l : List UInt8) : List UInt8 := Lib.trimPrefix l [45]
def okL (l : List UInt8) : Bool := decB (bodyL l) && !(negL l && bodyL l == [48])
def finV (neg : Bool) : Option Nat → Int
 | some n => if neg then -(n : Int) else n
 | none => 0
def finE : Option Nat → Int
 | some _ => 0
 | none => 2
def parV (l : List UInt8) : Int := if okL l then finV (negL l) (scan 0 (bodyL l)) else 0
def parE (l : List UInt8) : Int := if okL l then finE (scan 0 (bodyL l)) else 1
theorem scan_drop {l : List UInt8} {k a : Nat} (h : k < l.length) : scan a (l.drop k) = if a * 10 + (l[k].toNat - 48) ≤ 1000000000000 then scan (a * 10 + (l[k].toNat - 48)) (l.drop (k + 1)) else none := by
 rw [List.drop_eq_getElem_cons h,scan]

theorem bodyL_len (l : List UInt8) : (bodyL l).length ≤ l.length := by
 unfold bodyL Lib.trimPrefix
 split
 ·simp
 ·exact Nat.le_refl _

def isDecimalOk (d : ByteArray) : Prop := ∀ w : World,Calls Tryz.prog 230 #[.string d] w fun e w' => e = .returned (.bool true) ∧ w = w'
theorem parse_core (s d : ByteArray) (neg : Bool) (hs : d.size ≤ maxLen) (w : World)
  (hcut : Hid (∀ w,Calls Tryz.prog 229 #[.string s,.string ⟨#[45]⟩] w fun e w' => e = .returned (.tuple #[.string d,.bool neg]) ∧ w' = w))
  (hd : Hid (decB d.toList = true)) (hn : Hid ((neg && d.toList == [48]) = false)) :
  Calls Tryz.prog 176 #[.string s] w fun e w' => e = pair (finV neg (scan 0 d.toList)) (finE (scan 0 d.toList)) ∧ w = w' := by
 unfold maxLen at hs
 have hx : d.toList = d.data.toList := Go.ByteArray.toList_eq d
 have HL : Hid (d.toList.length = d.size) := Lib.hid (by rw [hx]; simp)
 have HA : Hid (d.toList.all isDig = true) := by
  refine Lib.hid ?_
  have := hd.out
  simp only [decB,Bool.and_eq_true] at this
  exact this.1
 have HI : Hid (isDecimalOk d) := by
  refine Lib.hid fun w => ?_
  have := isDecimal_any d hs w
  rw [← hx,hd.out] at this
  exact this
 have HX := Lib.hid hx
 clear hx
 have hn' := hn.out
 cases neg
 ·clear hn'
  go_enter Tryz.func176,Tryz.ntmps176
  go_wp2_with (first | (go_at_call 229; refine (hcut.out _).mono ?_; rintro e w' ⟨rfl,rfl⟩) | (go_at_call 230; refine (HI.out _).mono ?_; rintro e w' ⟨rfl,rfl⟩))
  go_loop [6,25] (fun n i => ∃ (a k : Nat),k ≤ d.size ∧ i = .int .i64 (k : Int) ∧ n = .int .i64 (a : Int) ∧ a ≤ 1000000000000 ∧ Hid (scan 0 d.toList = scan a (d.toList.drop k))) (fun _ i => d.size - (intOf i).toNat)
  case atStart => exact ⟨0,0,Nat.zero_le _,rfl,rfl,by omega,Lib.hid rfl⟩
  case round =>
   obtain ⟨a,k,hk,rfl,rfl,ha,hr⟩ := hrel
   by_cases hlt : k < d.size
   ·have hlt' : k < d.toList.length := by rw [HL.out]; exact hlt
    have hg : d.toList[k] = d[k] := by simp only [HX.out]; rfl
    obtain ⟨c1,c2⟩ := dig_bd (all_get HA.out hlt')
    rw [hg] at c1 c2
    have hsd := scan_drop (a := a) hlt'
    rw [hg] at hsd
    have HS := Lib.hid hsd
    clear hsd hg hlt'
    by_cases hm : (a : Int) * 10 + ((d[k].toNat : Int) - 48) ≤ 1000000000000
    ·have hv := Lib.hid (vld_of (n := (a : Int) * 10 + ((d[k].toNat : Int) - 48)) (by omega) hm)
     go_wp2_with (go_at_call 231; refine (valid_any _ _).mono ?_; rintro e w' ⟨rfl,rfl⟩; rw [hv.out])
     go_round
     case rel => exact ⟨a * 10 + (d[k].toNat - 48),k + 1,by omega,by go_num,congrArg (Value.int .i64) (by omega),by omega,Lib.hid (by rw [hr.out,HS.out,if_pos (by omega)])⟩
     case measure => simp [intOf]; omega
    ·have hv := Lib.hid (vld_not (n := (a : Int) * 10 + ((d[k].toNat : Int) - 48)) (by omega))
     have hz := Lib.hid (show scan 0 d.toList = none by rw [hr.out,HS.out,if_neg (by omega)])
     go_wp2_with (go_at_call 231; refine (valid_any _ _).mono ?_; rintro e w' ⟨rfl,rfl⟩; rw [hv.out])
     go_ret2
     exact ⟨by rw [hz.out]; rfl,rfl⟩
   ·have hz := Lib.hid (show scan 0 d.toList = some a by rw [hr.out,List.drop_eq_nil_of_le (by rw [HL.out]; omega)]; rfl)
    go_wp2
    go_ret2
    exact ⟨by rw [hz.out]; rfl,rfl⟩
 ·have hz0 : (d.toList == [48]) = false := by simpa using hn'
  clear hn'
  go_enter Tryz.func176,Tryz.ntmps176
  go_wp2_with (first | (go_at_call 229; refine (hcut.out _).mono ?_; rintro e w' ⟨rfl,rfl⟩) | (go_at_call 230; refine (HI.out _).mono ?_; rintro e w' ⟨rfl,rfl⟩))
  go_loop [6,25] (fun n i => ∃ (a k : Nat),k ≤ d.size ∧ i = .int .i64 (k : Int) ∧ n = .int .i64 (a : Int) ∧ a ≤ 1000000000000 ∧ Hid (scan 0 d.toList = scan a (d.toList.drop k))) (fun _ i => d.size - (intOf i).toNat)
  case atStart => exact ⟨0,0,Nat.zero_le _,rfl,rfl,by omega,Lib.hid rfl⟩
  case round =>
   obtain ⟨a,k,hk,rfl,rfl,ha,hr⟩ := hrel
   by_cases hlt : k < d.size
   ·have hlt' : k < d.toList.length := by rw [HL.out]; exact hlt
    have hg : d.toList[k] = d[k] := by simp only [HX.out]; rfl
    obtain ⟨c1,c2⟩ := dig_bd (all_get HA.out hlt')
    rw [hg] at c1 c2
    have hsd := scan_drop (a := a) hlt'
    rw [hg] at hsd
    have HS := Lib.hid hsd
    clear hsd hg hlt'
    by_cases hm : (a : Int) * 10 + ((d[k].toNat : Int) - 48) ≤ 1000000000000
    ·have hv := Lib.hid (vld_of (n := (a : Int) * 10 + ((d[k].toNat : Int) - 48)) (by omega) hm)
     go_wp2_with (go_at_call 231; refine (valid_any _ _).mono ?_; rintro e w' ⟨rfl,rfl⟩; rw [hv.out])
     go_round
     case rel => exact ⟨a * 10 + (d[k].toNat - 48),k + 1,by omega,by go_num,congrArg (Value.int .i64) (by omega),by omega,Lib.hid (by rw [hr.out,HS.out,if_pos (by omega)])⟩
     case measure => simp [intOf]; omega
    ·have hv := Lib.hid (vld_not (n := (a : Int) * 10 + ((d[k].toNat : Int) - 48)) (by omega))
     have hz := Lib.hid (show scan 0 d.toList = none by rw [hr.out,HS.out,if_neg (by omega)])
     go_wp2_with (go_at_call 231; refine (valid_any _ _).mono ?_; rintro e w' ⟨rfl,rfl⟩; rw [hv.out])
     go_ret2
     exact ⟨by rw [hz.out]; rfl,rfl⟩
   ·have hz := Lib.hid (show scan 0 d.toList = some a by rw [hr.out,List.drop_eq_nil_of_le (by rw [HL.out]; omega)]; rfl)
    go_wp2
    go_ret2
    exact ⟨by rw [hz.out]; rfl,rfl⟩

theorem parse_no (s d : ByteArray) (neg b : Bool) (w : World)
  (hcut : Hid (∀ w,Calls Tryz.prog 229 #[.string s,.string ⟨#[45]⟩] w fun e w' => e = .returned (.tuple #[.string d,.bool neg]) ∧ w' = w))
  (hd : Hid (∀ w : World,Calls Tryz.prog 230 #[.string d] w fun e w' => e = .returned (.bool b) ∧ w = w')) (hn : (b && !(neg && d.toList == [48])) = false) :
  Calls Tryz.prog 176 #[.string s] w fun e w' => e = pair 0 1 ∧ w = w' := by
 unfold pair
 cases b
 ·clear hn
  go_enter Tryz.func176,Tryz.ntmps176
  go_wp2_with (first | (go_at_call 229; refine (hcut.out _).mono ?_; rintro e w' ⟨rfl,rfl⟩) | (go_at_call 230; refine (hd.out _).mono ?_; rintro e w' ⟨rfl,rfl⟩))
  go_ret2
  exact ⟨rfl,rfl⟩
 ·cases neg
  ·simp at hn
  ·have hz : d.toList = [48] := by simpa using hn
   clear hn
   go_enter Tryz.func176,Tryz.ntmps176
   go_wp2_with (first | (go_at_call 229; refine (hcut.out _).mono ?_; rintro e w' ⟨rfl,rfl⟩) | (go_at_call 230; refine (hd.out _).mono ?_; rintro e w' ⟨rfl,rfl⟩))
   go_ret2
   exact ⟨rfl,rfl⟩
theorem parse_any (s : ByteArray) (hs : s.size ≤ maxLen) (w : World) :
  Calls Tryz.prog 176 #[.string s] w fun e w' => e = pair (parV s.toList) (parE s.toList) ∧ w = w' := by
 have hx : s.toList = s.data.toList := Go.ByteArray.toList_eq s
 have hcut := Lib.hid (fun w => Tryz.strings_CutPrefix s ⟨#[45]⟩ w)
 have h45 : (⟨#[45]⟩ : ByteArray).data.toList = [45] := rfl
 rw [h45,← hx] at hcut
 have hb : bodyL s.toList = Lib.trimPrefix s.toList [45] := rfl
 have hn : negL s.toList = Lib.hasPrefix s.toList [45] := rfl
 rw [← hb,← hn] at hcut
 clear hb hn h45
 have hdl : (⟨(bodyL s.toList).toArray⟩ : ByteArray).toList = bodyL s.toList := Go.ByteArray.toList_mk _
 have hds : (⟨(bodyL s.toList).toArray⟩ : ByteArray).size ≤ maxLen := by
  have h1 := bodyL_len s.toList
  have h2 : s.toList.length = s.size := by rw [hx]; simp
  show (bodyL s.toList).toArray.size ≤ maxLen
  simp only [List.size_toArray]
  omega
 unfold parV parE okL
 generalize hd : (⟨(bodyL s.toList).toArray⟩ : ByteArray) = d at *
 rw [← hdl]
 generalize negL s.toList = neg at *
 cases hok : (decB d.toList && !(neg && d.toList == [48]))
 ·have hI : Hid (∀ w : World,Calls Tryz.prog 230 #[.string d] w fun e w' => e = .returned (.bool (decB d.toList)) ∧ w = w') := Lib.hid fun w => by
   have := isDecimal_any d hds w
   rw [← Go.ByteArray.toList_eq d] at this
   exact this
  exact parse_no s d neg _ w hcut hI hok
 ·obtain ⟨h1,h2⟩ : decB d.toList = true ∧ (neg && d.toList == [48]) = false := by
   rw [Bool.and_eq_true,Bool.not_eq_true'] at hok
   exact hok
  exact parse_core s d neg hds w hcut (Lib.hid h1) (Lib.hid h2)


theorem upto_step {t : ByteArray} {k : Nat} (h : ∀ j,j < k → ∀ h : j < t.size,48 ≤ (t[j].toNat : Int) ∧ (t[j].toNat : Int) ≤ 57) {hk : k < t.size} (g : 48 ≤ (t[k].toNat : Int) ∧ (t[k].toNat : Int) ≤ 57) :
  ∀ j,j < k + 1 → ∀ h : j < t.size,48 ≤ (t[j].toNat : Int) ∧ (t[j].toNat : Int) ≤ 57 := by
 intro j hj h'
 rcases Nat.lt_or_ge j k with h1 | h1
 ·exact h j h1 h'
 ·obtain rfl : j = k := by omega
  exact g
theorem toList_get (t : ByteArray) {k : Nat} (h : k < t.size) (h' : k < t.toList.length) : t.toList[k] = t[k] := by
 simp only [Go.ByteArray.toList_eq t]; rfl
theorem toList_len (t : ByteArray) : t.toList.length = t.size := by rw [Go.ByteArray.toList_eq t]; simp
theorem all_of_upto {t : ByteArray} {k : Nat} (hk : t.size ≤ k) (h : ∀ j,j < k → ∀ h : j < t.size,48 ≤ (t[j].toNat : Int) ∧ (t[j].toNat : Int) ≤ 57) : t.toList.all isDig = true := by
 rw [List.all_eq_true]
 intro x hx
 obtain ⟨j,hj,rfl⟩ := List.getElem_of_mem hx
 have hj' : j < t.size := by rw [← toList_len]; exact hj
 have := h j (by omega) hj'
 rw [toList_get t hj' hj]
 exact dig_of this.1 this.2
theorem upto_of_all {t : ByteArray} (h : t.toList.all isDig = true) (k : Nat) (hk : k < t.size) : 48 ≤ (t[k].toNat : Int) ∧ (t[k].toNat : Int) ≤ 57 := by
 have hj : k < t.toList.length := by rw [toList_len]; exact hk
 rw [← toList_get t hk hj]
 exact dig_bd (all_get h hj)

def okT (l : List UInt8) : Bool := decB l

theorem form_neg (s t : ByteArray) (hs : s.size ≤ maxLen) (hpos : 0 < s.size) (h45 : (s[0].toNat : Int) = 45) (ht : s.extract 1 s.size = t) (hts : t.size ≤ maxLen) (w : World) :
  Calls Tryz.prog 237 #[.string s] w fun e w' => e = .returned (.bool (decB t.toList && !(t.toList == [48]))) ∧ w = w' := by
 unfold maxLen at hs hts
 have hll := toList_len t
 have h45b : ((s[0].toNat : Int) == 45) = true := by simpa using h45
 clear h45
 by_cases hz : t.size = 0
 ·have hd : decB t.toList = false := by
   have : t.toList = [] := List.eq_nil_of_length_eq_zero (by omega)
   rw [this]; rfl
  rw [hd,Bool.false_and]
  have hzl : t.toList.length = 0 := by omega
  clear hll hd
  go_enter Tryz.func237,Tryz.ntmps237
  go_wp2
  go_ret
  exact ⟨rfl,rfl⟩
 have hp : 0 < t.size := by omega
 have hg := toList_get t hp (by omega)
 have hhead : t.toList.head? = some t[0] := by rw [List.head?_eq_getElem?,List.getElem?_eq_getElem (by omega),hg]
 have hne : t.toList ≠ [] := fun h => by rw [h] at hll; simp at hll; omega
 by_cases h48 : t[0] = 48
 ·have hd : (decB t.toList && !(t.toList == [48])) = false := by
   rw [decB,hhead,h48]
   simp only [bne_self_eq_false,Bool.and_false,Bool.or_false]
   cases t.toList == [48] <;> simp
  rw [hd]
  have h48b : ((t[0].toNat : Int) == 48) = true := by rw [h48]; rfl
  clear hll hd hg hhead hne h48
  go_enter Tryz.func237,Tryz.ntmps237
  go_wp2
  go_ret
  exact ⟨rfl,rfl⟩
 have hd : (decB t.toList && !(t.toList == [48])) = t.toList.all isDig := by
  have e1 : (t.toList == [48]) = false := by
   rw [beq_eq_false_iff_ne]
   intro e
   rw [e] at hhead
   simp at hhead
   exact h48 hhead.symm
  have e2 : (some t[0] != some (48 : UInt8)) = true := by simpa using h48
  have e3 : t.toList.isEmpty = false := by simpa using hne
  rw [decB,hhead,e1,e2,e3]
  simp
 rw [hd]
 have h48b : ((t[0].toNat : Int) == 48) = false := by
  rw [beq_eq_false_iff_ne]
  intro e
  exact h48 (UInt8.toNat_inj.1 (by have : t[0].toNat = 48 := by omega
                                   exact this.trans rfl))
 have hzb : ((t.size : Int) == 0) = false := by rw [beq_eq_false_iff_ne]; omega
 cases hall : t.toList.all isDig
 ·have HN := Lib.hid hall
  clear hll hd hg hhead hne h48 hall
  rcases Nat.lt_or_ge 1 t.size with g1 | g1
  all_goals
   go_enter Tryz.func237,Tryz.ntmps237
   go_wp2
   go_loop [39] (fun i => ∃ k : Nat,k ≤ t.size ∧ i = .int .i64 (k : Int) ∧ Hid (∀ j,j < k → ∀ h : j < t.size,48 ≤ (t[j].toNat : Int) ∧ (t[j].toNat : Int) ≤ 57)) (fun i => t.size - (intOf i).toNat)
   case atStart => exact ⟨0,Nat.zero_le _,rfl,Lib.hid (fun j h => absurd h (by omega))⟩
   case round =>
    obtain ⟨k,hk,rfl,ha⟩ := hrel
    by_cases hlt : k < t.size
    ·by_cases c1 : (t[k].toNat : Int) < 48
     ·go_wp2
      go_ret
      exact ⟨rfl,rfl⟩
     have c1' : 48 ≤ (t[k].toNat : Int) := by omega
     by_cases c2 : 57 < (t[k].toNat : Int)
     ·go_wp2
      go_ret
      exact ⟨rfl,rfl⟩
     ·have c2' : (t[k].toNat : Int) ≤ 57 := by omega
      go_wp2
      go_round
      case rel => exact ⟨k + 1,by omega,by go_num,Lib.hid (upto_step ha.out ⟨c1',c2'⟩)⟩
      case measure => simp [intOf]; omega
    ·exact absurd (all_of_upto (by omega) ha.out) (by rw [HN.out]; simp)
 ·have HA := Lib.hid (upto_of_all hall)
  clear hll hd hg hhead hne h48 hall
  rcases Nat.lt_or_ge 1 t.size with g1 | g1
  all_goals
   go_enter Tryz.func237,Tryz.ntmps237
   go_wp2
   go_loop [39] (fun i => ∃ k : Nat,k ≤ t.size ∧ i = .int .i64 (k : Int)) (fun i => t.size - (intOf i).toNat)
   case atStart => exact ⟨0,Nat.zero_le _,rfl⟩
   case round =>
    obtain ⟨k,hk,rfl⟩ := hrel
    by_cases hlt : k < t.size
    ·obtain ⟨c1,c2⟩ := HA.out k hlt
     go_wp2
     go_round
     case rel => exact ⟨k + 1,by omega,by go_num⟩
     case measure => simp [intOf]; omega
    ·go_wp2
     go_ret
     exact ⟨rfl,rfl⟩

theorem form_pos (t : ByteArray) (hts : t.size ≤ maxLen) (hno : ∀ h : 0 < t.size,((t[0].toNat : Int) == 45) = false) (w : World) :
  Calls Tryz.prog 237 #[.string t] w fun e w' => e = .returned (.bool (decB t.toList)) ∧ w = w' := by
 unfold maxLen at hts
 have hll := toList_len t
 by_cases hz : t.size = 0
 ·have hd : decB t.toList = false := by
   have : t.toList = [] := List.eq_nil_of_length_eq_zero (by omega)
   rw [this]; rfl
  rw [hd]
  clear hll hd hno
  go_enter Tryz.func237,Tryz.ntmps237
  go_wp2
  go_ret
  exact ⟨rfl,rfl⟩
 have hp : 0 < t.size := by omega
 have hno' := hno hp
 clear hno
 have hg := toList_get t hp (by omega)
 have hhead : t.toList.head? = some t[0] := by rw [List.head?_eq_getElem?,List.getElem?_eq_getElem (by omega),hg]
 have hne : t.toList ≠ [] := fun h => by rw [h] at hll; simp at hll; omega
 have hzb : ((t.size : Int) == 0) = false := by rw [beq_eq_false_iff_ne]; omega
 by_cases h48 : t[0] = 48
 ·have h48b : ((t[0].toNat : Int) == 48) = true := by rw [h48]; rfl
  by_cases h1 : 1 < t.size
  ·have hd : decB t.toList = false := by
    have e1 : (t.toList == [48]) = false := by
     rw [beq_eq_false_iff_ne]
     intro e
     rw [e] at hll
     simp at hll
     omega
    rw [decB,hhead,h48,e1]
    simp
   rw [hd]
   clear hll hd hg hhead hne h48
   go_enter Tryz.func237,Tryz.ntmps237
   go_wp2
   go_ret
   exact ⟨rfl,rfl⟩
  ·have hd : decB t.toList = true := by
    have : t.toList = [48] := by
     rcases h : t.toList with _ | ⟨a,r⟩
     ·exact absurd h hne
     ·rw [h] at hhead hll
      simp at hhead hll
      have : r = [] := List.eq_nil_of_length_eq_zero (by omega)
      rw [this,hhead,h48]
    rw [this]; rfl
   have hall : t.toList.all isDig = true := by
    rw [decB,Bool.and_eq_true] at hd
    exact hd.1
   rw [hd]
   have h1' : t.size = 1 := by omega
   have HA := Lib.hid (upto_of_all hall)
   have h1b : t.size ≤ 1 := by omega
   clear hll hd hg hhead hne h48 hall h1'
   go_enter Tryz.func237,Tryz.ntmps237
   go_wp2
   go_loop [39] (fun i => ∃ k : Nat,k ≤ t.size ∧ i = .int .i64 (k : Int)) (fun i => t.size - (intOf i).toNat)
   case atStart => exact ⟨0,Nat.zero_le _,rfl⟩
   case round =>
    obtain ⟨k,hk,rfl⟩ := hrel
    by_cases hlt : k < t.size
    ·obtain ⟨c1,c2⟩ := HA.out k hlt
     go_wp2
     go_round
     case rel => exact ⟨k + 1,by omega,by go_num⟩
     case measure => simp [intOf]; omega
    ·go_wp2
     go_ret
     exact ⟨rfl,rfl⟩
 have hd : decB t.toList = t.toList.all isDig := by
  have e2 : (some t[0] != some (48 : UInt8)) = true := by simpa using h48
  have e3 : t.toList.isEmpty = false := by simpa using hne
  rw [decB,hhead,e2,e3]
  simp
 rw [hd]
 have h48b : ((t[0].toNat : Int) == 48) = false := by
  rw [beq_eq_false_iff_ne]
  intro e
  exact h48 (UInt8.toNat_inj.1 (by have : t[0].toNat = 48 := by omega
                                   exact this.trans rfl))
 cases hall : t.toList.all isDig
 ·have HN := Lib.hid hall
  clear hll hd hg hhead hne h48 hall
  rcases Nat.lt_or_ge 1 t.size with g1 | g1
  all_goals
   go_enter Tryz.func237,Tryz.ntmps237
   go_wp2
   go_loop [39] (fun i => ∃ k : Nat,k ≤ t.size ∧ i = .int .i64 (k : Int) ∧ Hid (∀ j,j < k → ∀ h : j < t.size,48 ≤ (t[j].toNat : Int) ∧ (t[j].toNat : Int) ≤ 57)) (fun i => t.size - (intOf i).toNat)
   case atStart => exact ⟨0,Nat.zero_le _,rfl,Lib.hid (fun j h => absurd h (by omega))⟩
   case round =>
    obtain ⟨k,hk,rfl,ha⟩ := hrel
    by_cases hlt : k < t.size
    ·by_cases c1 : (t[k].toNat : Int) < 48
     ·go_wp2
      go_ret
      exact ⟨rfl,rfl⟩
     have c1' : 48 ≤ (t[k].toNat : Int) := by omega
     by_cases c2 : 57 < (t[k].toNat : Int)
     ·go_wp2
      go_ret
      exact ⟨rfl,rfl⟩
     ·have c2' : (t[k].toNat : Int) ≤ 57 := by omega
      go_wp2
      go_round
      case rel => exact ⟨k + 1,by omega,by go_num,Lib.hid (upto_step ha.out ⟨c1',c2'⟩)⟩
      case measure => simp [intOf]; omega
    ·exact absurd (all_of_upto (by omega) ha.out) (by rw [HN.out]; simp)
 ·have HA := Lib.hid (upto_of_all hall)
  clear hll hd hg hhead hne h48 hall
  rcases Nat.lt_or_ge 1 t.size with g1 | g1
  all_goals
   go_enter Tryz.func237,Tryz.ntmps237
   go_wp2
   go_loop [39] (fun i => ∃ k : Nat,k ≤ t.size ∧ i = .int .i64 (k : Int)) (fun i => t.size - (intOf i).toNat)
   case atStart => exact ⟨0,Nat.zero_le _,rfl⟩
   case round =>
    obtain ⟨k,hk,rfl⟩ := hrel
    by_cases hlt : k < t.size
    ·obtain ⟨c1,c2⟩ := HA.out k hlt
     go_wp2
     go_round
     case rel => exact ⟨k + 1,by omega,by go_num⟩
     case measure => simp [intOf]; omega
    ·go_wp2
     go_ret
     exact ⟨rfl,rfl⟩


def FormIs (s : ByteArray) (b : Bool) : Prop := ∀ w : World,Calls Tryz.prog 237 #[.string s] w fun e w' => e = .returned (.bool b) ∧ w = w'

theorem rparse_neg (s : ByteArray) (B : List UInt8) (hB : Hid (B = s.toList.drop 1)) (hs : s.size ≤ maxLen) (hpos : 0 < s.size) (h45 : (s[0].toNat : Int) = 45) (hform : Hid (FormIs s true))
  (HA : Hid (∀ k,1 ≤ k → ∀ h : k < s.size,48 ≤ (s[k].toNat : Int) ∧ (s[k].toNat : Int) ≤ 57)) (w : World) :
  Calls Tryz.prog 182 #[.string s] w fun e w' => e = pair (finV true (scan 0 B)) (finE (scan 0 B)) ∧ w = w' := by
 unfold maxLen at hs
 unfold pair
 have h45b : ((s[0].toNat : Int) == 45) = true := by simpa using h45
 clear h45
 go_enter Tryz.func182,Tryz.ntmps182
 go_wp2_with (go_at_call 237; refine (hform.out _).mono ?_; rintro e w' ⟨rfl,rfl⟩)
 go_loop [5,20] (fun n i => ∃ (a k : Nat),k ≤ s.size ∧ i = .int .i64 (k : Int) ∧ n = .int .i64 (a : Int) ∧ a ≤ 1000000000000 ∧ Hid (scan 0 B = scan a (s.toList.drop (max k 1))) ∧ (k = 0 → a = 0)) (fun _ i => s.size - (intOf i).toNat)
 case atStart => exact ⟨0,0,Nat.zero_le _,rfl,rfl,by omega,Lib.hid (by rw [hB.out]; rfl),fun _ => rfl⟩
 case round =>
  obtain ⟨a,k,hk,rfl,rfl,ha,hr,hz0⟩ := hrel
  by_cases hlt : k < s.size
  ·by_cases hk0 : k = 0
   ·subst hk0
    obtain rfl : a = 0 := hz0 rfl
    clear hz0
    go_wp2
    go_round
    case rel => exact ⟨0,1,by omega,rfl,rfl,by omega,Lib.hid (by rw [hB.out]; rfl),fun _ => rfl⟩
    case measure => simp [intOf]; omega
   have hk1 : 1 ≤ k := by omega
   have hr' : scan 0 B = scan a (s.toList.drop k) := by have := hr.out; rw [Nat.max_eq_left hk1] at this; exact this
   obtain ⟨c1,c2⟩ := HA.out k hk1 hlt
   have hlt' : k < s.toList.length := by rw [toList_len]; exact hlt
   have hg := toList_get s hlt hlt'
   have hsd := scan_drop (a := a) hlt'
   rw [hg] at hsd
   have HS := Lib.hid hsd
   have HR := Lib.hid hr'
   have hno : ((s[k].toNat : Int) == 45) = false := by rw [beq_eq_false_iff_ne]; omega
   clear hsd hg hlt' hr' hz0 hr
   by_cases hm : 10 * (a : Int) + ((s[k].toNat : Int) - 48) ≤ 1000000000000
   ·have hn := Lib.hid (show scan 0 B = scan (a * 10 + (s[k].toNat - 48)) (s.toList.drop (k + 1)) by rw [HR.out,HS.out,if_pos (by omega)])
    go_wp2
    go_round
    case rel => exact ⟨a * 10 + (s[k].toNat - 48),k + 1,by omega,by go_num,congrArg (Value.int .i64) (by omega),by omega,Lib.hid (by rw [Nat.max_eq_left (by omega)]; exact hn.out),fun h => absurd h (by omega)⟩
    case measure => simp [intOf]; omega
   ·have hz := Lib.hid (show scan 0 B = none by rw [HR.out,HS.out,if_neg (by omega)])
    go_wp2
    go_ret2
    exact ⟨by rw [hz.out]; rfl,rfl⟩
  ·have hz := Lib.hid (show scan 0 B = some a by
    have := hr.out
    rw [List.drop_eq_nil_of_le (i := max k 1) (by rw [toList_len]; omega)] at this
    exact this)
   clear hz0
   go_wp2
   go_ret2
   exact ⟨by rw [hz.out]; rfl,rfl⟩

theorem rparse_pos (s : ByteArray) (B : List UInt8) (hB : Hid (B = s.toList.drop 0)) (hs : s.size ≤ maxLen) (hpos : 0 < s.size) (hform : Hid (FormIs s true))
  (HA : Hid (∀ k,∀ h : k < s.size,48 ≤ (s[k].toNat : Int) ∧ (s[k].toNat : Int) ≤ 57)) (w : World) :
  Calls Tryz.prog 182 #[.string s] w fun e w' => e = pair (finV false (scan 0 B)) (finE (scan 0 B)) ∧ w = w' := by
 unfold maxLen at hs
 unfold pair
 have h45b : ((s[0].toNat : Int) == 45) = false := by
  have := HA.out 0 hpos
  rw [beq_eq_false_iff_ne]; omega
 go_enter Tryz.func182,Tryz.ntmps182
 go_wp2_with (go_at_call 237; refine (hform.out _).mono ?_; rintro e w' ⟨rfl,rfl⟩)
 go_loop [5,20] (fun n i => ∃ (a k : Nat),k ≤ s.size ∧ i = .int .i64 (k : Int) ∧ n = .int .i64 (a : Int) ∧ a ≤ 1000000000000 ∧ Hid (scan 0 B = scan a (s.toList.drop (max k 0))) ∧ (k = 0 → a = 0)) (fun _ i => s.size - (intOf i).toNat)
 case atStart => exact ⟨0,0,Nat.zero_le _,rfl,rfl,by omega,Lib.hid (by rw [hB.out]; rfl),fun _ => rfl⟩
 case round =>
  obtain ⟨a,k,hk,rfl,rfl,ha,hr,hz0⟩ := hrel
  by_cases hlt : k < s.size
  ·have hr' : scan 0 B = scan a (s.toList.drop k) := by have := hr.out; rw [Nat.max_eq_left (Nat.zero_le k)] at this; exact this
   obtain ⟨c1,c2⟩ := HA.out k hlt
   have hlt' : k < s.toList.length := by rw [toList_len]; exact hlt
   have hg := toList_get s hlt hlt'
   have hsd := scan_drop (a := a) hlt'
   rw [hg] at hsd
   have HS := Lib.hid hsd
   have HR := Lib.hid hr'
   have hno : ((s[k].toNat : Int) == 45) = false := by rw [beq_eq_false_iff_ne]; omega
   clear hsd hg hlt' hr' hz0 hr
   by_cases hm : 10 * (a : Int) + ((s[k].toNat : Int) - 48) ≤ 1000000000000
   ·have hn := Lib.hid (show scan 0 B = scan (a * 10 + (s[k].toNat - 48)) (s.toList.drop (k + 1)) by rw [HR.out,HS.out,if_pos (by omega)])
    go_wp2
    go_round
    case rel => exact ⟨a * 10 + (s[k].toNat - 48),k + 1,by omega,by go_num,congrArg (Value.int .i64) (by omega),by omega,Lib.hid (by rw [Nat.max_eq_left (by omega)]; exact hn.out),fun h => absurd h (by omega)⟩
    case measure => simp [intOf]; omega
   ·have hz := Lib.hid (show scan 0 B = none by rw [HR.out,HS.out,if_neg (by omega)])
    go_wp2
    go_ret2
    exact ⟨by rw [hz.out]; rfl,rfl⟩
  ·have hz := Lib.hid (show scan 0 B = some a by
    have := hr.out
    rw [List.drop_eq_nil_of_le (i := max k 0) (by rw [toList_len]; omega)] at this
    exact this)
   clear hz0
   go_wp2
   go_ret2
   exact ⟨by rw [hz.out]; rfl,rfl⟩

theorem rparse_no (s : ByteArray) (hs : s.size ≤ maxLen) (hform : Hid (FormIs s false)) (w : World) :
  Calls Tryz.prog 182 #[.string s] w fun e w' => e = pair 0 1 ∧ w = w' := by
 unfold maxLen at hs
 unfold pair
 by_cases hpos : 0 < s.size
 ·cases h45 : ((s[0].toNat : Int) == 45)
  all_goals
   go_enter Tryz.func182,Tryz.ntmps182
   go_wp2_with (go_at_call 237; refine (hform.out _).mono ?_; rintro e w' ⟨rfl,rfl⟩)
   go_ret2
   exact ⟨rfl,rfl⟩
 ·have hz : s.size ≤ 0 := by omega
  go_enter Tryz.func182,Tryz.ntmps182
  go_wp2_with (go_at_call 237; refine (hform.out _).mono ?_; rintro e w' ⟨rfl,rfl⟩)
  go_ret2
  exact ⟨rfl,rfl⟩

theorem prefix45 (a : UInt8) (r : List UInt8) : Lib.hasPrefix (a :: r) [45] = (a == 45) := by
 show ((45 : UInt8) == a && true) = (a == 45)
 rw [Bool.and_true,BEq.comm]
theorem rparse_any (s : ByteArray) (hs : s.size ≤ maxLen) (w : World) :
  Calls Tryz.prog 182 #[.string s] w fun e w' => e = pair (parV s.toList) (parE s.toList) ∧ w = w' := by
 have hlen := toList_len s
 by_cases hpos : 0 < s.size
 ·by_cases h45 : s[0] = 45
  ·have hL : s.toList = 45 :: s.toList.drop 1 := by
    rcases h : s.toList with _ | ⟨a,r⟩
    ·rw [h] at hlen; simp at hlen; omega
    ·have := toList_get s hpos (by omega)
     simp only [h] at this
     simp at this
     rw [this,h45]
     rfl
   have hneg : negL s.toList = true := by rw [hL,negL,prefix45]; rfl
   have hbody : bodyL s.toList = s.toList.drop 1 := by
    have : Lib.hasPrefix s.toList [45] = true := hneg
    simp [bodyL,Lib.trimPrefix,this]
   have h45i : (s[0].toNat : Int) = 45 := by rw [h45]; rfl
   obtain ⟨t,ht⟩ : ∃ t,s.extract 1 s.size = t := ⟨_,rfl⟩
   have htl : t.toList = s.toList.drop 1 := by
    rw [← ht,Go.ByteArray.toList_eq,Go.ByteArray.toList_eq]; simp [List.take_of_length_le]
   have hts : t.size ≤ maxLen := by
    have := toList_len t
    rw [htl,List.length_drop,hlen] at this
    omega
   have hf : FormIs s (okL s.toList) := fun w => by
    have := form_neg s t hs hpos h45i ht hts w
    rw [htl,← hbody] at this
    rw [okL,hneg,Bool.true_and]
    exact this
   unfold parV parE
   cases hok : okL s.toList
   ·rw [hok] at hf
    exact rparse_no s hs (Lib.hid hf) w
   ·rw [hok] at hf
    rw [hneg,hbody]
    refine rparse_neg s _ (Lib.hid rfl) hs hpos h45i (Lib.hid hf) (Lib.hid fun k hk h => ?_) w
    have hall : t.toList.all isDig = true := by
     rw [htl,← hbody]
     simp only [okL,decB,Bool.and_eq_true] at hok
     exact hok.1.1
    have hk' : k - 1 < t.toList.length := by rw [htl,List.length_drop,hlen]; omega
    have hd := all_get hall hk'
    have e : t.toList[k - 1] = s[k] := by
     have h1 : k < s.toList.length := by omega
     rw [← toList_get s h h1]
     simp only [htl,List.getElem_drop]
     congr 1
     omega
    rw [e] at hd
    exact dig_bd hd
  ·have hneg : negL s.toList = false := by
    rcases h : s.toList with _ | ⟨a,r⟩
    ·rfl
    ·have := toList_get s hpos (by omega)
     simp only [h] at this
     simp at this
     rw [negL,prefix45,this]
     simpa using h45
   have hbody : bodyL s.toList = s.toList := by
    have : Lib.hasPrefix s.toList [45] = false := hneg
    simp [bodyL,Lib.trimPrefix,this]
   have hf : FormIs s (okL s.toList) := fun w => by
    have := form_pos s hs (fun h => by
     rw [beq_eq_false_iff_ne]
     intro e
     exact h45 (UInt8.toNat_inj.1 (by have : s[0].toNat = 45 := by omega
                                      exact this.trans rfl))) w
    rw [okL,hneg,hbody,Bool.false_and]
    simpa using this
   unfold parV parE
   cases hok : okL s.toList
   ·rw [hok] at hf
    exact rparse_no s hs (Lib.hid hf) w
   ·rw [hok] at hf
    rw [hneg,hbody]
    refine rparse_pos s _ (Lib.hid rfl) hs hpos (Lib.hid hf) (Lib.hid fun k h => ?_) w
    have hall : s.toList.all isDig = true := by
     rw [okL,hbody] at hok
     simp only [decB,Bool.and_eq_true] at hok
     exact hok.1.1
    exact upto_of_all hall k h
 ·have hnil : s.toList = [] := List.eq_nil_of_length_eq_zero (by omega)
  have hf : FormIs s false := fun w => by
   have := form_pos s hs (fun h => absurd h hpos) w
   rw [hnil] at this
   exact this
  rw [hnil]
  exact rparse_no s hs (Lib.hid hf) w

end Num
end Go.Proofs.YtcapkeaedpabjaaGreatDoor
