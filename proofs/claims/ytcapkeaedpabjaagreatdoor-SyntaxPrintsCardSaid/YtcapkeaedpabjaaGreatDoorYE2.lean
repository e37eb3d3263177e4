/-
  Layer 8, texts merged: SynL. For every argument within the bounds that each theorem names.
-/
import Derived.Test.YtcapkeaedpabjaaGreatDoorYE1
set_option maxRecDepth 100000
set_option maxHeartbeats 16000000

/-
 Layer 8, plainly: what is read of good tokens is a good program.
-/
namespace Go.Proofs.YtcapkeaedpabjaaGreatDoor
namespace Syn
def OkR (r : List Ck) : Prop := (∀ c ∈ r,Lex.okT (tk c) = true) ∧ r.length ≤ 100000
theorem OkR.tail {r : List Ck} (h : OkR r) : OkR r.tail := ⟨fun c hc => h.1 c (List.mem_of_mem_tail hc),by rw [List.length_tail]; have := h.2; omega⟩
theorem OkR.hd {r : List Ck} (h : OkR r) (hk : (hd r).1 ≠ 0) : Lex.okT (tk (hd r)) = true := by
 cases r with
 | nil => exact absurd rfl hk
 | cons c r => exact h.1 c (List.mem_cons_self ..)
theorem all_bin {s : Txt} (h : allOps.contains s = true) : binL s ≠ 0 := by
 have hm := List.contains_iff_mem.1 h
 unfold allOps at hm
 simp only [List.mem_cons,List.not_mem_nil,or_false] at hm
 rcases hm with rfl | rfl | rfl | rfl | rfl | rfl | rfl | rfl | rfl | rfl | rfl | rfl | rfl <;> decide
theorem in_bin {l : Nat} {c : Ck} (h : inT (opsL l) c = true) : binL c.2.1 ≠ 0 := by
 unfold inT at h
 rw [Bool.and_eq_true] at h
 exact all_bin (ops_all l _ h.2)
theorem ok_name {c : Ck} (h : Lex.okT (tk c) = true) (hk : c.1 = 1) : nameB c.2.1 = true := by
 obtain ⟨k,s,i⟩ := c
 dsimp only at hk
 subst hk
 unfold tk Lex.okT at h
 unfold nameB tkn Lex.okT
 simp at h ⊢
 exact h.2
theorem ok_str {c : Ck} (h : Lex.okT (tk c) = true) (hk : c.1 = 4) : strB c.2.1 = true := by
 obtain ⟨k,s,i⟩ := c
 dsimp only at hk
 subst hk
 unfold tk Lex.okT at h
 unfold strB tkn Lex.okT
 simp at h ⊢
 exact h.2
theorem ok_host {c : Ck} (h : Lex.okT (tk c) = true) (hk : c.1 = 6) : hostB c.2.1 = true := by
 obtain ⟨k,s,i⟩ := c
 dsimp only at hk
 subst hk
 unfold tk Lex.okT at h
 unfold hostB tkn Lex.okT
 simp at h ⊢
 exact h.2
theorem ok_int {c : Ck} (h : Lex.okT (tk c) = true) (hk : c.1 = 3) : intB c.2.2 = true := by
 obtain ⟨k,s,i⟩ := c
 dsimp only at hk
 subst hk
 unfold tk Lex.okT at h
 unfold intB tkn Lex.okT
 simp at h ⊢
 exact h.2
theorem gEs_snoc : ∀ {a : Ts} {t : T},GEs a → GE t → GEs (snoc a t)
 | _,_,.nil,h => .cons _ .nil h .nil
 | _,_,.cons u r hu hr,h => .cons u _ hu (gEs_snoc hr h)
theorem gSs_snoc : ∀ {a : Ts} {t : T},GdSs a → GdS t → GdSs (snoc a t)
 | _,_,.nil,h => .cons _ .nil h .nil
 | _,_,.cons u r hu hr,h => .cons u _ hu (gSs_snoc hr h)
theorem cnt_snoc : ∀ (a : Ts) (t : T),count (snoc a t) = count a + 1
 | .nil,t => rfl
 | .cons u r,t => by
  have := cnt_snoc r t
  unfold snoc at this ⊢
  rw [app,count,this,count]
theorem asc_app : ∀ (ks : List Txt) (p : Option Txt) (k : Txt),ascB p ks = true → strB k = true → (match (ks.getLast?.or p) with | none => true | some l => !leqT k l) = true → ascB p (ks ++ [k]) = true
 | [],p,k,h,hk,hl => by
  rw [List.nil_append,asc_cons,hk,Bool.true_and,Bool.and_eq_true]
  simp only [List.getLast?_nil,Option.none_or] at hl
  exact ⟨by cases p <;> exact hl,rfl⟩
 | u :: r,p,k,h,hk,hl => by
  rw [asc_cons,Bool.and_eq_true,Bool.and_eq_true] at h
  rw [List.cons_append,asc_cons,h.1,h.2.1]
  have ih := asc_app r (some u) k h.2.2 hk (by
   rw [List.getLast?_cons] at hl
   cases hr : r.getLast? with
   | none => rw [hr] at hl; simpa using hl
   | some y => rw [hr] at hl; simpa using hl)
  rw [ih]
  rfl
theorem key_app {ks : List Txt} {c : Ck} (h : ascB none ks = true) (hk : keyB ks c = true) (ho : Lex.okT (tk c) = true) : ascB none (ks ++ [c.2.1]) = true := by
 unfold keyB at hk
 rw [Bool.and_eq_true] at hk
 have h4 : c.1 = 4 := by simpa using hk.1
 refine asc_app ks none _ h (ok_str ho h4) ?_
 rw [Option.or_none]
 exact hk.2
def RdG (n : Nat) : Prop :=
 (∀ l r t r',OkR r → rdE n l r = .ok t r' → GE t ∧ OkR r') ∧
 (∀ l u r t r',GE u → OkR r → chn n l u r = .ok t r' → GE t ∧ OkR r') ∧
 (∀ u r t r',GE u → OkR r → pst n u r = .ok t r' → GE t ∧ OkR r') ∧
 (∀ r t r',OkR r → prm n r = .ok t r' → GE t ∧ OkR r') ∧
 (∀ cl r ts r',OkR r → rdL n cl r = .ok ts r' → GEs ts ∧ OkR r') ∧
 (∀ cl acc r ts r',GEs acc → OkR r → rdI n cl acc r = .ok ts r' → GEs ts ∧ OkR r') ∧
 (∀ ks acc r x r',GEs acc → ks.length = count acc → ascB none ks = true → OkR r → rdQ n ks acc r = .ok x r' → (GEs x.2 ∧ x.1.length = count x.2 ∧ ascB none x.1 = true) ∧ OkR r')
theorem rd_good : ∀ n,RdG n
 | 0 => by
  refine ⟨?_,?_,?_,?_,?_,?_,?_⟩
  ·intro l r t r' _ h; rw [rdE] at h; cases h
  ·intro l u r t r' _ _ h; rw [chn] at h; cases h
  ·intro u r t r' _ _ h; rw [pst] at h; cases h
  ·intro r t r' _ h; rw [prm] at h; cases h
  ·intro cl r ts r' _ h; rw [rdL] at h; cases h
  ·intro cl acc r ts r' _ _ h; rw [rdI] at h; cases h
  ·intro ks acc r x r' _ _ _ _ h; rw [rdQ] at h; cases h
 | n + 1 => by
  obtain ⟨hE,hC,hP,hR,hL,hI,hQ⟩ := rd_good n
  refine ⟨?_,?_,?_,?_,?_,?_,?_⟩
  ·intro l r t r' ho h
   rw [rdE] at h
   split at h
   ·split at h
    ·split at h
     ·rename_i t2 r2 e
      cases h
      obtain ⟨a,b⟩ := hE _ _ _ _ ho.tail e
      exact ⟨.una _ _ (Or.inr rfl) a,b⟩
     ·cases h
    ·exact hE _ _ _ _ ho h
   split at h
   ·split at h
    ·rename_i t2 r2 e
     obtain ⟨a,b⟩ := hE _ _ _ _ ho e
     split at h
     ·rename_i hin
      split at h
      ·rename_i u r3 e2
       cases h
       obtain ⟨a2,b2⟩ := hE _ _ _ _ b.tail e2
       exact ⟨.bin _ _ _ (in_bin hin) a a2,b2⟩
      ·cases h
     ·cases h
      exact ⟨a,b⟩
    ·cases h
   split at h
   ·split at h
    ·split at h
     ·rename_i t2 r2 e
      cases h
      obtain ⟨a,b⟩ := hE _ _ _ _ ho.tail e
      exact ⟨.una _ _ (Or.inl rfl) a,b⟩
     ·cases h
    ·exact hE _ _ _ _ ho h
   split at h
   ·split at h
    ·rename_i t2 r2 e
     obtain ⟨a,b⟩ := hE _ _ _ _ ho e
     exact hP _ _ _ _ a b h
    ·cases h
   split at h
   ·exact hR _ _ _ ho h
   split at h
   ·rename_i t2 r2 e
    obtain ⟨a,b⟩ := hE _ _ _ _ ho e
    exact hC _ _ _ _ _ a b h
   ·cases h
  ·intro l u r t r' hu ho h
   rw [chn] at h
   split at h
   ·rename_i hin
    split at h
    ·rename_i t2 r2 e
     obtain ⟨a,b⟩ := hE _ _ _ _ ho.tail e
     exact hC _ _ _ _ _ (.bin _ _ _ (in_bin hin) hu a) b h
    ·cases h
   ·cases h
    exact ⟨hu,ho⟩
  ·intro u r t r' hu ho h
   rw [pst] at h
   split at h
   ·split at h
    ·rename_i t2 r2 e
     obtain ⟨a,b⟩ := hE _ _ _ _ ho.tail e
     split at h
     ·exact hP _ _ _ _ (.idx _ _ hu a) b.tail h
     ·cases h
    ·cases h
   ·cases h
    exact ⟨hu,ho⟩
  ·intro r t r' ho h
   rw [prm] at h
   by_cases hk : (hd r).1 = 3
   ·rw [if_pos hk] at h
    cases h
    exact ⟨.int _ (ok_int (ho.hd (by rw [hk]; decide)) hk),ho.tail⟩
   rw [if_neg hk] at h
   clear hk
   by_cases hk : (hd r).1 = 4
   ·rw [if_pos hk] at h
    cases h
    exact ⟨.str _ (ok_str (ho.hd (by rw [hk]; decide)) hk),ho.tail⟩
   rw [if_neg hk] at h
   clear hk
   by_cases hk : (hd r).1 = 1
   ·rw [if_pos hk] at h
    have hn := ok_name (ho.hd (by rw [hk]; decide)) hk
    by_cases hp : isT [40] (hd r.tail) = true
    ·rw [if_pos hp] at h
     cases e : rdL n [41] r.tail.tail with
     | ok ts r2 =>
      rw [e] at h
      cases h
      obtain ⟨a,b⟩ := hL _ _ _ _ ho.tail.tail e
      exact ⟨.call _ _ hn a,b⟩
     | bad r2 => rw [e] at h; cases h
    ·rw [if_neg hp] at h
     cases h
     exact ⟨.var _ hn,ho.tail⟩
   rw [if_neg hk] at h
   clear hk
   by_cases hk : (hd r).1 = 6
   ·rw [if_pos hk] at h
    have hn := ok_host (ho.hd (by rw [hk]; decide)) hk
    by_cases hp : isT [40] (hd r.tail) = true
    ·rw [if_pos hp] at h
     cases e : rdL n [41] r.tail.tail with
     | ok ts r2 =>
      rw [e] at h
      cases h
      obtain ⟨a,b⟩ := hL _ _ _ _ ho.tail.tail e
      exact ⟨.host _ _ hn a,b⟩
     | bad r2 => rw [e] at h; cases h
    ·rw [if_neg hp] at h
     cases h
   rw [if_neg hk] at h
   clear hk
   by_cases hk : isT [110,117,108,108] (hd r) = true
   ·rw [if_pos hk] at h
    cases h
    exact ⟨.null,ho.tail⟩
   rw [if_neg hk] at h
   clear hk
   by_cases hk : isT [102,97,108,115,101] (hd r) = true
   ·rw [if_pos hk] at h
    cases h
    exact ⟨.bool 0 (Or.inl rfl),ho.tail⟩
   rw [if_neg hk] at h
   clear hk
   by_cases hk : isT [116,114,117,101] (hd r) = true
   ·rw [if_pos hk] at h
    cases h
    exact ⟨.bool 1 (Or.inr rfl),ho.tail⟩
   rw [if_neg hk] at h
   clear hk
   by_cases hk : isT [91] (hd r) = true
   ·rw [if_pos hk] at h
    cases e : rdL n [93] r.tail with
    | ok ts r2 =>
     rw [e] at h
     cases h
     obtain ⟨a,b⟩ := hL _ _ _ _ ho.tail e
     exact ⟨.list _ a,b⟩
    | bad r2 => rw [e] at h; cases h
   rw [if_neg hk] at h
   clear hk
   by_cases hk : isT [123] (hd r) = true
   ·rw [if_pos hk] at h
    by_cases hp : isT [125] (hd r.tail) = true
    ·rw [if_pos hp] at h
     cases h
     exact ⟨.map [] .nil rfl rfl .nil,ho.tail.tail⟩
    ·rw [if_neg hp] at h
     cases e : rdQ n [] .nil r.tail with
     | ok x r2 =>
      rw [e] at h
      cases h
      obtain ⟨⟨a,b,c⟩,d⟩ := hQ _ _ _ _ _ .nil rfl rfl ho.tail e
      exact ⟨.map _ _ b c a,d⟩
     | bad r2 => rw [e] at h; cases h
   rw [if_neg hk] at h
   clear hk
   by_cases hk : isT [40] (hd r) = true
   ·rw [if_pos hk] at h
    cases e : rdE n 1 r.tail with
    | ok t2 r2 =>
     rw [e] at h
     dsimp only at h
     obtain ⟨a,b⟩ := hE _ _ _ _ ho.tail e
     by_cases hp : isT [41] (hd r2) = true
     ·rw [if_pos hp] at h
      cases h
      exact ⟨a,b.tail⟩
     ·rw [if_neg hp] at h
      cases h
    | bad r2 => rw [e] at h; cases h
   ·rw [if_neg hk] at h
    cases h
  ·intro cl r ts r' ho h
   rw [rdL] at h
   split at h
   ·cases h
    exact ⟨.nil,ho.tail⟩
   ·exact hI _ _ _ _ _ .nil ho h
  ·intro cl acc r ts r' ha ho h
   rw [rdI] at h
   split at h
   ·rename_i t2 r2 e
    obtain ⟨a,b⟩ := hE _ _ _ _ ho e
    split at h
    ·exact hI _ _ _ _ _ (gEs_snoc ha a) b.tail h
    split at h
    ·cases h
     exact ⟨gEs_snoc ha a,b.tail⟩
    ·cases h
   ·cases h
  ·intro ks acc r x r' ha hl hk ho h
   rw [rdQ] at h
   split at h
   ·rename_i hkb
    have h4 : (hd r).1 ≠ 0 := by
     unfold keyB at hkb
     rw [Bool.and_eq_true] at hkb
     have : (hd r).1 = 4 := by simpa using hkb.1
     omega
    have hk2 := key_app hk hkb (ho.hd h4)
    have hl2 : ∀ t : T,(ks ++ [(hd r).2.1]).length = count (snoc acc t) := fun t => by rw [cnt_snoc,List.length_append,List.length_singleton,hl]
    split at h
    ·split at h
     ·rename_i t2 r2 e
      obtain ⟨a,b⟩ := hE _ _ _ _ ho.tail.tail e
      split at h
      ·exact hQ _ _ _ _ _ (gEs_snoc ha a) (hl2 t2) hk2 b.tail h
      split at h
      ·cases h
       exact ⟨⟨gEs_snoc ha a,hl2 t2,hk2⟩,b.tail⟩
      ·cases h
     ·cases h
    ·cases h
   ·cases h
theorem rdN_good {n : Nat} {k : Int} {s : Txt} {r r' : List Ck} {t : T} (ho : OkR r) (h : rdN n k s r = .ok t r') : (∃ e,t = .node k s 0 [] (.cons e .nil) ∧ GE e) ∧ OkR r' := by
 unfold rdN at h
 split at h
 ·rename_i t2 r2 e
  obtain ⟨a,b⟩ := (rd_good n).1 _ _ _ _ ho e
  split at h
  ·cases h
   exact ⟨⟨_,rfl,a⟩,b.tail⟩
  ·cases h
 ·cases h
def RsG (n : Nat) : Prop :=
 (∀ r t r',OkR r → rdS n r = .ok t r' → GdS t ∧ OkR r') ∧
 (∀ k r t r',k = 15 ∨ k = 16 → OkR r → rdC n k r = .ok t r' → GdS t ∧ OkR r') ∧
 (∀ r t r',OkR r → rdB n r = .ok t r' → GdB t ∧ OkR r') ∧
 (∀ acc r t r',GdSs acc → OkR r → rdZ n acc r = .ok t r' → GdB t ∧ OkR r')
theorem rdA_good {n : Nat} {k : Int} {r r' : List Ck} {t : T} (hk : k = 13 ∨ k = 14) (ho : OkR r) (h : rdA n k r = .ok t r') : GdS t ∧ OkR r' := by
 unfold rdA at h
 split at h
 ·rename_i h1
  have hn := ok_name (ho.hd (by rw [h1]; decide)) h1
  split at h
  ·obtain ⟨⟨e,rfl,he⟩,b⟩ := rdN_good ho.tail.tail h
   rcases hk with rfl | rfl
   ·exact ⟨.lt _ _ hn he,b⟩
   ·exact ⟨.set _ _ hn he,b⟩
  ·cases h
 ·cases h
theorem rs_good : ∀ n,RsG n
 | 0 => by
  refine ⟨?_,?_,?_,?_⟩
  ·intro r t r' _ h; rw [rdS] at h; cases h
  ·intro k r t r' _ _ h; rw [rdC] at h; cases h
  ·intro r t r' _ h; rw [rdB] at h; cases h
  ·intro acc r t r' _ _ h; rw [rdZ] at h; cases h
 | n + 1 => by
  obtain ⟨hS,hC,hB,hZ⟩ := rs_good n
  refine ⟨?_,?_,?_,?_⟩
  ·intro r t r' ho h
   rw [rdS] at h
   split at h
   ·exact rdA_good (Or.inl rfl) ho.tail h
   split at h
   ·exact rdA_good (Or.inr rfl) ho h
   split at h
   ·exact hC _ _ _ _ (Or.inl rfl) ho.tail h
   split at h
   ·exact hC _ _ _ _ (Or.inr rfl) ho.tail h
   split at h
   ·obtain ⟨⟨e,rfl,he⟩,b⟩ := rdN_good ho.tail h
    exact ⟨.ret _ he,b⟩
   ·obtain ⟨⟨e,rfl,he⟩,b⟩ := rdN_good ho h
    exact ⟨.drop _ he,b⟩
  ·intro k r t r' hk ho h
   rw [rdC] at h
   split at h
   ·cases h
   ·rename_i c r1 e
    obtain ⟨a,b⟩ := (rd_good n).1 _ _ _ _ ho e
    split at h
    ·cases h
    ·rename_i bb r2 e2
     obtain ⟨a2,b2⟩ := hB _ _ _ b e2
     split at h
     ·rename_i hel
      split at h
      ·cases h
      ·rename_i d r3 e3
       cases h
       obtain ⟨a3,b3⟩ := hB _ _ _ b2.tail e3
       rw [hel.1]
       exact ⟨.if2 _ _ _ a a2 a3,b3⟩
     ·cases h
      rcases hk with rfl | rfl
      ·exact ⟨.if1 _ _ a a2,b2⟩
      ·exact ⟨.wh _ _ a a2,b2⟩
  ·intro r t r' ho h
   rw [rdB] at h
   split at h
   ·exact hZ _ _ _ _ .nil ho.tail h
   ·cases h
  ·intro acc r t r' ha ho h
   rw [rdZ] at h
   split at h
   ·cases h
    exact ⟨.blk _ ha,ho.tail⟩
   ·split at h
    ·rename_i t2 r2 e
     obtain ⟨a,b⟩ := hS _ _ _ ho e
     exact hZ _ _ _ _ (gSs_snoc ha a) b h
    ·cases h
theorem rdM_good : ∀ (n : Nat) (ps : List Txt) (r : List Ck) (qs : List Txt) (r' : List Ck),(∀ p ∈ ps,nameB p = true) → OkR r → ps.length + r.length ≤ 100000 → rdM n ps r = .ok qs r' → (∀ p ∈ qs,nameB p = true) ∧ OkR r' ∧ qs.length ≤ 100000
 | 0,ps,r,qs,r',_,_,_,h => by rw [rdM] at h; cases h
 | n + 1,ps,r,qs,r',hp,ho,hl,h => by
  rw [rdM] at h
  split at h
  ·rename_i h1
   have hn := ok_name (ho.hd (by rw [h1]; decide)) h1
   have ht := tail_lt (kind_cons h1 (by decide))
   have hp2 : ∀ p ∈ ps ++ [(hd r).2.1],nameB p = true := fun p hq => by
    rcases List.mem_append.1 hq with q | q
    ·exact hp p q
    ·rw [List.mem_singleton.1 q]; exact hn
   split at h
   ·exact rdM_good n _ _ _ _ hp2 ho.tail.tail (by rw [List.length_append,List.length_singleton,List.length_tail]; omega) h
   split at h
   ·cases h
    exact ⟨hp2,ho.tail.tail,by rw [List.length_append,List.length_singleton]; omega⟩
   ·cases h
  ·cases h
def GFu (f : Fu) : Prop := GdB f.body ∧ nameB f.name = true ∧ (∀ p ∈ f.params,nameB p = true) ∧ f.params.length ≤ 100000
theorem rdF_good {n : Nat} {r r' : List Ck} {f : Fu} (ho : OkR r) (h : rdF n r = .ok f r') : GFu f ∧ OkR r' := by
 unfold rdF at h
 split at h
 ·rename_i h1
  have hn := ok_name (ho.hd (by rw [h1]; decide)) h1
  split at h
  ·split at h
   ·cases h
   ·rename_i ps r1 e
    have hps : (∀ p ∈ ps,nameB p = true) ∧ OkR r1 ∧ ps.length ≤ 100000 := by
     split at e
     ·cases e
      exact ⟨fun p hp => (by cases hp),ho.tail.tail.tail,Nat.zero_le _⟩
     ·exact rdM_good n _ _ _ _ (fun p hp => (by cases hp)) ho.tail.tail (by have := ho.tail.tail.2; simp only [List.length_nil]; omega) e
    split at h
    ·rename_i b r2 e2
     cases h
     obtain ⟨a,b2⟩ := (rs_good n).2.2.1 _ _ _ hps.2.1 e2
     exact ⟨⟨a,hn,hps.1,hps.2.2⟩,b2⟩
    ·cases h
  ·cases h
 ·cases h
theorem rdG_good : ∀ (n : Nat) (fs : List Fu) (r : List Ck) (gs : List Fu) (r' : List Ck),(∀ f ∈ fs,GFu f) → OkR r → rdG n fs r = .ok gs r' → ∀ f ∈ gs,GFu f
 | 0,fs,r,gs,r',_,_,h => by rw [rdG] at h; cases h
 | n + 1,fs,r,gs,r',hf,ho,h => by
  rw [rdG] at h
  split at h
  ·split at h
   ·rename_i f r1 e
    obtain ⟨a,b⟩ := rdF_good ho.tail e
    exact rdG_good n _ _ _ _ (fun g hg => by
     rcases List.mem_append.1 hg with q | q
     ·exact hf g q
     ·rw [List.mem_singleton.1 q]; exact a) b h
   ·cases h
  ·split at h
   ·cases h
    exact hf
   ·cases h
mutual
theorem gE_good : ∀ {t : T},GE t → goodT t ∧ roleI (kT t) = 1
 | _,.null => by rw [leaf,goodT,goodTs]; exact ⟨⟨by decide,trivial⟩,rfl⟩
 | _,.bool i h => by rw [leaf,goodT,goodTs]; rcases h with rfl | rfl <;> exact ⟨⟨by decide,trivial⟩,rfl⟩
 | _,.int i h => by rw [leaf,goodT,goodTs]; exact ⟨⟨⟨by decide,h,by decide,by decide⟩,trivial⟩,rfl⟩
 | _,.str s h => by rw [leaf,goodT,goodTs]; exact ⟨⟨⟨h,by decide,by decide,by decide⟩,trivial⟩,rfl⟩
 | _,.var s h => by rw [leaf,goodT,goodTs]; exact ⟨⟨⟨h,by decide,by decide,by decide⟩,trivial⟩,rfl⟩
 | _,.list ts h => by
  obtain ⟨a,b⟩ := gEs_good h
  rw [goodT]
  refine ⟨⟨⟨by decide,by decide,?_,?_⟩,a⟩,rfl⟩
  ·unfold keysB; simp
  ·unfold partB; simpa using b
 | _,.map keys ts hl ha h => by
  obtain ⟨a,b⟩ := gEs_good h
  rw [goodT]
  refine ⟨⟨⟨by decide,by decide,?_,?_⟩,a⟩,rfl⟩
  ·unfold keysB; simp [hl,ha]
  ·unfold partB; simpa using b
 | _,.una s a hs h => by
  obtain ⟨g1,g2⟩ := gE_good h
  rw [una,goodT,goodTs,goodTs,rolesT,rolesT,g2]
  refine ⟨⟨⟨?_,by decide,rfl,by decide⟩,g1,trivial⟩,rfl⟩
  rcases hs with rfl | rfl <;> decide
 | _,.bin s a b hs h1 h2 => by
  obtain ⟨g1,g2⟩ := gE_good h1
  obtain ⟨g3,g4⟩ := gE_good h2
  rw [bin,goodT,goodTs,goodTs,goodTs,rolesT,rolesT,rolesT,g2,g4]
  refine ⟨⟨⟨?_,by decide,rfl,by decide⟩,g1,g3,trivial⟩,rfl⟩
  unfold textB
  simp [hs]
 | _,.idx a b h1 h2 => by
  obtain ⟨g1,g2⟩ := gE_good h1
  obtain ⟨g3,g4⟩ := gE_good h2
  rw [idx,goodT,goodTs,goodTs,goodTs,rolesT,rolesT,rolesT,g2,g4]
  exact ⟨⟨⟨by decide,by decide,rfl,by decide⟩,g1,g3,trivial⟩,rfl⟩
 | _,.call s ts hs h => by
  obtain ⟨a,b⟩ := gEs_good h
  rw [goodT]
  refine ⟨⟨⟨?_,by decide,?_,?_⟩,a⟩,rfl⟩
  ·unfold textB; simpa using hs
  ·unfold keysB; simp
  ·unfold partB; simpa using b
 | _,.host s ts hs h => by
  obtain ⟨a,b⟩ := gEs_good h
  rw [goodT]
  refine ⟨⟨⟨?_,by decide,?_,?_⟩,a⟩,rfl⟩
  ·unfold textB; simpa using hs
  ·unfold keysB; simp
  ·unfold partB; simpa using b
theorem gEs_good : ∀ {ts : Ts},GEs ts → goodTs ts ∧ ∀ v ∈ rolesT ts,v = 1
 | _,.nil => by rw [goodTs]; exact ⟨trivial,fun v hv => by cases hv⟩
 | _,.cons t r h hr => by
  obtain ⟨g1,g2⟩ := gE_good h
  obtain ⟨g3,g4⟩ := gEs_good hr
  rw [goodTs,rolesT]
  exact ⟨⟨g1,g3⟩,fun v hv => by
   rcases List.mem_cons.1 hv with rfl | hv
   ·exact g2
   ·exact g4 v hv⟩
end
mutual
theorem gS_good : ∀ {t : T},GdS t → goodT t ∧ roleI (kT t) = 2
 | _,.lt s e hs h => by
  obtain ⟨g1,g2⟩ := gE_good h
  rw [goodT,goodTs,goodTs,rolesT,rolesT,g2]
  refine ⟨⟨⟨?_,by decide,rfl,by decide⟩,g1,trivial⟩,rfl⟩
  unfold textB; simpa using hs
 | _,.set s e hs h => by
  obtain ⟨g1,g2⟩ := gE_good h
  rw [goodT,goodTs,goodTs,rolesT,rolesT,g2]
  refine ⟨⟨⟨?_,by decide,rfl,by decide⟩,g1,trivial⟩,rfl⟩
  unfold textB; simpa using hs
 | _,.if1 e b h hb => by
  obtain ⟨g1,g2⟩ := gE_good h
  obtain ⟨g3,g4⟩ := gB_good hb
  rw [goodT,goodTs,goodTs,goodTs,rolesT,rolesT,rolesT,g2,g4]
  exact ⟨⟨⟨by decide,by decide,rfl,by decide⟩,g1,g3,trivial⟩,rfl⟩
 | _,.if2 e b f h hb hf => by
  obtain ⟨g1,g2⟩ := gE_good h
  obtain ⟨g3,g4⟩ := gB_good hb
  obtain ⟨g5,g6⟩ := gB_good hf
  rw [goodT,goodTs,goodTs,goodTs,goodTs,rolesT,rolesT,rolesT,rolesT,g2,g4,g6]
  exact ⟨⟨⟨by decide,by decide,rfl,by decide⟩,g1,g3,g5,trivial⟩,rfl⟩
 | _,.wh e b h hb => by
  obtain ⟨g1,g2⟩ := gE_good h
  obtain ⟨g3,g4⟩ := gB_good hb
  rw [goodT,goodTs,goodTs,goodTs,rolesT,rolesT,rolesT,g2,g4]
  exact ⟨⟨⟨by decide,by decide,rfl,by decide⟩,g1,g3,trivial⟩,rfl⟩
 | _,.ret e h => by
  obtain ⟨g1,g2⟩ := gE_good h
  rw [goodT,goodTs,goodTs,rolesT,rolesT,g2]
  exact ⟨⟨⟨by decide,by decide,rfl,by decide⟩,g1,trivial⟩,rfl⟩
 | _,.drop e h => by
  obtain ⟨g1,g2⟩ := gE_good h
  rw [goodT,goodTs,goodTs,rolesT,rolesT,g2]
  exact ⟨⟨⟨by decide,by decide,rfl,by decide⟩,g1,trivial⟩,rfl⟩
theorem gB_good : ∀ {t : T},GdB t → goodT t ∧ roleI (kT t) = 3
 | _,.blk ts h => by
  obtain ⟨a,b⟩ := gSs_good h
  rw [goodT]
  refine ⟨⟨⟨by decide,by decide,?_,?_⟩,a⟩,rfl⟩
  ·unfold keysB; simp
  ·unfold partB; simpa using b
theorem gSs_good : ∀ {ts : Ts},GdSs ts → goodTs ts ∧ ∀ v ∈ rolesT ts,v = 2
 | _,.nil => by rw [goodTs]; exact ⟨trivial,fun v hv => by cases hv⟩
 | _,.cons t r h hr => by
  obtain ⟨g1,g2⟩ := gS_good h
  obtain ⟨g3,g4⟩ := gSs_good hr
  rw [goodTs,rolesT]
  exact ⟨⟨g1,g3⟩,fun v hv => by
   rcases List.mem_cons.1 hv with rfl | hv
   ·exact g2
   ·exact g4 v hv⟩
end
theorem gFu_good {f : Fu} (h : GFu f) : goodFu f := by
 obtain ⟨h1,h2,h3,-⟩ := h
 obtain ⟨a,b⟩ := gB_good h1
 exact ⟨a,role_kind.2.2 b,h2,h3⟩
def SmallN (m : Nat) (x : Nd) : Prop := (0 ≤ x.i ∧ x.i ≤ 1000000000000) ∧ x.keys.length ≤ m ∧ x.kids.length ≤ m
theorem int_small {k i : Int} (h : intF k i = true) : 0 ≤ i ∧ i ≤ 1000000000000 := by
 unfold intF at h
 split at h
 ·simp at h; omega
 split at h
 ·unfold intB tkn Lex.okT at h
  simpa using h
 ·simp at h; omega
mutual
theorem flat_small : ∀ (t : T) (b m : Nat),goodT t → size t ≤ m → ∀ x ∈ flat b t,SmallN m x
 | .node k s i keys ts,b,m,h,hs,x,hx => by
  rw [goodT] at h
  rw [size] at hs
  rw [flat] at hx
  rcases List.mem_append.1 hx with q | q
  ·exact flats_small ts b m h.2 (by omega) x q
  ·rw [List.mem_singleton.1 q]
   have hc := sizes_le ts
   refine ⟨int_small h.1.2.1,?_,by show (roots b ts).length ≤ m; rw [roots_len]; omega⟩
   have hk := h.1.2.2.1
   unfold keysB at hk
   split at hk
   ·rw [Bool.and_eq_true,decide_eq_true_eq] at hk
    show keys.length ≤ m
    omega
   ·rw [decide_eq_true_eq] at hk
    show keys.length ≤ m
    omega
theorem flats_small : ∀ (ts : Ts) (b m : Nat),goodTs ts → sizes ts ≤ m → ∀ x ∈ flats b ts,SmallN m x
 | .nil,b,m,_,_,x,hx => by rw [flats] at hx; cases hx
 | .cons t r,b,m,h,hs,x,hx => by
  rw [goodTs] at h
  rw [sizes] at hs
  rw [flats] at hx
  rcases List.mem_append.1 hx with q | q
  ·exact flat_small t b m h.1 (by omega) x q
  ·exact flats_small r _ m h.2 (by omega) x q
end
theorem flatF_small : ∀ (fs : List Fu) (b m : Nat),(∀ f ∈ fs,goodFu f) → sizeF fs ≤ m → ∀ x ∈ flatF b fs,SmallN m x
 | [],b,m,_,_,x,hx => by rw [flatF] at hx; cases hx
 | f :: fs,b,m,h,hs,x,hx => by
  rw [sizeF] at hs
  rw [flatF] at hx
  rcases List.mem_append.1 hx with q | q
  ·exact flat_small f.body b m (h f (List.mem_cons_self ..)).1 (by omega) x q
  ·exact flatF_small fs _ m (fun g hg => h g (List.mem_cons_of_mem _ hg)) (by omega) x q
end Syn
end Go.Proofs.YtcapkeaedpabjaaGreatDoor
