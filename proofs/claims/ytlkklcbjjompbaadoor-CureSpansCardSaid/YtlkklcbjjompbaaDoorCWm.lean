/- Part of a proof by a machine of ones own: see the text with the theorem. -/
import Derived.Test.YtlkklcbjjompbaaDoorCWl
import Derived.Test.YtlkklcbjjompbaaDoorCT8
namespace Go.Proofs.YtlkklcbjjompbaaDoor.walk
open Go Go.Sh
set_option maxRecDepth 100000
def capF (n:Nat) (lo:Int) (U:Nat→Sp):Nat→Sp:=updS U n (bothS (U n) (lo,1000000))
def fwF (L C:Nat→Sp):Nat→Sp
 | 0=>C 0
 | i + 1=>bothS (C (i + 1)) (restS (fwF L C i) (L i))
def bkF (n:Nat) (L G:Nat→Sp):Nat→Sp
 | 0=>G n
 | j + 1=>bothS (G (n - (j + 1))) (wholeS (bkF n L G j) (L (n - (j + 1))))
def refR (n:Nat) (lo hi:Int) (L U:Nat→Sp) (k:Nat):Sp :=
 if k≤n then bkF n L (fwF L (capF n lo U)) (n - k) else (lo,min hi (bkF n L (fwF L (capF n lo U)) 0).2)
theorem both_sub (a b:Sp):subS (bothS a b) a∧subS (bothS a b) b:=by
 unfold subS bothS; simp only; omega
theorem both_in {x:Int} {a b:Sp}:inn x (bothS a b) ↔ inn x a∧inn x b:=by
 unfold inn bothS; simp only; omega
theorem bk_step {n:Nat} {L G:Nat→Sp} {k:Nat} (h:k < n):bkF n L G (n - k)=bothS (G k) (wholeS (bkF n L G (n - (k + 1))) (L k)):=by
 have e:n - k=(n - (k + 1)) + 1:=by omega
 rw [e]
 show bothS (G (n - ((n - (k + 1)) + 1))) (wholeS (bkF n L G (n - (k + 1))) (L (n - ((n - (k + 1)) + 1))))=_
 rw [show n - ((n - (k + 1)) + 1)=k by omega]
theorem ref_exact {n:Nat} {lo hi:Int} {L U:Nat→Sp} (hL:∀ i,i < n→(L i).1≤(L i).2) (hLn:L n=(0,1000000)) (hlo:1≤lo∧lo≤hi) (hU:U (n + 1)=(lo,hi)) (hUn:(U n).2≤1000000)
  (hne:∀ k,k≤n→(refR n lo hi L U k).1≤(refR n lo hi L U k).2):ExactS (n + 1) L U (refR n lo hi L U):=by
 obtain ⟨C,hC⟩:∃ C,C=capF n lo U:=⟨_,rfl⟩
 obtain ⟨G,hG⟩:∃ G,G=fwF L C:=⟨_,rfl⟩
 obtain ⟨B,hB⟩:∃ B:Nat→Sp,B=fun k=>bkF n L G (n - k):=⟨_,rfl⟩
 have eR:∀ k,k≤n→refR n lo hi L U k=B k:=fun k hk=>by rw [hB,hG,hC]; unfold refR; rw [if_pos hk]
 have eR1:refR n lo hi L U (n + 1)=(lo,min hi (B n).2):=by rw [hB,hG,hC]; unfold refR; rw [if_neg (by omega)]; simp only [Nat.sub_self]
 have eBn:B n=G n:=by rw [hB]; simp only [Nat.sub_self]; rfl
 have eBs:∀ k,k < n→B k=bothS (G k) (wholeS (B (k + 1)) (L k)):=fun k hk=>by rw [hB]; exact bk_step hk
 have eGs:∀ k,G (k + 1)=bothS (C (k + 1)) (restS (G k) (L k)):=fun k=>by rw [hG]; rfl
 have eG0:G 0=C 0:=by rw [hG]; rfl
 have eCn:C n=bothS (U n) (lo,1000000):=by rw [hC]; unfold capF updS; rw [if_pos rfl]
 have eCo:∀ k,k ≠ n→C k=U k:=fun k hk=>by rw [hC]; unfold capF updS; rw [if_neg hk]
 have sGC:∀ k,subS (G k) (C k):=fun k=>by
  cases k with
  | zero=>rw [eG0]; exact subS.refl _
  | succ k=>rw [eGs]; exact (both_sub _ _).1
 have sBG:∀ k,k≤n→subS (B k) (G k):=fun k hk=>by
  by_cases e:k=n
  ·subst e; rw [eBn]; exact subS.refl _
  ·rw [eBs k (by omega)]; exact (both_sub _ _).1
 have sCU:∀ k,subS (C k) (U k):=fun k=>by
  by_cases e:k=n
  ·subst e; rw [eCn]; exact (both_sub _ _).1
  ·rw [eCo k e]; exact subS.refl _
 have nB:∀ k,k≤n→(B k).1≤(B k).2:=fun k hk=>by rw [← eR k hk]; exact hne k hk
 have bn1:lo≤(B n).1:=by
  have h1:=(sGC n).1
  rw [eCn] at h1
  rw [eBn]
  unfold bothS at h1
  simp only at h1
  omega
 have bn2:(B n).2≤1000000:=by
  have h1:=(sGC n).2
  rw [eCn] at h1
  rw [eBn]
  unfold bothS at h1
  simp only at h1
  omega
 have nbn:=nB n (Nat.le_refl _)
 refine ⟨fun k hk=>?_,fun k hk=>?_,fun x=>⟨fun h=>⟨fun i hi=>?_,h.2⟩,fun h=>⟨fun i hi=>?_,h.2⟩⟩⟩
 ·by_cases e:k=n
  ·subst e
   rw [eR k (Nat.le_refl _),eR1,hLn]
   simp only
   omega
  ·have hk':k < n:=by omega
   rw [eR k (by omega),eR (k + 1) (by omega)]
   have h1:=eBs k hk'
   have h2:=(sBG (k + 1) (by omega))
   have h3:=eGs k
   have hl:=hL k hk'
   rw [h1]
   unfold subS at h2
   rw [h3] at h2
   unfold bothS restS at h2
   unfold bothS wholeS
   simp only at h2 ⊢
   omega
 ·by_cases e:k=n + 1
  ·subst e; rw [eR1]; simp only; omega
  ·rw [eR k (by omega)]; exact nB k (by omega)
 ·by_cases e:i=n + 1
  ·subst e
   have:=h.1 (n + 1) (Nat.le_refl _)
   rw [eR1] at this
   rw [hU]
   unfold inn at this ⊢
   simp only at this ⊢
   omega
  ·have:=h.1 i hi
   rw [eR i (by omega)] at this
   have h1:=sBG i (by omega)
   have h2:=sGC i
   have h3:=sCU i
   unfold inn at this ⊢
   unfold subS at h1 h2 h3
   omega
 ·have hxn:inn (x n) (U n):=h.1 n (by omega)
  have hx1:inn (x (n + 1)) (U (n + 1)):=h.1 (n + 1) (Nat.le_refl _)
  have hd:=h.2 n (by omega)
  rw [hU] at hx1
  rw [hLn] at hd
  unfold inn at hxn hx1 hd
  simp only at hx1 hd
  have inC:∀ k,k≤n→inn (x k) (C k):=fun k hk=>by
   by_cases e:k=n
   ·subst e
    rw [eCn,both_in]
    unfold inn
    simp only
    omega
   ·rw [eCo k e]; exact h.1 k (by omega)
  have inG:∀ k,k≤n→inn (x k) (G k):=by
   intro k
   induction k with
   | zero=>intro hk; rw [eG0]; exact inC 0 hk
   | succ k ih =>
    intro hk
    rw [eGs,both_in]
    refine ⟨inC _ hk,?_⟩
    have h1:=ih (by omega)
    have h2:=h.2 k (by omega)
    unfold inn restS at *
    simp only at *
    omega
  have inB:∀ j,j≤n→inn (x (n - j)) (B (n - j)):=by
   intro j
   induction j with
   | zero=>intro _; rw [Nat.sub_zero,eBn]; exact inG n (Nat.le_refl _)
   | succ j ih =>
    intro hj
    rw [eBs (n - (j + 1)) (by omega),both_in]
    refine ⟨inG _ (by omega),?_⟩
    have h1:=ih (by omega)
    have h2:=h.2 (n - (j + 1)) (by omega)
    rw [show n - (j + 1) + 1=n - j by omega] at *
    unfold inn wholeS at *
    simp only at *
    omega
  by_cases e:i=n + 1
  ·subst e
   rw [eR1]
   have:=inB 0 (Nat.zero_le _)
   rw [Nat.sub_zero] at this
   unfold inn at this ⊢
   simp only
   omega
  ·rw [eR i (by omega)]
   have:=inB (n - i) (by omega)
   rwa [show n - (n - i)=i by omega] at this
theorem ref_ne {n:Nat} {lo hi:Int} {L U:Nat→Sp} (hLn:L n=(0,1000000)) (hU:U (n + 1)=(lo,hi)) (hUn:(U n).2≤1000000) {x:Nat→Int} (h:SolS (n + 1) L U x):∀ k,k≤n→(refR n lo hi L U k).1≤(refR n lo hi L U k).2:=by
 obtain ⟨C,hC⟩:∃ C,C=capF n lo U:=⟨_,rfl⟩
 obtain ⟨G,hG⟩:∃ G,G=fwF L C:=⟨_,rfl⟩
 have hxn:inn (x n) (U n):=h.1 n (by omega)
 have hx1:inn (x (n + 1)) (U (n + 1)):=h.1 (n + 1) (Nat.le_refl _)
 have hd:=h.2 n (by omega)
 rw [hU] at hx1
 rw [hLn] at hd
 unfold inn at hxn hx1 hd
 simp only at hx1 hd
 have inC:∀ k,k≤n→inn (x k) (C k):=fun k hk=>by
  rw [hC]
  unfold capF updS
  by_cases e:k=n
  ·subst e
   rw [if_pos rfl,both_in]
   unfold inn
   simp only
   omega
  ·rw [if_neg e]; exact h.1 k (by omega)
 have inG:∀ k,k≤n→inn (x k) (G k):=by
  intro k
  induction k with
  | zero=>intro hk; rw [hG]; exact inC 0 hk
  | succ k ih =>
   intro hk
   rw [show G (k + 1)=bothS (C (k + 1)) (restS (G k) (L k)) by rw [hG]; rfl,both_in]
   refine ⟨inC _ hk,?_⟩
   have h1:=ih (by omega)
   have h2:=h.2 k (by omega)
   unfold inn restS at *
   simp only at *
   omega
 have inB:∀ j,j≤n→inn (x (n - j)) (bkF n L G j):=by
  intro j
  induction j with
  | zero=>intro _; exact inG n (Nat.le_refl _)
  | succ j ih =>
   intro hj
   show inn _ (bothS (G (n - (j + 1))) (wholeS (bkF n L G j) (L (n - (j + 1)))))
   rw [both_in]
   refine ⟨inG _ (by omega),?_⟩
   have h1:=ih (by omega)
   have h2:=h.2 (n - (j + 1)) (by omega)
   rw [show n - (j + 1) + 1=n - j by omega] at *
   unfold inn wholeS at *
   simp only at *
   omega
 intro k hk
 have:=inB (n - k) (by omega)
 unfold refR
 rw [if_pos hk,← hC,← hG]
 unfold inn at this
 omega
def refOk (n:Nat) (lo hi:Int) (L U:Nat→Sp):Bool:=(List.range (n + 1)).all fun k=>decide ((refR n lo hi L U k).1≤(refR n lo hi L U k).2)
def refB (b:CBox) (L:List Sp) (l:List CRead) (k:Nat):Sp:=refR L.length b.sl b.sh (gtS (losL L)) (gtS (iniW b L l)) k
def okB (b:CBox) (L:List Sp) (l:List CRead):Bool:=refOk L.length b.sl b.sh (gtS (losL L)) (gtS (iniW b L l))
theorem los_end (L:List Sp):gtS (losL L) L.length=(0,1000000):=by
 unfold gtS losL
 simp
theorem ref_wei {b:CBox} {L:List Sp} {l:List CRead} (hb:boxB b=true) (hL:LosW (losL L)) (hlen:L.length≤14):(okB b L l=(weighF b L l).isSome)∧∀ V,weighF b L l=some V→∀ k,k≤L.length + 1→refB b L l k=gtS V k:=by
 have hbx:=hb
 simp only [boxB,spanI,Bool.and_eq_true,decide_eq_true_eq] at hbx
 have hU1:gtS (iniW b L l) (L.length + 1)=(b.sl,b.sh):=by
  rw [iniW_at hlen (Nat.le_refl _)]
  unfold iniF iniG
  rw [if_neg (by omega),if_pos rfl]
 have hUn:(gtS (iniW b L l) L.length).2≤1000000:=by
  rw [iniW_at hlen (by omega)]
  have h2:(iniF b L.length l (L.length + 1) L.length).2≤(iniG b L.length L.length).2:=by
   unfold iniF; split
   ·exact fold_hi _ _
   ·exact Int.le_refl _
  have h3:(iniG b L.length L.length).2≤1000000:=by
   unfold iniG
   repeat' split
   all_goals simp only; omega
  omega
 have hle:∀ i,i < L.length→(gtS (losL L) i).1≤(gtS (losL L) i).2:=fun i _=>(hL i).2.1
 have hle1:∀ i,i < L.length + 1→(gtS (losL L) i).1≤(gtS (losL L) i).2:=fun i _=>(hL i).2.1
 have key:okB b L l=true→ExactS (L.length + 1) (gtS (losL L)) (gtS (iniW b L l)) (refB b L l):=fun h=>by
  refine ref_exact hle (los_end L) ⟨by omega,by omega⟩ hU1 hUn fun k hk=>?_
  have:=List.all_eq_true.1 h k (List.mem_range.2 (by omega))
  simpa using this
 cases hV:weighF b L l with
 | some V =>
  have ok:=weigh_ok hb hL hlen hV
  have hex:=ok.exact
  have hx:=(hex.low hle1 (a:=0) (by omega) (v:=(gtS V 0).1) ⟨Int.le_refl _,hex.ne 0 (by omega)⟩).1
  have hok:okB b L l=true:=by
   unfold okB refOk
   rw [List.all_eq_true]
   intro k hk
   rw [List.mem_range] at hk
   exact decide_eq_true (ref_ne (los_end L) hU1 hUn hx k (by omega))
  refine ⟨by rw [hok]; rfl,fun V' h k hk=>?_⟩
  cases h
  exact hex.uniq (key hok) hle1 k hk
 | none =>
  refine ⟨?_,fun V h=>by cases h⟩
  cases ho:okB b L l with
  | false=>rfl
  | true =>
   have hex:=key ho
   have hx:=(hex.low hle1 (a:=0) (by omega) (v:=(refB b L l 0).1) ⟨Int.le_refl _,hex.ne 0 (by omega)⟩).1
   obtain ⟨V,hV'⟩:=wei_some hlen hx
   rw [hV] at hV'; cases hV'
end Go.Proofs.YtlkklcbjjompbaaDoor.walk
namespace Go.Proofs.YtlkklcbjjompbaaDoor.walk
open Go Go.Sh
set_option maxRecDepth 100000
set_option linter.unusedSimpArgs false
def RowF (n:Nat) (f:Nat→Sp):List Value:=((List.range (n + 1)).map f).flatMap spC
theorem rowF_congr {n:Nat} {f g:Nat→Sp} (h:∀ k,k≤n→f k=g k):RowF n f=RowF n g:=by
 unfold RowF
 congr 1
 refine List.map_congr_left fun k hk=>h k ?_
 rw [List.mem_range] at hk; omega
theorem rowF_len (n:Nat) (f:Nat→Sp):(RowF n f).length=(n + 1) * 2:=by unfold RowF; rw [flat_length spC_length]; simp
theorem rowF_at {n k:Nat} {f:Nat→Sp} (hk:k≤n):((RowF n f).drop (k * 2)).take 2=[.int .i64 (f k).1,.int .i64 (f k).2]:=by
 have h:((List.range (n + 1)).map f)[k]?=some (f k):=by rw [List.getElem?_map,List.getElem?_range (by omega)]; rfl
 have:=(flat_at spC_length _ k _ [] h).1
 rwa [List.append_nil] at this
theorem rowF_one {n k:Nat} {f:Nat→Sp} (hk:k≤n):(RowF n f)[k * 2]?=some (.int .i64 (f k).1)∧(RowF n f)[k * 2 + 1]?=some (.int .i64 (f k).2):=by
 have h:=rowF_at (f:=f) hk
 have h0:=congrArg (fun l=>l[0]?) h
 have h1:=congrArg (fun l=>l[1]?) h
 simp only [List.getElem?_take,List.getElem?_drop] at h0 h1
 exact ⟨by simpa using h0,by simpa using h1⟩
theorem rowF_set {n k:Nat} {f:Nat→Sp} (hk:k≤n) (a b:Int):(RowF n f).take (k * 2)++.int .i64 a::.int .i64 b::(RowF n f).drop (k * 2 + 2)=RowF n (updS f k (a,b)):=by
 have h:=flat_set spC_length ((List.range (n + 1)).map f) k (a,b) (by simp; omega)
 have e:((List.range (n + 1)).map f).set k (a,b)=(List.range (n + 1)).map (updS f k (a,b)):=by
  apply List.ext_getElem?
  intro i
  rw [List.getElem?_set,List.getElem?_map,List.getElem?_map]
  by_cases hi:i < n + 1
  ·rw [List.getElem?_range hi]
   by_cases e:k=i
   ·subst e; simp [updS]; omega
   ·rw [if_neg e]; simp [updS,Ne.symm e]
  ·rw [List.getElem?_eq_none (by simp; omega),if_neg (by omega)]; rfl
 rw [e] at h
 exact h
structure RowX (cs:List Value) (n:Nat) (f:Nat→Sp) (k:Nat):Prop where
 len:k * 2 + 2≤cs.length
 at_:(cs.drop (k * 2)).take 2=[.int .i64 (f k).1,.int .i64 (f k).2]
 lo:cs[k * 2]?=some (.int .i64 (f k).1)
 hi:cs[k * 2 + 1]?=some (.int .i64 (f k).2)
 set:∀ a b,cs.take (k * 2)++.int .i64 a::.int .i64 b::cs.drop (k * 2 + 2)=RowF n (updS f k (a,b))
theorem rowX {cs:List Value} {n k:Nat} {f:Nat→Sp} (h:cs=RowF n f) (hk:k≤n):RowX cs n f k:=by
 subst h
 exact ⟨by rw [rowF_len]; omega,rowF_at hk,(rowF_one hk).1,(rowF_one hk).2,rowF_set hk⟩
def S87:PSpec where
 R args w v:=∃ a b:Sp,args=[.agg ⟨spC a⟩,.agg ⟨spC b⟩]∧w.lim≤w.next∧v=.agg ⟨spC (bothS a b)⟩
 uniq:=by
  rintro _ _ _ _ ⟨⟨_,_⟩,⟨_,_⟩,rfl,_,rfl⟩ ⟨⟨_,_⟩,⟨_,_⟩,h,_,rfl⟩
  cases h; rfl
 shut:=fun ⟨a,b,h1,_,h2⟩=>⟨a,b,h1,Nat.le_refl _,h2⟩
theorem run87 {ov:Ov} (ho:∀ args w,ov 87 args w=none) (a b:Sp) (w:AW) (hl:w.lim=w.next):∃ v w',(run Tryd.prog ov 2).call 87 [.agg ⟨spC a⟩,.agg ⟨spC b⟩] w .none=.ok (.ret v) w' .none∧v=.agg ⟨spC (bothS a b)⟩:=by
 refine call_wp text87 (by simp) (ho _ _) ?_
 have q1:w.lim≤w.next + 1 + 1:=by omega
 simp [mc87,spC,bothS,cellsOf_agg,q1,tupV]
theorem KpB.to {base B:Nat} {a b c:AW} (h:KpB base B a b) (k:Up b c) (hb:base≤b.next):KpB base B a c:=h.trans (KpB.ofUp k hb)
theorem KpB.wr {base B:Nat} {a b:AW} (h:KpB base B a b) (o:Option AObj):KpB base B a ⟨b.heap.put B o,b.next,b.lim⟩:=⟨fun q h1 h2=>by show (b.heap.put B o).get q=_; rw [get_put,if_neg (by omega)]; exact h.old q h1 h2,h.next,h.lim⟩
theorem loop65a {r:Rec} {Q:Ex→Tm→AW→Prop} (n:Nat) (hn:n≤14) (BW:Nat) (f0:Nat→Sp) (w1:AW) (t:Tm) (hlim:w1.lim≤BW) (g:w1.heap.get BW=some (.cells (RowF n f0) 25 false))
  (t11:tget t 11=.int .i64 (n:Nat)) (t12:tget t 12=.slice (some ⟨BW,0,none⟩) (n + 1) (n + 1)) (t13:tget t 13=.int .i64 0)
  (hQ:∀ t' w',KpB (BW + 1) BW w1 w'→w'.heap.get BW=some (.cells (RowF n (fun _=>(1,1000000))) 25 false)→(∀ d,d < 13→tget t' d=tget t d)→Q .normal t' w') :
  wp (exM Tryd.prog r (.block 0 (.loop mc65_l0)) t w1) Q:=by
 refine wp_blockX (wp_rounds (fun i t' w'=>KpB (BW + 1) BW w1 w'∧(∃ f,w'.heap.get BW=some (.cells (RowF n f) 25 false)∧∀ k,k < i→f k=(1,1000000))∧tget t' 13=.int .i64 ((i:Nat):Int)∧i≤n + 1∧(∀ d,d < 13→tget t' d=tget t d)) 30 (by decide) ⟨KpB.refl _ _ _,⟨f0,g,fun k hk=>by omega⟩,t13,by omega,fun _ _=>rfl⟩ ?_)
 rintro i t' w' ⟨hkp,⟨f,gf,hf⟩,s13,hi,hold⟩
 have s11:=(hold 11 (by decide)).trans t11
 have s12:=(hold 12 (by decide)).trans t12
 have hlm:=hkp.lim
 have hne:∀ d,d < 13→∀ k,13≤k→¬ d=k:=fun d hd k hk=>by omega
 by_cases hlt:i < n + 1
 ·have hle:(i:Int)≤(n:Int):=by omega
  obtain ⟨cs,hcs⟩:∃ cs,cs=RowF n f:=⟨_,rfl⟩
  have X:=rowX hcs (k:=i) (by omega)
  rw [← hcs] at gf
  have hia:=fun w=>ia43 w ⟨BW,0,none⟩ (n + 1) (n + 1) .i64 i hlt
  have q1:w'.lim≤BW:=by omega
  have q2:=X.len
  have hw1:IntKind.wrap .i64 ((i:Int) + 1)=(i:Int) + 1:=wrap64_in (by omega) (by omega)
  have hst:=X.set 1 1000000
  have hle':i≤n:=by omega
  simp [mc65_l0,s11,s12,s13,hle,hle',hia,gf,q1,q2,hst,hw1]
  refine ⟨by omega,hkp.wr _,⟨_,rfl,fun k hk=>?_⟩,fun d hd=>by have:=hne d hd; simp [this,hold d hd]⟩
  unfold updS
  by_cases e:k=i
  ·rw [if_pos e]
  ·rw [if_neg e]; exact hf k (by omega)
 ·have hi':i=n + 1:=by omega
  have hle:¬ ((i:Nat):Int)≤(n:Int):=by omega
  have hle':¬ i≤n:=by omega
  simp [mc65_l0,s11,s13,hle,hle']
  refine hQ _ _ hkp ?_ fun d hd=>by have:=hne d hd; simp [this,hold d hd]
  rw [gf,rowF_congr fun k hk=>hf k (by omega)]
theorem onDay_snoc (l:List CRead) (p:CRead) (k:Nat):onDay (l++[p]) k=onDay l k++if p.day=(k:Int) then [p] else []:=by
 unfold onDay
 rw [List.filter_append]
 congr 1
 by_cases h:p.day=(k:Int)
 ·simp [h]
 ·simp [h]
theorem foldR_snoc (l:List CRead) (p:CRead) (s:Sp):foldR (l++[p]) s=bothS (foldR l s) (readS p):=by simp [foldR]
set_option maxHeartbeats 2000000 in
theorem loop65b {ov:Ov} {Q:Ex→Tm→AW→Prop} (m n:Nat) (h87:HasP ov 87 S87.F) (l:List CRead) (hl10:l.length≤10) (hR:ReadOk l) (hD:∀ p ∈ l,0≤p.day∧p.day≤(n:Int)) (BW:Nat) (base:Nat→Sp) (lv:Value) (w0 w1:AW) (t:Tm) (hlim:w1.lim≤BW) (hBn:BW < w1.next) (h0:w0.next≤BW) (u0:Up w0 w1) (hlv:RowsV readC w0 lv l) (g:w1.heap.get BW=some (.cells (RowF n base) 25 false))
  (t3:tget t 3=lv) (t12:tget t 12=.slice (some ⟨BW,0,none⟩) (n + 1) (n + 1)) (t14:tget t 14=.int .i64 0)
  (hQ:∀ t' w',KpB (BW + 1) BW w1 w'→w'.heap.get BW=some (.cells (RowF n (fun k=>foldR (onDay l k) (base k))) 25 false)→(∀ d,d < 13→tget t' d=tget t d)→Q .normal t' w') :
  wp (exM Tryd.prog (run Tryd.prog ov (m + 1)) (.block 2 (.loop mc65_l1)) t w1) Q:=by
 have hl42:=fun w2=>len42V (w':=w2) hlv
 refine wp_blockX (wp_rounds (fun i t' w'=>KpB (BW + 1) BW w1 w'∧w'.heap.get BW=some (.cells (RowF n (fun k=>foldR (onDay (l.take i) k) (base k))) 25 false)∧tget t' 14=.int .i64 ((i:Nat):Int)∧i≤l.length∧(∀ d,d < 13→tget t' d=tget t d)) 30 (by decide) ⟨KpB.refl _ _ _,by simpa [onDay,foldR] using g,t14,Nat.zero_le _,fun _ _=>rfl⟩ ?_)
 rintro i t' w' ⟨hkp,gf,s14,hi,hold⟩
 have s3:=(hold 3 (by decide)).trans t3
 have s12:=(hold 12 (by decide)).trans t12
 have hlm:=hkp.lim
 have hnx:=hkp.next
 have hne:∀ d,d < 13→∀ k,13≤k→¬ d=k:=fun d hd k hk=>by omega
 by_cases hlt:i < l.length
 ·obtain ⟨p,hp⟩:∃ p,l[i]?=some p:=⟨_,List.getElem?_eq_getElem hlt⟩
  have hpm:=List.mem_of_getElem? hp
  obtain ⟨d1,d2⟩:=hD p hpm
  obtain ⟨r1,r2,r3,r4⟩:=hR p hpm
  obtain ⟨k,hk⟩:∃ k:Nat,p.day=(k:Int):=⟨p.day.toNat,by omega⟩
  have hkn:k≤n:=by omega
  obtain ⟨f,hf⟩:∃ f:Nat→Sp,f=fun k=>foldR (onDay (l.take i) k) (base k):=⟨_,rfl⟩
  rw [← hf] at gf
  obtain ⟨cs,hcs⟩:∃ cs,cs=RowF n f:=⟨_,rfl⟩
  have X:=rowX hcs hkn
  rw [← hcs] at gf
  obtain ⟨bb,off,sq,c,rfl,hra⟩:=hlv.at_ i hlt
  have hbb:=hra.2
  have hsame:w'.heap.get bb=w0.heap.get bb:=by rw [hkp.old bb (by omega) (by omega),u0.at hbb]
  have f0:=hra.rd1 (j:=0) readC_length hp (x:=.int .i64 p.day) rfl
  have f1:=hra.rd1 (j:=1) readC_length hp (x:=.int .i64 p.read) rfl
  have f2:=hra.rd1 (j:=2) readC_length hp (x:=.int .i64 p.wrong) rfl
  rw [← hsame] at f0 f1 f2
  rw [Nat.add_zero,hk] at f0
  have hib:=fun w=>ia42 w ⟨bb,off,sq⟩ l.length c .i64 i hlt
  have hia:=fun w=>ia43 w ⟨BW,0,none⟩ (n + 1) (n + 1) .i64 k (by omega)
  have q1:w'.lim≤BW:=by omega
  have q2:=X.len
  have q3:=X.at_
  have hw1:IntKind.wrap .i64 ((i:Int) + 1)=(i:Int) + 1:=wrap64_in (by omega) (by omega)
  have hw2:IntKind.wrap .i64 (p.read - p.wrong)=p.read - p.wrong:=wrap64_in (by omega) (by omega)
  have hw3:IntKind.wrap .i64 (p.read + p.wrong)=p.read + p.wrong:=wrap64_in (by omega) (by omega)
  have r87:=S87.call (P:=Tryd.prog) h87 (m:=m) (w:=w') ⟨f k,readS p,rfl,by omega,rfl⟩
  have hst:=X.set (bothS (f k) (readS p)).1 (bothS (f k) (readS p)).2
  simp only [spC,readS] at r87 hst
  simp [mc65_l1,s3,s12,s14,hl42,hlt,hib,f0,f1,f2,hia,gf,q1,q2,q3,hw1,hw2,hw3,r87,hst,cellsOf_agg]
  refine ⟨by omega,hkp.wr _,?_,hlt,fun d hd=>by have:=hne d hd; simp [this,hold d hd]⟩
  rw [rowF_congr]
  intro j hj
  rw [take_snoc hp,onDay_snoc,hk]
  unfold updS
  by_cases e:j=k
  ·subst e
   rw [if_pos rfl,if_pos rfl,foldR_snoc,hf]; rfl
  ·rw [if_neg e,if_neg (by omega),List.append_nil,hf]
 ·have hi':i=l.length:=by omega
  subst hi'
  rw [List.take_length] at gf
  simp [mc65_l1,s3,s14,hl42]
  exact hQ _ _ hkp gf fun d hd=>by have:=hne d hd; simp [this,hold d hd]
end Go.Proofs.YtlkklcbjjompbaaDoor.walk
namespace Go.Proofs.YtlkklcbjjompbaaDoor.walk
open Go Go.Sh
set_option maxRecDepth 100000
set_option linter.unusedSimpArgs false
def bigS (i:Nat) (s:Sp):Prop := -(2000000 + 1000000 * (i:Int))≤s.1∧s.1≤2000000 + 1000000 * (i:Int) ∧ -(2000000 + 1000000 * (i:Int))≤s.2∧s.2≤2000000 + 1000000 * (i:Int)
theorem fw_big {L C:Nat→Sp} (hC:∀ k,bndS (C k)) (hL:∀ k,0≤(L k).1∧(L k).1≤(L k).2∧(L k).2≤1000000):∀ i,bigS i (fwF L C i)
 | 0=>by have:=hC 0; unfold bndS at this; unfold bigS; show _≤(C 0).1∧(C 0).1≤_∧_≤(C 0).2∧(C 0).2≤_; omega
 | i + 1=>by
  have h:=fw_big hC hL i
  have h1:=hC (i + 1)
  have h2:=hL i
  show bigS (i + 1) (bothS (C (i + 1)) (restS (fwF L C i) (L i)))
  unfold bigS bothS restS at *
  unfold bndS at h1
  simp only at *
  omega
theorem bk_big {n:Nat} (hn:n≤14) {L G:Nat→Sp} (hG:∀ k,k≤n→bigS k (G k)) (hL:∀ k,0≤(L k).1∧(L k).1≤(L k).2∧(L k).2≤1000000):∀ j,j≤n→bigS (14 + j) (bkF n L G j)
 | 0,_=>by have:=hG n (Nat.le_refl _); unfold bigS at *; show _≤(G n).1∧(G n).1≤_∧_≤(G n).2∧(G n).2≤_; omega
 | j + 1,hj=>by
  have h:=bk_big hn hG hL j (by omega)
  have h1:=hG (n - (j + 1)) (by omega)
  have h2:=hL (n - (j + 1))
  show bigS (14 + (j + 1)) (bothS (G (n - (j + 1))) (wholeS (bkF n L G j) (L (n - (j + 1)))))
  unfold bigS bothS wholeS at *
  simp only at *
  omega
structure LossAt (w0:AW) (rv av:Value) (r:List CAct) (acts:List Int):Prop where
 rows:RowsV actC w0 rv r
 arow:RowsV intC w0 av acts
 ok:∀ a ∈ acts,0≤a∧∃ x,r[a.toNat]?=some x
theorem LossAt.get {w0 w:AW} {rv av:Value} {r:List CAct} {acts:List Int} (h:LossAt w0 rv av r acts) {i:Nat} (hi:i < acts.length) (hold:Old w0.next w0.heap w.heap) :
  ∃ (bb off:Nat) (sq:Option Nat) (c:Nat) (b2 off2:Nat) (sq2:Option Nat) (c2 n:Nat) (x:CAct),av=.slice (some ⟨bb,off,sq⟩) acts.length c∧rv=.slice (some ⟨b2,off2,sq2⟩) r.length c2∧n < r.length∧rd1O (w.heap.get bb) (off + i)=some (.int .i64 (n:Int))∧rdO (w.heap.get b2) (off2 + n * 7 + 5) 2=some [.int .i64 x.ll,.int .i64 x.lh]∧gtS (losL (lossL r acts)) i=(x.ll,x.lh):=by
 obtain ⟨a,ha⟩:∃ p,acts[i]?=some p:=⟨_,List.getElem?_eq_getElem hi⟩
 obtain ⟨ha0,x,hx⟩:=h.ok a (List.mem_of_getElem? ha)
 obtain ⟨n,rfl⟩:∃ n:Nat,a=(n:Int):=⟨a.toNat,by omega⟩
 simp only [Int.toNat_natCast] at hx
 have hn:=(List.getElem?_eq_some_iff.1 hx).1
 obtain ⟨bb,off,sq,c,e1,hra⟩:=h.arow.at_ i hi
 obtain ⟨b2,off2,sq2,c2,e2,hrb⟩:=h.rows.at_ n hn
 have hld:=hra.int ha
 have f5:rdO (w0.heap.get b2) (off2 + n * 7 + 5) 2=some [.int .i64 x.ll,.int .i64 x.lh]:=rdO_sub (hrb.rd actC_length hx) (j:=5) (k:=2) (by decide)
 rw [← hold bb hra.2] at hld
 rw [← hold b2 hrb.2] at f5
 refine ⟨bb,off,sq,c,b2,off2,sq2,c2,n,x,e1,e2,hn,hld,f5,?_⟩
 rw [los_at (by rw [lossL_length]; exact hi)]
 exact gtS_of (lossL_at ha (by simpa using hx))
set_option maxHeartbeats 4000000 in
theorem loop65c {ov:Ov} {Q:Ex→Tm→AW→Prop} (m n:Nat) (hn:n≤14) (h87:HasP ov 87 S87.F) (r:List CAct) (acts:List Int) (hal:acts.length=n) (rv av:Value) (BW:Nat) (C:Nat→Sp) (hC:∀ k,bndS (C k)) (hL:∀ k,0≤(gtS (losL (lossL r acts)) k).1∧(gtS (losL (lossL r acts)) k).1≤(gtS (losL (lossL r acts)) k).2∧(gtS (losL (lossL r acts)) k).2≤1000000) (w0 w1:AW) (t:Tm) (hlim:w1.lim≤BW) (hBn:BW < w1.next) (h0:w0.next≤BW) (u0:Up w0 w1) (hla:LossAt w0 rv av r acts) (g:w1.heap.get BW=some (.cells (RowF n C) 25 false))
  (t0:tget t 0=rv) (t2:tget t 2=av) (t11:tget t 11=.int .i64 (n:Nat)) (t12:tget t 12=.slice (some ⟨BW,0,none⟩) (n + 1) (n + 1)) (t15:tget t 15=.int .i64 0)
  (hQ:∀ t' w',KpB (BW + 1) BW w1 w'→w'.heap.get BW=some (.cells (RowF n (fwF (gtS (losL (lossL r acts))) C)) 25 false)→(∀ d,d < 13→tget t' d=tget t d)→Q .normal t' w') :
  wp (exM Tryd.prog (run Tryd.prog ov (m + 1)) (.block 4 (.loop mc65_l2)) t w1) Q:=by
 obtain ⟨L,hLe⟩:∃ L,L=gtS (losL (lossL r acts)):=⟨_,rfl⟩
 rw [← hLe] at hL hQ
 have hini:∀ k,k≤n→C k=if k≤0 then fwF L C k else C k:=fun k _=>by
  by_cases e:k=0
  ·subst e; rfl
  ·rw [if_neg (by omega)]
 refine wp_blockX (wp_rounds (fun i t' w'=>KpB (BW + 1) BW w1 w'∧(∃ f,w'.heap.get BW=some (.cells (RowF n f) 25 false)∧∀ k,k≤n→f k=if k≤i then fwF L C k else C k)∧tget t' 15=.int .i64 ((i:Nat):Int)∧i≤n∧(∀ d,d < 13→tget t' d=tget t d)) 30 (by decide) ⟨KpB.refl _ _ _,⟨C,g,hini⟩,t15,by omega,fun _ _=>rfl⟩ ?_)
 rintro i t' w' ⟨hkp,⟨f,gf,hf⟩,s15,hi,hold⟩
 have s0:=(hold 0 (by decide)).trans t0
 have s2:=(hold 2 (by decide)).trans t2
 have s11:=(hold 11 (by decide)).trans t11
 have s12:=(hold 12 (by decide)).trans t12
 have hlm:=hkp.lim
 have hnx:=hkp.next
 have hne:∀ d,d < 13→∀ k,13≤k→¬ d=k:=fun d hd k hk=>by omega
 by_cases hlt:i < n
 ·have hlt':(i:Int) < (n:Int):=by omega
  have holdm:Old w0.next w0.heap w'.heap:=fun x hx=>by rw [hkp.old x (by omega) (by omega),u0.at hx]
  obtain ⟨bb,off,sq,c,b2,off2,sq2,c2,q,x,rfl,rfl,hq,hld,f5,hx⟩:=hla.get (w:=w') (i:=i) (by omega) holdm
  rw [← hLe] at hx
  obtain ⟨cs,hcs⟩:∃ cs,cs=RowF n f:=⟨_,rfl⟩
  have X:=rowX hcs (k:=i) (by omega)
  have Y:=rowX hcs (k:=i + 1) (by omega)
  rw [← hcs] at gf
  have hgi:f i=fwF L C i:=by rw [hf i (by omega),if_pos (Nat.le_refl _)]
  have hgj:f (i + 1)=C (i + 1):=by rw [hf (i + 1) (by omega),if_neg (by omega)]
  have hbg:=fw_big hC hL i
  have hLi:=hL i
  rw [hx] at hLi
  rw [← hgi] at hbg
  unfold bigS at hbg
  simp only at hLi
  have hia:=fun w=>ia28 w ⟨bb,off,sq⟩ acts.length c .i64 i (by omega)
  simp only [Nat.mul_one] at hia
  have hib:=fun w=>ia22 w ⟨b2,off2,sq2⟩ r.length c2 .i64 q hq
  have hic:=fun w=>ia43 w ⟨BW,0,none⟩ (n + 1) (n + 1) .i64 i (by omega)
  obtain ⟨J,hJ⟩:∃ J:Int,J=((i + 1:Nat):Int):=⟨_,rfl⟩
  have hid:=fun w=>ia43 w ⟨BW,0,none⟩ (n + 1) (n + 1) .i64 (i + 1) (by omega)
  rw [← hJ] at hid
  have hw1:IntKind.wrap .i64 ((i:Int) + 1)=J:=by rw [hJ,wrap64_in (by omega) (by omega)]; omega
  have hw2:IntKind.wrap .i64 ((f i).1 - x.lh)=(f i).1 - x.lh:=wrap64_in (by omega) (by omega)
  have hw3:IntKind.wrap .i64 ((f i).2 - x.ll)=(f i).2 - x.ll:=wrap64_in (by omega) (by omega)
  have q1:w'.lim≤BW:=by omega
  have q2:=X.len
  have q3:=Y.len
  have q4:=Y.at_
  have o1:=X.lo
  have o2:=X.hi
  have e1:¬ BW=w'.next:=by omega
  have e2:¬ w'.next=BW:=by omega
  have q5:w'.lim≤w'.next:=by omega
  obtain ⟨wa,hwa⟩:∃ wa:AW,wa=⟨(w'.heap.put w'.next (some (.cells [.int .i64 0,.int .i64 0] 25 false))).put w'.next (some (.cells [.int .i64 x.ll,.int .i64 x.lh] 25 false)),w'.next + 1,w'.lim⟩:=⟨_,rfl⟩
  have ua:Up w' wa:=by rw [hwa]; exact ((Up.refl w').add _).put (Nat.le_refl _) (Nat.le_refl _)
  have r87:=S87.call (P:=Tryd.prog) h87 (m:=m) (w:=wa) ⟨f (i + 1),restS (f i) (x.ll,x.lh),rfl,by have:=ua.next; have:=ua.lim; omega,rfl⟩
  have hst:=Y.set (bothS (f (i + 1)) (restS (f i) (x.ll,x.lh))).1 (bothS (f (i + 1)) (restS (f i) (x.ll,x.lh))).2
  rw [hwa] at r87
  simp only [spC,restS] at r87 hst
  have hkpa:=hkp.to ua (by omega)
  simp [mc65_l2,s0,s2,s11,s12,s15,hlt,hlt',hia,hld,hib,f5,hic,hid,gf,q1,q2,q3,q4,q5,o1,o2,e1,e2,hw1,hw2,hw3,r87,hst,cellsOf_agg]
  rw [hwa] at hkpa
  refine ⟨by omega,hkpa.wr _,⟨_,rfl,fun k hk=>?_⟩,by omega,by omega,fun d hd=>by have:=hne d hd; simp [this,hold d hd]⟩
  unfold updS
  by_cases e:k=i + 1
  ·subst e
   rw [if_pos rfl,if_pos (Nat.le_refl _),hgj,hgi]
   show _=bothS (C (i + 1)) (restS (fwF L C i) (L i))
   rw [hx]; rfl
  ·rw [if_neg e,hf k hk]
   by_cases e2:k≤i
   ·rw [if_pos e2,if_pos (by omega)]
   ·rw [if_neg e2,if_neg (by omega)]
 ·have hi':i=n:=by omega
  subst hi'
  simp [mc65_l2,s11,s15]
  refine hQ _ _ hkp ?_ fun d hd=>by have:=hne d hd; simp [this,hold d hd]
  rw [gf,rowF_congr fun k hk=>by rw [hf k hk,if_pos hk]]
set_option maxHeartbeats 4000000 in
theorem loop65d {ov:Ov} {Q:Ex→Tm→AW→Prop} (m n:Nat) (hn:n≤14) (h87:HasP ov 87 S87.F) (r:List CAct) (acts:List Int) (hal:acts.length=n) (rv av:Value) (BW:Nat) (G:Nat→Sp) (hG:∀ k,k≤n→bigS k (G k)) (hL:∀ k,0≤(gtS (losL (lossL r acts)) k).1∧(gtS (losL (lossL r acts)) k).1≤(gtS (losL (lossL r acts)) k).2∧(gtS (losL (lossL r acts)) k).2≤1000000) (w0 w1:AW) (t:Tm) (hlim:w1.lim≤BW) (hBn:BW < w1.next) (h0:w0.next≤BW) (u0:Up w0 w1) (hla:LossAt w0 rv av r acts) (g:w1.heap.get BW=some (.cells (RowF n G) 25 false))
  (t0:tget t 0=rv) (t2:tget t 2=av) (t12:tget t 12=.slice (some ⟨BW,0,none⟩) (n + 1) (n + 1)) (t17:tget t 17=.int .i64 ((n:Int) - 1))
  (hQ:∀ t' w',KpB (BW + 1) BW w1 w'→w'.heap.get BW=some (.cells (RowF n (fun k=>bkF n (gtS (losL (lossL r acts))) G (n - k))) 25 false)→(∀ d,d < 13→tget t' d=tget t d)→Q .normal t' w') :
  wp (exM Tryd.prog (run Tryd.prog ov (m + 1)) (.block 6 (.loop mc65_l3)) t w1) Q:=by
 obtain ⟨L,hLe⟩:∃ L,L=gtS (losL (lossL r acts)):=⟨_,rfl⟩
 rw [← hLe] at hL hQ
 have hini:∀ k,k≤n→G k=if n - 0≤k then bkF n L G (n - k) else G k:=fun k _=>by
  by_cases e:k=n
  ·subst e; rw [if_pos (by omega),Nat.sub_self]; rfl
  ·rw [if_neg (by omega)]
 refine wp_blockX (wp_rounds (fun j t' w'=>KpB (BW + 1) BW w1 w'∧(∃ f,w'.heap.get BW=some (.cells (RowF n f) 25 false)∧∀ k,k≤n→f k=if n - j≤k then bkF n L G (n - k) else G k)∧tget t' 17=.int .i64 ((n:Int) - 1 - ((j:Nat):Int))∧j≤n∧(∀ d,d < 13→tget t' d=tget t d)) 30 (by decide) ⟨KpB.refl _ _ _,⟨G,g,hini⟩,by simpa using t17,by omega,fun _ _=>rfl⟩ ?_)
 rintro j t' w' ⟨hkp,⟨f,gf,hf⟩,s17,hj,hold⟩
 have s0:=(hold 0 (by decide)).trans t0
 have s2:=(hold 2 (by decide)).trans t2
 have s12:=(hold 12 (by decide)).trans t12
 have hlm:=hkp.lim
 have hnx:=hkp.next
 have hne:∀ d,d < 13→∀ k,13≤k→¬ d=k:=fun d hd k hk=>by omega
 by_cases hlt:j < n
 ·obtain ⟨i,hi⟩:∃ i:Nat,i=n - (j + 1):=⟨_,rfl⟩
  obtain ⟨I,hI⟩:∃ I:Int,I=(i:Int):=⟨_,rfl⟩
  rw [show (n:Int) - 1 - ((j:Nat):Int)=I by omega] at s17
  have hI0:0≤I:=by omega
  have holdm:Old w0.next w0.heap w'.heap:=fun x hx=>by rw [hkp.old x (by omega) (by omega),u0.at hx]
  obtain ⟨bb,off,sq,c,b2,off2,sq2,c2,q,x,rfl,rfl,hq,hld,f5,hx⟩:=hla.get (w:=w') (i:=i) (by omega) holdm
  rw [← hLe] at hx
  obtain ⟨cs,hcs⟩:∃ cs,cs=RowF n f:=⟨_,rfl⟩
  have X:=rowX hcs (k:=i) (by omega)
  have Y:=rowX hcs (k:=i + 1) (by omega)
  rw [← hcs] at gf
  have hgi:f i=G i:=by rw [hf i (by omega),if_neg (by omega)]
  have hgj:f (i + 1)=bkF n L G j:=by rw [hf (i + 1) (by omega),if_pos (by omega),show n - (i + 1)=j by omega]
  have hbg:=bk_big hn hG hL j (by omega)
  have hLi:=hL i
  rw [hx] at hLi
  rw [← hgj] at hbg
  unfold bigS at hbg
  simp only at hLi
  have hia:=fun w=>ia28 w ⟨bb,off,sq⟩ acts.length c .i64 i (by omega)
  simp only [Nat.mul_one] at hia
  have hib:=fun w=>ia22 w ⟨b2,off2,sq2⟩ r.length c2 .i64 q hq
  have hic:=fun w=>ia43 w ⟨BW,0,none⟩ (n + 1) (n + 1) .i64 i (by omega)
  obtain ⟨J,hJ⟩:∃ J:Int,J=((i + 1:Nat):Int):=⟨_,rfl⟩
  have hid:=fun w=>ia43 w ⟨BW,0,none⟩ (n + 1) (n + 1) .i64 (i + 1) (by omega)
  rw [← hJ] at hid
  rw [← hI] at hia hic
  have hw1:IntKind.wrap .i64 (I + 1)=J:=by rw [hI,hJ,wrap64_in (by omega) (by omega)]; omega
  have hw4:IntKind.wrap .i64 (I - 1)=I - 1:=wrap64_in (by omega) (by omega)
  have hw2:IntKind.wrap .i64 ((f (i + 1)).1 + x.ll)=(f (i + 1)).1 + x.ll:=wrap64_in (by omega) (by omega)
  have hw3:IntKind.wrap .i64 ((f (i + 1)).2 + x.lh)=(f (i + 1)).2 + x.lh:=wrap64_in (by omega) (by omega)
  have q1:w'.lim≤BW:=by omega
  have q2:=X.len
  have q3:=Y.len
  have q4:=X.at_
  have o1:=Y.lo
  have o2:=Y.hi
  have e1:¬ BW=w'.next:=by omega
  have e2:¬ w'.next=BW:=by omega
  have q5:w'.lim≤w'.next:=by omega
  obtain ⟨wa,hwa⟩:∃ wa:AW,wa=⟨(w'.heap.put w'.next (some (.cells [.int .i64 0,.int .i64 0] 25 false))).put w'.next (some (.cells [.int .i64 x.ll,.int .i64 x.lh] 25 false)),w'.next + 1,w'.lim⟩:=⟨_,rfl⟩
  have ua:Up w' wa:=by rw [hwa]; exact ((Up.refl w').add _).put (Nat.le_refl _) (Nat.le_refl _)
  have r87:=S87.call (P:=Tryd.prog) h87 (m:=m) (w:=wa) ⟨f i,wholeS (f (i + 1)) (x.ll,x.lh),rfl,by have:=ua.next; have:=ua.lim; omega,rfl⟩
  have hst:=X.set (bothS (f i) (wholeS (f (i + 1)) (x.ll,x.lh))).1 (bothS (f i) (wholeS (f (i + 1)) (x.ll,x.lh))).2
  rw [hwa] at r87
  simp only [spC,wholeS] at r87 hst
  have hkpa:=hkp.to ua (by omega)
  simp [mc65_l3,s0,s2,s12,s17,hI0,hia,hld,hib,f5,hic,hid,gf,q1,q2,q3,q4,q5,o1,o2,e1,e2,hw1,hw2,hw3,hw4,r87,hst,cellsOf_agg]
  rw [hwa] at hkpa
  refine ⟨by omega,hkpa.wr _,⟨_,rfl,fun k hk=>?_⟩,by omega,by omega,fun d hd=>by have:=hne d hd; simp [this,hold d hd]⟩
  unfold updS
  by_cases e:k=i
  ·subst e
   rw [if_pos rfl,if_pos (by omega),bk_step (by omega),hgj,hgi,show n - (k + 1)=j by omega,hx]; rfl
  ·rw [if_neg e,hf k hk]
   by_cases e2:n - j≤k
   ·rw [if_pos e2,if_pos (by omega)]
   ·rw [if_neg e2,if_neg (by omega)]
 ·have hj':j=n:=by omega
  subst hj'
  obtain ⟨I,hI⟩:∃ I:Int,I=(j:Int) - 1 - (j:Int):=⟨_,rfl⟩
  rw [← hI] at s17
  have hI0:¬ 0≤I:=by omega
  simp [mc65_l3,s17,hI0]
  refine hQ _ _ hkp ?_ fun d hd=>by have:=hne d hd; simp [this,hold d hd]
  rw [gf,rowF_congr fun k hk=>by rw [hf k hk,if_pos (by omega)]]
theorem loop65e {r:Rec} {Q:Ex→Tm→AW→Prop} (n:Nat) (hn:n≤14) (BW:Nat) (f:Nat→Sp) (w1:AW) (t:Tm) (g:w1.heap.get BW=some (.cells (RowF n f) 25 false))
  (t11:tget t 11=.int .i64 (n:Nat)) (t12:tget t 12=.slice (some ⟨BW,0,none⟩) (n + 1) (n + 1)) (t19:tget t 19=.bool true) (t20:tget t 20=.int .i64 0)
  (hQ:∀ t',tget t' 19=.bool ((List.range (n + 1)).all fun k=>decide ((f k).1≤(f k).2))→(∀ d,d < 13→tget t' d=tget t d)→Q .normal t' w1) :
  wp (exM Tryd.prog r (.block 8 (.loop mc65_l4)) t w1) Q:=by
 refine wp_blockX (wp_rounds (fun i t' w'=>w'=w1∧tget t' 19=.bool ((List.range i).all fun k=>decide ((f k).1≤(f k).2))∧tget t' 20=.int .i64 ((i:Nat):Int)∧i≤n + 1∧(∀ d,d < 13→tget t' d=tget t d)) 30 (by decide) ⟨rfl,by simpa using t19,t20,by omega,fun _ _=>rfl⟩ ?_)
 rintro i t' w' ⟨rfl,s19,s20,hi,hold⟩
 have s11:=(hold 11 (by decide)).trans t11
 have s12:=(hold 12 (by decide)).trans t12
 have hne:∀ d,d < 13→∀ k,13≤k→¬ d=k:=fun d hd k hk=>by omega
 by_cases hlt:i < n + 1
 ·have hle:(i:Int)≤(n:Int):=by omega
  have hle':i≤n:=by omega
  obtain ⟨cs,hcs⟩:∃ cs,cs=RowF n f:=⟨_,rfl⟩
  have X:=rowX hcs hle'
  rw [← hcs] at g
  have hia:=fun w=>ia43 w ⟨BW,0,none⟩ (n + 1) (n + 1) .i64 i hlt
  have o1:=X.lo
  have o2:=X.hi
  have hw1:IntKind.wrap .i64 ((i:Int) + 1)=(i:Int) + 1:=wrap64_in (by omega) (by omega)
  have hall:((List.range (i + 1)).all fun k=>decide ((f k).1≤(f k).2))=(((List.range i).all fun k=>decide ((f k).1≤(f k).2)) && decide ((f i).1≤(f i).2)):=by
   rw [List.range_succ,List.all_append]; simp
  cases hb:((List.range i).all fun k=>decide ((f k).1≤(f k).2)) with
  | true =>
   rw [hb] at s19 hall
   rw [Bool.true_and] at hall
   simp [mc65_l4,s11,s12,s19,s20,hle,hle',hia,g,o1,o2,hw1]
   exact ⟨by omega,hall.symm,fun d hd=>by have:=hne d hd; simp [this,hold d hd]⟩
  | false =>
   rw [hb] at s19 hall
   rw [Bool.false_and] at hall
   simp [mc65_l4,s11,s12,s19,s20,hle,hle',hia,g,o1,o2,hw1]
   exact ⟨by omega,by simpa using hall,fun d hd=>by have:=hne d hd; simp [this,hold d hd]⟩
 ·have hi':i=n + 1:=by omega
  have hle:¬ ((i:Nat):Int)≤(n:Int):=by omega
  have hle':¬ i≤n:=by omega
  rw [hi'] at s19
  simp [mc65_l4,s11,s20,hle,hle']
  exact hQ _ (by simpa using s19) fun d hd=>by have:=hne d hd; simp [this,hold d hd]
end Go.Proofs.YtlkklcbjjompbaaDoor.walk
namespace Go.Proofs.YtlkklcbjjompbaaDoor.walk
open Go Go.Sh
set_option maxRecDepth 100000
set_option linter.unusedSimpArgs false
theorem repl_rowF (n:Nat):(List.replicate (n + 1) ((0,0):Sp)).flatMap spC=RowF n (fun _=>(0,0)):=by
 unfold RowF
 congr 1
 apply List.ext_getElem?
 intro i
 rw [List.getElem?_map,List.getElem?_replicate]
 by_cases h:i < n + 1
 ·rw [if_pos h,List.getElem?_range h]; rfl
 ·rw [if_neg h,List.getElem?_eq_none (by simp; omega)]; rfl
theorem cap_bnd {n:Nat} {lo:Int} {U:Nat→Sp} (h:∀ k,bndS (U k)) (hlo:0≤lo∧lo≤1000000):∀ k,bndS (capF n lo U k):=fun k=>by
 unfold capF updS
 by_cases e:k=n
 ·rw [if_pos e]
  have:=h n
  unfold bndS bothS at *
  simp only at *
  omega
 ·rw [if_neg e]; exact h k
theorem ini_low {b:CBox} {L:List Sp} {l:List CRead} (hlen:L.length≤14) {k:Nat} (hk:k≤L.length):gtS (iniW b L l) k=foldR (onDay l k) (iniG b L.length k):=by
 rw [iniW_at hlen (by omega)]
 unfold iniF
 rw [if_pos (by omega)]
theorem ini_bnd {b:CBox} (hb:boxB b=true) {L:List Sp} {l:List CRead} (hR:ReadOk l) (k:Nat):bndS (gtS (iniW b L l) k):=mkW_bnd (fun k=>iniF_bnd hb hR _ _ k) k
theorem refR_congr {n:Nat} {lo hi:Int} {L U:Nat→Sp} {k:Nat} (hk:k≤n):refR n lo hi L U k=bkF n L (fwF L (capF n lo U)) (n - k):=by unfold refR; rw [if_pos hk]
set_option maxHeartbeats 8000000 in
theorem call65 {ov:Ov} (m:Nat) (ho:∀ args w,ov 65 args w=none) (h87:HasP ov 87 S87.F) (r:List CAct) (acts:List Int) (h14:acts.length≤14) (hlos:LosW (losL (lossL r acts))) (hact:∀ a ∈ acts,0≤a∧∃ x,r[a.toNat]?=some x) (b:CBox) (hb:boxB b=true) (l:List CRead) (hRd:rdsB (acts.length:Nat) l=true) (rv av lv:Value) (we:AW) (hlim:we.lim≤we.next) (hrv:RowsV actC we rv r) (hav:RowsV intC we av acts) (hlv:RowsV readC we lv l) :
  ∃ v w',(run Tryd.prog ov (m + 2)).call 65 [rv,.agg ⟨boxC b⟩,av,lv] we .none=.ok (.ret v) w' .none∧(∃ BW,v=.tuple ⟨[.slice (some ⟨BW,0,none⟩) (acts.length + 1) (acts.length + 1),.agg ⟨spC (refB b (lossL r acts) l (acts.length + 1))⟩,.bool (okB b (lossL r acts) l)]⟩∧w'.heap.get BW=some (.cells (RowF acts.length (refB b (lossL r acts) l)) 25 false)∧we.next≤BW∧BW < w'.next)∧Up we w':=by
 refine call_wp text65 (by simp) (ho _ _) ?_
 obtain ⟨n,hn⟩:∃ n,n=acts.length:=⟨_,rfl⟩
 have hl28:=fun w2=>len28V (w':=w2) hav
 have hLl:(lossL r acts).length=n:=by rw [lossL_length,hn]
 obtain ⟨hl10,hR⟩:=rds_ok hRd
 have hD:∀ p ∈ l,0≤p.day∧p.day≤(n:Int):=fun p hp=>by
  simp only [rdsB,Bool.and_eq_true,decide_eq_true_eq] at hRd
  have:=List.all_eq_true.1 hRd.2 p hp
  simp only [rdB,inI,Bool.and_eq_true,decide_eq_true_eq] at this
  rw [hn]; exact this.1
 have hbx:=hb
 simp only [boxB,spanI,Bool.and_eq_true,decide_eq_true_eq] at hbx
 rw [← hn] at hl28 h14 ⊢
 obtain ⟨L,hL⟩:∃ L,L=gtS (losL (lossL r acts)):=⟨_,rfl⟩
 obtain ⟨U,hU⟩:∃ U,U=gtS (iniW b (lossL r acts) l):=⟨_,rfl⟩
 have hLb:∀ k,0≤(L k).1∧(L k).1≤(L k).2∧(L k).2≤1000000:=fun k=>by rw [hL]; exact hlos k
 have hUb:∀ k,bndS (U k):=fun k=>by rw [hU]; exact ini_bnd hb hR k
 have hUlow:∀ k,k≤n→U k=foldR (onDay l k) (iniG b n k):=fun k hk=>by
  rw [hU,ini_low (by omega) (by omega),hLl]
 have hCb:=cap_bnd (n:=n) (lo:=b.sl) hUb (by omega)
 obtain ⟨C,hC⟩:∃ C,C=capF n b.sl U:=⟨_,rfl⟩
 rw [← hC] at hCb
 obtain ⟨G,hG⟩:∃ G,G=fwF L C:=⟨_,rfl⟩
 have hGb:∀ k,k≤n→bigS k (G k):=fun k _=>by rw [hG]; exact fw_big hCb hLb k
 have hRk:∀ k,k≤n→refB b (lossL r acts) l k=bkF n L G (n - k):=fun k hk=>by
  unfold refB
  rw [hLl,refR_congr hk,← hL,← hU,← hC,← hG]
 have hRn:refB b (lossL r acts) l (n + 1)=(b.sl,min b.sh (bkF n L G 0).2):=by
  unfold refB refR
  rw [hLl,if_neg (by omega),← hL,← hU,← hC,← hG]
 have hokE:okB b (lossL r acts) l=(List.range (n + 1)).all fun k=>decide ((bkF n L G (n - k)).1≤(bkF n L G (n - k)).2):=by
  unfold okB refOk
  rw [hLl]
  rw [Bool.eq_iff_iff,List.all_eq_true,List.all_eq_true]
  constructor
  ·intro h k hk
   have:=h k hk
   rw [List.mem_range] at hk
   rwa [refR_congr (by omega),← hL,← hU,← hC,← hG] at this
  ·intro h k hk
   have:=h k hk
   rw [List.mem_range] at hk
   rwa [refR_congr (by omega),← hL,← hU,← hC,← hG]
 obtain ⟨M,hM⟩:∃ M:Int,M=((n + 1:Nat):Int):=⟨_,rfl⟩
 have hwM:IntKind.wrap .i64 ((n:Int) + 1)=M:=by rw [hM,wrap64_in (by omega) (by omega)]; omega
 have hmk:=fun w=>mk43 (n + 1) (by omega) w
 rw [← hM,repl_rowF] at hmk
 obtain ⟨BW,hBW⟩:∃ BW,BW=we.next + 1 + 1:=⟨_,rfl⟩
 obtain ⟨w1,hw1⟩:∃ w1:AW,w1=⟨((we.heap.put we.next (some (.cells [.int .i64 b.wl,.int .i64 b.wh,.int .i64 b.sl,.int .i64 b.sh] 27 false))).put (we.next + 1) (some (.cells [.int .i64 0,.int .i64 0] 25 false))).put (we.next + 1 + 1) (some (.cells (RowF n (fun _=>(0,0))) 25 false)),we.next + 1 + 1 + 1,we.lim⟩:=⟨_,rfl⟩
 have u1:Up we w1:=by rw [hw1]; exact (((Up.refl we).add _).put (Nat.le_succ _) (Nat.le_succ _)).put (by show we.next≤we.next + 1 + 1; omega) (Nat.le_succ _)
 have n1:w1.next=we.next + 1 + 1 + 1:=by rw [hw1]
 have l1:=u1.lim
 have g5:w1.heap.get we.next=some (.cells [.int .i64 b.wl,.int .i64 b.wh,.int .i64 b.sl,.int .i64 b.sh] 27 false):=by rw [hw1]; simp
 have g9:w1.heap.get (we.next + 1)=some (.cells [.int .i64 0,.int .i64 0] 25 false):=by rw [hw1]; simp
 have gW:w1.heap.get BW=some (.cells (RowF n (fun _=>(0,0))) 25 false):=by rw [hw1,hBW]; simp
 have hla:LossAt we rv av r acts:=⟨hrv,hav,hact⟩
 have keep:∀ {w2:AW},KpB (BW + 1) BW w1 w2→Up we w2∧w2.heap.get we.next=_∧w2.heap.get (we.next + 1)=_∧w2.lim=we.lim∧BW < w2.next:=fun {w2} k=>⟨⟨fun q hq=>(k.old q (by omega) (by omega)).trans (u1.at hq),Nat.le_trans u1.next k.next,k.lim.trans l1⟩,(k.old _ (by omega) (by omega)).trans g5,(k.old _ (by omega) (by omega)).trans g9,k.lim.trans l1,by have:=k.next; omega⟩
 simp only [boxC]
 simp [mc65,cellsOf_agg,hl28,hwM,hmk]
 rw [← hw1,← hBW]
 refine wp_seqX (loop65a n h14 BW _ w1 _ (by omega) gW (by simp) (by simp) (by simp) ?_)
 intro ta wa ka ga ha
 obtain ⟨ua,g5a,g9a,la,na⟩:=keep ka
 have ta0:tget ta 0=rv:=by rw [ha 0 (by decide)]; simp
 have ta2:tget ta 2=av:=by rw [ha 2 (by decide)]; simp
 have ta3:tget ta 3=lv:=by rw [ha 3 (by decide)]; simp
 have ta5:tget ta 5=.pointer (some ⟨we.next,0,none⟩):=by rw [ha 5 (by decide)]; simp
 have ta9:tget ta 9=.pointer (some ⟨we.next + 1,0,none⟩):=by rw [ha 9 (by decide)]; simp
 have ta11:tget ta 11=.int .i64 (n:Nat):=by rw [ha 11 (by decide)]; simp
 have ta12:tget ta 12=.slice (some ⟨BW,0,none⟩) (n + 1) (n + 1):=by rw [ha 12 (by decide)]; simp
 obtain ⟨cs,hcs⟩:∃ cs,cs=RowF n (fun _=>((1,1000000):Sp)):=⟨_,rfl⟩
 have X:=rowX hcs (k:=0) (Nat.zero_le _)
 rw [← hcs] at ga
 have hi0:=fun w=>ia43 w ⟨BW,0,none⟩ (n + 1) (n + 1) .i64 0 (by omega)
 have q1:wa.lim≤BW:=by omega
 have q2:=X.len
 have hst:=X.set b.wl b.wh
 simp only [Nat.zero_mul,Nat.zero_add,show ((0:Nat):Int)=0 from rfl,List.take_zero,List.nil_append,List.drop_zero] at hi0 q2 hst
 have hbase:RowF n (updS (fun _=>(1,1000000)) 0 (b.wl,b.wh))=RowF n (iniG b n):=rowF_congr fun k hk=>by
  have e1:¬ k=n + 1:=by omega
  have e2:k < n + 1:=by omega
  unfold updS iniG
  by_cases e:k=0
  ·simp [e]
  ·simp [e,e1,e2]
 rw [hbase] at hst
 have kb:=ka.wr (some (.cells (RowF n (iniG b n)) 25 false))
 obtain ⟨wb,hwb⟩:∃ wb:AW,wb=⟨wa.heap.put BW (some (.cells (RowF n (iniG b n)) 25 false)),wa.next,wa.lim⟩:=⟨_,rfl⟩
 rw [← hwb] at kb
 obtain ⟨ub,g5b,g9b,lb,nb⟩:=keep kb
 have gb:wb.heap.get BW=some (.cells (RowF n (iniG b n)) 25 false):=by rw [hwb]; simp
 simp [ta5,ta12,g5a,hi0,ga,q1,q2,hst]
 rw [← hwb]
 refine wp_seqX (loop65b m n h87 l hl10 hR hD BW (iniG b n) lv we wb _ (by omega) nb (by omega) ub hlv gb (by simp [ta3]) (by simp [ta12]) (by simp) ?_)
 intro tc wc kc gc hc
 have kc1:=kb.trans kc
 obtain ⟨uc,g5c,g9c,lc,nc⟩:=keep kc1
 have tc0:tget tc 0=rv:=by rw [hc 0 (by decide)]; simp [ta0]
 have tc2:tget tc 2=av:=by rw [hc 2 (by decide)]; simp [ta2]
 have tc5:tget tc 5=.pointer (some ⟨we.next,0,none⟩):=by rw [hc 5 (by decide)]; simp [ta5]
 have tc9:tget tc 9=.pointer (some ⟨we.next + 1,0,none⟩):=by rw [hc 9 (by decide)]; simp [ta9]
 have tc11:tget tc 11=.int .i64 (n:Nat):=by rw [hc 11 (by decide)]; simp [ta11]
 have tc12:tget tc 12=.slice (some ⟨BW,0,none⟩) (n + 1) (n + 1):=by rw [hc 12 (by decide)]; simp [ta12]
 rw [rowF_congr (g:=U) fun k hk=>(hUlow k hk).symm] at gc
 obtain ⟨cs2,hcs2⟩:∃ cs2,cs2=RowF n U:=⟨_,rfl⟩
 have Y:=rowX hcs2 (k:=n) (Nat.le_refl _)
 rw [← hcs2] at gc
 have hin:=fun w=>ia43 w ⟨BW,0,none⟩ (n + 1) (n + 1) .i64 n (by omega)
 have q3:wc.lim≤BW:=by omega
 have q4:=Y.len
 have q5:=Y.at_
 have r87:=S87.call (P:=Tryd.prog) h87 (m:=m) (w:=wc) ⟨U n,(b.sl,1000000),rfl,by omega,rfl⟩
 have hst2:=Y.set (bothS (U n) (b.sl,1000000)).1 (bothS (U n) (b.sl,1000000)).2
 simp only [spC] at r87 hst2
 have hcap:RowF n (updS U n ((bothS (U n) (b.sl,1000000)).1,(bothS (U n) (b.sl,1000000)).2))=RowF n C:=by rw [hC]; rfl
 rw [hcap] at hst2
 have kd:=kc1.wr (some (.cells (RowF n C) 25 false))
 obtain ⟨wd,hwd⟩:∃ wd:AW,wd=⟨wc.heap.put BW (some (.cells (RowF n C) 25 false)),wc.next,wc.lim⟩:=⟨_,rfl⟩
 rw [← hwd] at kd
 obtain ⟨ud,g5d,g9d,ld,nd⟩:=keep kd
 have gd:wd.heap.get BW=some (.cells (RowF n C) 25 false):=by rw [hwd]; simp
 simp [tc5,tc11,tc12,g5c,hin,gc,q3,q4,q5,r87,hst2,cellsOf_agg]
 rw [← hwd]
 refine wp_seqX (loop65c m n h14 h87 r acts hn.symm rv av BW C hCb (by rw [← hL]; exact hLb) we wd _ (by omega) nd (by omega) ud hla gd (by simp [tc0]) (by simp [tc2]) (by simp [tc11]) (by simp [tc12]) (by simp) ?_)
 rw [← hL,← hG]
 intro te wE ke ge he
 have ke1:=kd.trans ke
 obtain ⟨ue,g5e,g9e,le,ne⟩:=keep ke1
 have te0:tget te 0=rv:=by rw [he 0 (by decide)]; simp [tc0]
 have te2:tget te 2=av:=by rw [he 2 (by decide)]; simp [tc2]
 have te5:tget te 5=.pointer (some ⟨we.next,0,none⟩):=by rw [he 5 (by decide)]; simp [tc5]
 have te9:tget te 9=.pointer (some ⟨we.next + 1,0,none⟩):=by rw [he 9 (by decide)]; simp [tc9]
 have te11:tget te 11=.int .i64 (n:Nat):=by rw [he 11 (by decide)]; simp [tc11]
 have te12:tget te 12=.slice (some ⟨BW,0,none⟩) (n + 1) (n + 1):=by rw [he 12 (by decide)]; simp [tc12]
 have hwn:IntKind.wrap .i64 ((n:Int) - 1)=(n:Int) - 1:=wrap64_in (by omega) (by omega)
 simp [te11,hwn]
 refine wp_seqX (loop65d m n h14 h87 r acts hn.symm rv av BW G hGb (by rw [← hL]; exact hLb) we wE _ (by omega) ne (by omega) ue hla ge (by simp [te0]) (by simp [te2]) (by simp [te12]) (by simp) ?_)
 rw [← hL]
 intro tf wf kf gf hf
 have kf1:=ke1.trans kf
 obtain ⟨uf,g5f,g9f,lf,nf⟩:=keep kf1
 have tf5:tget tf 5=.pointer (some ⟨we.next,0,none⟩):=by rw [hf 5 (by decide)]; simp [te5]
 have tf9:tget tf 9=.pointer (some ⟨we.next + 1,0,none⟩):=by rw [hf 9 (by decide)]; simp [te9]
 have tf11:tget tf 11=.int .i64 (n:Nat):=by rw [hf 11 (by decide)]; simp [te11]
 have tf12:tget tf 12=.slice (some ⟨BW,0,none⟩) (n + 1) (n + 1):=by rw [hf 12 (by decide)]; simp [te12]
 simp
 refine wp_seqX (loop65e n h14 BW _ wf _ gf (by simp [tf11]) (by simp [tf12]) (by simp) (by simp) ?_)
 intro tg hg19 hg
 have tg5:tget tg 5=.pointer (some ⟨we.next,0,none⟩):=by rw [hg 5 (by decide)]; simp [tf5]
 have tg9:tget tg 9=.pointer (some ⟨we.next + 1,0,none⟩):=by rw [hg 9 (by decide)]; simp [tf9]
 have tg11:tget tg 11=.int .i64 (n:Nat):=by rw [hg 11 (by decide)]; simp [tf11]
 have tg12:tget tg 12=.slice (some ⟨BW,0,none⟩) (n + 1) (n + 1):=by rw [hg 12 (by decide)]; simp [tf12]
 rw [← hokE] at hg19
 rw [rowF_congr (g:=refB b (lossL r acts) l) fun k hk=>(hRk k hk).symm] at gf
 obtain ⟨cs3,hcs3⟩:∃ cs3,cs3=RowF n (refB b (lossL r acts) l):=⟨_,rfl⟩
 have Z:=rowX hcs3 (k:=n) (Nat.le_refl _)
 have gf':=gf
 rw [← hcs3] at gf'
 have o2:=Z.hi
 rw [hRk n (Nat.le_refl _),Nat.sub_self] at o2
 have q6:wf.lim≤we.next + 1:=by omega
 have nj:notJunk (.slice (some ⟨BW,0,none⟩) (n + 1) (n + 1))=some (.slice (some ⟨BW,0,none⟩) (n + 1) (n + 1)):=rfl
 simp [tg5,tg9,tg11,tg12,hg19,g5f,g9f,hin,gf',o2,q6,nj,tupV,cellsOf_agg]
 refine ⟨⟨BW,⟨rfl,?_⟩,?_,by omega,nf⟩,uf.put (by omega) (Nat.le_refl _)⟩
 ·rw [hRn]; rfl
 ·rw [if_neg (by omega)]; exact gf
end Go.Proofs.YtlkklcbjjompbaaDoor.walk
namespace Go.Proofs.YtlkklcbjjompbaaDoor.walk
open Go Go.Sh
set_option maxRecDepth 100000
set_option linter.unusedSimpArgs false
def S60r:PSpec where
 R args w v:=∃ (rv dv av lv:Value) (r:List CAct) (d:List CDay) (b:CBox) (acts:List Int) (l:List CRead),args=[rv,dv,.agg ⟨boxC b⟩,av,lv]∧RowsV actC w rv r∧RowsV cdayC w dv d∧RowsV intC w av acts∧RowsV readC w lv l∧CapV av∧v=.int .i64 (rdE r d b acts l)
 uniq:=by
  rintro _ _ _ _ ⟨_,_,_,_,r,d,⟨_,_,_,_⟩,acts,l,rfl,h1,h2,h3,h4,_,rfl⟩ ⟨_,_,_,_,r',d',⟨_,_,_,_⟩,acts',l',h,k1,k2,k3,k4,_,rfl⟩
  cases h
  rw [h1.uniq (m:=7) actC_length actC_inj k1,h2.uniq (m:=3) cdayC_length cdayC_inj k2,h3.uniq (m:=1) intC_length intC_inj k3,h4.uniq (m:=3) readC_length readC_inj k4]
 shut h:=h
theorem rdE_bx {r:List CAct} {d:List CDay} {b:CBox} {acts:List Int} {l:List CRead} (h:¬ bxE r d b=0):rdE r d b acts l=bxE r d b:=by
 have:actE r d b acts=bxE r d b:=by unfold actE; rw [if_neg h]
 unfold rdE
 rw [this,if_neg h]
set_option maxHeartbeats 2000000 in
theorem run60r {ov:Ov} (ho:∀ args w,ov 60 args w=none) (h39:HasP ov 39 S39.F) (h76:HasP ov 76 S76.F) (h52:HasP ov 52 S52.F) (r:List CAct) (d:List CDay) (b:CBox) (acts:List Int) (l:List CRead) (rv dv av lv:Value) (w:AW) (hrv:RowsV actC w rv r) (hdv:RowsV cdayC w dv d) (hav:RowsV intC w av acts) (hlv:RowsV readC w lv l) (hcap:CapV av):∃ x w',(run Tryd.prog ov 2).call 60 [rv,dv,.agg ⟨boxC b⟩,av,lv] w .none=.ok (.ret x) w' .none∧x=.int .i64 (rdE r d b acts l):=by
 refine call_wp text60 (by simp) (ho _ _) ?_
 obtain ⟨w1,hw1⟩:∃ w1:AW,w1=⟨w.heap.put w.next (some (.cells [.int .i64 b.wl,.int .i64 b.wh,.int .i64 b.sl,.int .i64 b.sh] 27 false)),w.next + 1,w.lim⟩:=⟨_,rfl⟩
 have u1:Up w w1:=by rw [hw1]; exact (Up.refl w).add _
 have hl42:=fun w2=>len42V (w':=w2) hlv
 have hl28:=fun w2=>len28V (w':=w2) hav
 have r76:=S76.call1 (P:=Tryd.prog) h76 (w:=w1) ⟨rv,dv,r,d,b,rfl,hrv.up u1,hdv.up u1,rfl⟩
 by_cases hE:bxE r d b=0
 case neg =>
  rw [rdE_bx hE]
  rw [hw1] at r76
  simp only [boxC] at r76 ⊢
  simp [mc60,r76,hE,cellsOf_agg,tupV]
 obtain ⟨hR,hD,_⟩:=bx_of hE
 have r52:=S52.call1 (P:=Tryd.prog) h52 (w:=w1) ⟨rv,dv,av,r,d,acts,rfl,hrv.up u1,hdv.up u1,hav.up u1,hcap,hR,hD,rfl⟩
 rw [hE] at r76
 rw [hw1] at r76 r52
 simp only [boxC] at r76 r52 ⊢
 cases hs:stgF r d startS acts with
 | none =>
  have e:canB r d acts=false:=by unfold canB; rw [hs]; rfl
  have e2:actE r d b acts=63:=by unfold actE; rw [if_pos hE,hs]
  have e3:rdE r d b acts l=63:=by unfold rdE; rw [e2,if_neg (by decide)]
  rw [e] at r52
  simp [mc60,r76,r52,cellsOf_agg,tupV,e3]
 | some s =>
  have e:canB r d acts=true:=by unfold canB; rw [hs]; rfl
  have e2:actE r d b acts=0:=by unfold actE; rw [if_pos hE,hs]
  have e3:rdE r d b acts l=if rdsB (acts.length:Nat) l=true then 0 else 64:=by unfold rdE; rw [e2,if_pos rfl]
  rw [e] at r52
  obtain ⟨n,hn⟩:∃ n,n=acts.length:=⟨_,rfl⟩
  rw [← hn] at hl28 e3
  have h14:n≤14:=by have:=stg_len hR hs; have:=days_len hD; omega
  simp [mc60,r76,r52,cellsOf_agg,hl42]
  rw [← hw1]
  by_cases h10:l.length≤10
  case neg =>
   have h10':¬ (l.length:Int)≤10:=by omega
   have hf:rdsB (n:Nat) l=false:=by unfold rdsB; rw [decide_eq_false h10]; rfl
   refine wp_seqX (wp_blockX (wp_rounds (fun i t w'=>i=0∧tget t 12=.bool false∧tget t 13=.int .i64 0) 20 (by decide) ⟨rfl,by simp [h10,h10'],by simp⟩ ?_))
   rintro i t w' ⟨rfl,t12,t13⟩
   simp [mc60_l0,t12,t13,tupV,e3,hf]
  have h10':(l.length:Int)≤10:=by omega
  refine wp_seqX (wp_blockX (wp_rounds (fun i t w'=>w'=w1∧tget t 3=av∧tget t 4=lv∧tget t 12=.bool ((l.take i).all (rdB n))∧tget t 13=.int .i64 ((i:Nat):Int)∧i≤l.length) 20 (by decide) ⟨rfl,by simp,by simp,by simp [h10,h10'],by simp,Nat.zero_le _⟩ ?_))
  rintro i t w' ⟨rfl,t3,t4,t12,t13,hi⟩
  have hall:∀ q:Bool,(l.take i).all (rdB n)=q→i=l.length→rdsB (n:Nat) l=q:=fun q hq e=>by
   subst e
   rw [List.take_length] at hq
   unfold rdsB
   rw [decide_eq_true h10,Bool.true_and]; exact hq
  cases hb:(l.take i).all (rdB n) with
  | false =>
   rw [hb] at t12
   have hf:rdsB (n:Nat) l=false:=by
    unfold rdsB
    rw [decide_eq_true h10,Bool.true_and,← Bool.not_eq_true,List.all_eq_true]
    intro h
    have:(l.take i).all (rdB n)=true:=List.all_eq_true.2 fun p hp=>h p (List.mem_of_mem_take hp)
    rw [hb] at this; cases this
   simp [mc60_l0,t12,t13,tupV,e3,hf]
  | true =>
   rw [hb] at t12
   by_cases hlt:i < l.length
   ·obtain ⟨p,hp⟩:∃ p,l[i]?=some p:=⟨_,List.getElem?_eq_getElem hlt⟩
    obtain ⟨bb,off,sq,c,rfl,hra⟩:=hlv.at_ i hlt
    have hsame:=u1.at hra.2
    have f0:=hra.rd1 (j:=0) readC_length hp (x:=.int .i64 p.day) rfl
    have f1:=hra.rd1 (j:=1) readC_length hp (x:=.int .i64 p.read) rfl
    have f2:=hra.rd1 (j:=2) readC_length hp (x:=.int .i64 p.wrong) rfl
    rw [← hsame] at f0 f1 f2
    rw [Nat.add_zero] at f0
    have hib:=fun w=>ia42 w ⟨bb,off,sq⟩ l.length c .i64 i hlt
    have hw1':IntKind.wrap .i64 ((i:Int) + 1)=(i:Int) + 1:=wrap64_in (by omega) (by omega)
    have r39:=fun n a b w=>S39.call1 (P:=Tryd.prog) h39 (w:=w) ⟨n,a,b,rfl,rfl⟩
    have htk:(l.take (i + 1)).all (rdB n)=rdB n p:=by rw [take_snoc hp,List.all_append,hb]; simp
    have hrd:rdB n p=(inI 0 p.day n && (inI 0 p.read 1010000 && inI 0 p.wrong 10000)):=rfl
    rw [hrd] at htk
    cases h0:inI 0 p.day n with
    | false =>
     rw [h0] at htk
     simp [mc60_l0,t3,t4,t12,t13,hl42,hl28,hlt,hib,f0,f1,f2,r39,h0,hw1']
     exact ⟨by omega,by simpa using htk,hlt⟩
    | true =>
     cases h1:inI 0 p.read 1010000 with
     | false =>
      rw [h0,h1] at htk
      simp [mc60_l0,t3,t4,t12,t13,hl42,hl28,hlt,hib,f0,f1,f2,r39,h0,h1,hw1']
      exact ⟨by omega,by simpa using htk,hlt⟩
     | true =>
      rw [h0,h1] at htk
      simp [mc60_l0,t3,t4,t12,t13,hl42,hl28,hlt,hib,f0,f1,f2,r39,h0,h1,hw1']
      exact ⟨by omega,by simpa using htk.symm,hlt⟩
   ·have hi':i=l.length:=by omega
    have hT:=hall true hb hi'
    subst hi'
    simp [mc60_l0,t4,t12,t13,hl42,tupV,e3,hT]
end Go.Proofs.YtlkklcbjjompbaaDoor.walk
