/- Part of a proof by a machine of ones own: see the text with the theorem. -/
import Derived.Test.YtaiiampennkhiaaDoorQB
namespace Go.Proofs.YtaiiampennkhiaaDoor.walk
open Go Go.Sh
open known (partsC laidL noOv)
set_option maxRecDepth 100000
variable {fm:Nat}
set_option linter.unusedSimpArgs false
def pk (f:Nat→Pod→Int) (l:List Pod):Nat→List Int
 | 0=>[]
 | i + 1=>pk f l i++[match l[i]? with | some p=>f i p | none=>0]
theorem pk_length (f:Nat→Pod→Int) (l:List Pod):∀ n,(pk f l n).length=n
 | 0=>rfl
 | n + 1=>by simp [pk,pk_length f l n]
theorem pk_at (f:Nat→Pod→Int) (l:List Pod) {i:Nat} {p:Pod} (hp:l[i]?=some p):∀ n,i < n→(pk f l n)[i]?=some (f i p)
 | 0,h=>by omega
 | n + 1,h=>by
  show (pk f l n++_)[i]?=_
  by_cases e:i < n
  ·rw [List.getElem?_append_left (by rw [pk_length]; exact e),pk_at f l hp n e]
  ·have e':i=n:=by omega
   rw [List.getElem?_append_right (by rw [pk_length]; omega),pk_length,e',Nat.sub_self]
   subst e'
   simp [hp]
theorem pk_succ (f:Nat→Pod→Int) (l:List Pod) {i:Nat} {p:Pod} (hp:l[i]?=some p):pk f l i++[f i p]=pk f l (i + 1):=by
 show _=pk f l i++_
 rw [hp]
def fR (bits:List Int) (i:Nat) (p:Pod):Int:=withI p.rl p.rh (nthI bits (3 * (i:Int)))
def fH (bits:List Int) (i:Nat) (p:Pod):Int:=withI p.hl p.hh (nthI bits (3 * (i:Int) + 1))
def fG (bits:List Int) (i:Nat) (p:Pod):Int:=withI p.gl p.gh (nthI bits (3 * (i:Int) + 2))
theorem In34.grow {w0 w w':AW} {vr vh vg:Value} {R H G:List Int} {Br Bh Bg:Nat} (h:In34 w0 vr vh vg R H G Br Bh Bg w) (k:∀ x,x < w.next→w'.heap.get x=w.heap.get x) (hn:w.next≤w'.next) (hl:w'.lim=w.lim):In34 w0 vr vh vg R H G Br Bh Bg w':=by
 have hx:=h.next
 exact ⟨fun b hb=>by rw [k b (by omega),h.old b hb],by rw [k _ (by omega)]; exact h.res,by rw [k _ hx]; exact h.box,h.ar.keep (B0:=0) (fun x a _ _=>k x a) hn fun e=>e,h.ah.keep (B0:=0) (fun x a _ _=>k x a) hn fun e=>e,h.ag.keep (B0:=0) (fun x a _ _=>k x a) hn fun e=>e,h.rh,h.rg,h.hg,by omega,by rw [hl]; exact h.lim⟩
theorem loop34 {ov:Ov} (h41:HasP ov 41 F41) (h38:HasP ov 38 F38) (bv v:Value) (bits:List Int) (l:List Pod) (w0:AW) (hl0:w0.lim≤w0.next) (hv:PodsV w0 v l) (hb:RowsV intC w0 bv bits) (hbl:bits.length≤2 ^ 60) (hB:podsB l=true)
  (Q:Ex→Tm→AW→Prop) (t:Tm) (w:AW) (hw:In34 w0 (.slice none 0 0) (.slice none 0 0) (.slice none 0 0) [] [] [] 0 0 0 w)
  (t0:tget t 0=v) (t1:tget t 1=bv) (t4:tget t 4=.pointer (some ⟨w0.next,0,none⟩)) (t5:tget t 5=.pointer (some ⟨w0.next + 1,0,none⟩)) (t6:tget t 6=.int .i64 0)
  (hQ:∀ t w vr vh vg Br Bh Bg,In34 w0 vr vh vg (pk (fR bits) l l.length) (pk (fH bits) l l.length) (pk (fG bits) l l.length) Br Bh Bg w→tget t 4=.pointer (some ⟨w0.next,0,none⟩)→tget t 5=.pointer (some ⟨w0.next + 1,0,none⟩)→Q (.exit 0) t w) :
  wp (exM Tryd.prog (run Tryd.prog ov (fm + 1)) (.loop mc34_l0) t w) Q:=by
 have hlen:=podsB_len hB
 refine wp_rounds (fun i t w=>(∃ vr vh vg Br Bh Bg,In34 w0 vr vh vg (pk (fR bits) l i) (pk (fH bits) l i) (pk (fG bits) l i) Br Bh Bg w)∧tget t 0=v∧tget t 1=bv∧tget t 4=.pointer (some ⟨w0.next,0,none⟩)∧tget t 5=.pointer (some ⟨w0.next + 1,0,none⟩)∧tget t 6=.int .i64 (i:Nat)∧i≤l.length) 200 (by decide)
  ⟨⟨_,_,_,_,_,_,hw⟩,t0,t1,t4,t5,by simpa using t6,Nat.zero_le _⟩ ?_
 clear t0 t1 t4 t5 t6 hw
 rintro i t w ⟨⟨vr,vh,vg,Br,Bh,Bg,hw⟩,t0,t1,t4,t5,t6,hi⟩
 have hln:=fun w=>len22V hv w
 by_cases hlt:i < l.length
 ·obtain ⟨p,hp⟩:∃ p,l[i]?=some p:=⟨_,List.getElem?_eq_getElem hlt⟩
  obtain ⟨b,sq,c,rfl,hpa⟩:=hv.at_ i hlt
  have hpb:=pods_all hB hp
  have hld:=load_pod' hpa hp
  rw [← hw.old _ hpa.lt] at hld
  have n2:=hw.next
  have hlim:=hw.lim
  have hl1:w.lim≤w.next:=by omega
  have m0:¬ b=w.next:=by have:=hpa.lt; omega
  have hia:=fun w=>ia22 w ⟨b,0,sq⟩ l.length c .i64 i hlt
  have hw1:IntKind.wrap .i64 ((i:Int) + 1)=(i:Int) + 1:=wrap64_in (by omega) (by omega)
  have hgr:∀ z:AObj,∀ x,x < w.next→((w.heap.put w.next (some z)).put w.next (some (.cells (podC p) 30 false))).get x=w.heap.get x:=fun z x hx=>by rw [get_put,if_neg (by omega),get_put,if_neg (by omega)]
  have e1:=pk_succ (fR bits) l hp
  have e2:=pk_succ (fH bits) l hp
  have e3:=pk_succ (fG bits) l hp
  have b1:=hw.ar.lt (by omega)
  have b2:=hw.ah.lt (by omega)
  have b3:=hw.ag.lt (by omega)
  simp [mc34_eq,t0,t1,t4,t5,t6,hlt,hia,hld,hl1,m0,cellsOf_agg]
  refine wp_seqX (wp_blockX (wp_seqX (part34_0 h41 h38 bv (.slice (some ⟨b,0,sq⟩) l.length c) bits w0 hl0 hb hbl p hpb i (by omega) w.next vr vh vg _ _ _ (by rw [pk_length]; omega) Br Bh Bg _ _ _ (hw.grow ?_ ?_ ?_) ⟨?_,?_,?_,?_,?_,?_⟩ ?_ ?_ ?_ ?_ ?_ ?_ ?_)))
  ·exact hgr _
  ·exact Nat.le_succ _
  ·rfl
  ·simp
  ·omega
  ·exact Nat.lt_succ_self _
  ·omega
  ·omega
  ·omega
  ·simp [t0]
  ·simp [t1]
  ·simp [t4]
  ·simp [t5]
  ·simp [t6]
  ·simp
  ·clear vr Br hw b1 b2 b3
   intro t w1 vr Br hw hpd t0 t1 t4 t5 t6 t7
   refine wp_seqX (part34_1 h41 h38 bv (.slice (some ⟨b,0,sq⟩) l.length c) bits w0 hl0 hb hbl p hpb i (by omega) w.next vr vh vg _ _ _ (by rw [pk_length]; omega) Br Bh Bg _ _ _ hw hpd t0 t1 t4 t5 t6 t7 ?_)
   clear vh Bh hw hpd t0 t1 t4 t5 t6 t7 t
   intro t w2 vh Bh hw hpd t0 t1 t4 t5 t6 t7
   refine part34_2 h41 h38 bv (.slice (some ⟨b,0,sq⟩) l.length c) bits w0 hl0 hb hbl p hpb i (by omega) w.next vr vh vg _ _ _ (by rw [pk_length]; omega) Br Bh Bg _ _ _ hw hpd t0 t1 t4 t5 t6 t7 ?_
   clear vg Bg hw hpd t0 t1 t4 t5 t6 t7 t
   intro t w3 vg Bg hw hpd t0 t1 t4 t5 t6 t7
   have hw':In34 w0 vr vh vg (pk (fR bits) l (i + 1)) (pk (fH bits) l (i + 1)) (pk (fG bits) l (i + 1)) Br Bh Bg w3:=by rw [← e1,← e2,← e3]; exact hw
   simp [t0,t1,t4,t5,t6,t7,hw1]
   exact ⟨by omega,⟨_,_,_,_,_,_,hw'⟩,by omega⟩
 ·have hi':i=l.length:=by omega
  subst hi'
  simp [mc34_eq,t0,t1,t4,t5,t6,hln]
  exact hQ _ _ _ _ _ _ _ _ hw (by simp [t4]) (by simp [t5])
theorem AccI.rows {n1:Nat} {w w':AW} {v:Value} {acc:List Int} {B:Nat} (h:AccI n1 w v acc B) (k:∀ x,n1 < x→x < w.next→w'.heap.get x=w.heap.get x) (hn:w.next≤w'.next):RowsV intC w' v acc:=by
 rcases h with ⟨h1,h2,_⟩ | ⟨h1,h2,h3,h4⟩
 ·exact .inl ⟨h1,_,_,h2⟩
 ·exact .inr ⟨B,0,none,_,h1,⟨[],[],3,false,by rw [k B h3 h4,h2]; simp,rfl⟩,by omega⟩
theorem AccI.single {n1:Nat} {w:AW} {v:Value} {acc:List Int} {B:Nat} (h:AccI n1 w v acc B):Go.Sh.single v=true:=by
 rcases h with ⟨_,rfl,_⟩ | ⟨rfl,_⟩ <;> rfl
theorem call34 {ov:Ov} (ho:∀ args w,ov 34 args w=none) (h41:HasP ov 41 F41) (h38:HasP ov 38 F38) (bv v:Value) (bits:List Int) (l:List Pod) (w:AW) (hl:w.lim≤w.next) (hv:PodsV w v l) (hb:RowsV intC w bv bits) (hbl:bits.length≤2 ^ 60) (hB:podsB l=true) :
  ∃ x w',(run Tryd.prog ov (fm + 2)).call 34 [v,bv] w .none=.ok (.ret x) w' .none∧∃ vr vh vg,x=.agg ⟨[vr,vh,vg]⟩∧RowsV intC w' vr (pk (fR bits) l l.length)∧RowsV intC w' vh (pk (fH bits) l l.length)∧RowsV intC w' vg (pk (fG bits) l l.length)∧Old w.next w.heap w'.heap∧w.next≤w'.next∧w'.lim=w.lim:=by
 refine call_wp text34 (by simp) (ho _ _) ?_
 simp [mc34]
 refine wp_seqX (wp_blockX (loop34 h41 h38 bv v bits l w hl hv hb hbl hB _ _ _ ⟨?_,?_,?_,.inl ⟨rfl,rfl,rfl⟩,.inl ⟨rfl,rfl,rfl⟩,.inl ⟨rfl,rfl,rfl⟩,fun h=>h,fun h=>h,fun h=>h,?_,?_⟩ ?_ ?_ ?_ ?_ ?_ ?_))
 ·intro b hb
  simp [show ¬ b=w.next by omega,show ¬ b=w.next + 1 by omega]
 ·simp
 ·simp
 ·simp
 ·simp
 ·simp
 ·simp
 ·simp
 ·simp
 ·simp
 ·intro t w' vr vh vg Br Bh Bg hw t4 t5
  have hbox:=hw.box
  have hres:=hw.res
  have hlm:=hw.lim
  have hnx:=hw.next
  have l1:w'.lim≤w.next:=by omega
  have hs:singles [vr,vh,vg]=true:=by simp [singles,hw.ar.single,hw.ah.single,hw.ag.single]
  simp [t4,t5,hbox,hres,l1,cellsOf_agg,hs,tupV]
  have hk:∀ x,w.next + 1 < x→x < w'.next→(w'.heap.put w.next (some (.cells [vr,vh,vg] 35 false))).get x=w'.heap.get x:=fun x h1 h2=>by rw [get_put,if_neg (by omega)]
  exact ⟨_,_,_,⟨rfl,rfl,rfl⟩,hw.ar.rows hk (Nat.le_refl _),hw.ah.rows hk (Nat.le_refl _),hw.ag.rows hk (Nat.le_refl _),hw.old.put (Nat.le_refl _),by omega,hlm⟩
end Go.Proofs.YtaiiampennkhiaaDoor.walk
namespace Go.Proofs.YtaiiampennkhiaaDoor.walk
open Go Go.Sh
open known (partsC laidL noOv)
set_option maxRecDepth 100000
set_option linter.unusedSimpArgs false
theorem choose_ok {p:Pod} (hp:podB p=true) (bits:List Int) (i:Nat):truthOk p (fR bits i p) (fH bits i p) (fG bits i p)=true:=by
 have k:=pod_ok hp
 have:=k.r1; have:=k.h1; have:=k.g1
 simp only [truthOk,Bool.and_eq_true]
 exact ⟨with_in (by assumption),with_in (by assumption),with_in (by assumption)⟩
theorem choose_to {l:List Pod} (hB:podsB l=true) (bits:List Int):∀ n,n≤l.length→truthTo l (pk (fR bits) l l.length) (pk (fH bits) l l.length) (pk (fG bits) l l.length) n=true
 | 0,_=>rfl
 | n + 1,h=>by
  obtain ⟨p,hp⟩:∃ p,l[n]?=some p:=⟨_,List.getElem?_eq_getElem (by omega)⟩
  rw [truth_snoc hp (pk_at _ l hp _ h) (pk_at _ l hp _ h) (pk_at _ l hp _ h),choose_to hB bits n (by omega),choose_ok (pods_all hB hp)]
  rfl
theorem choose_truth {l:List Pod} (hB:podsB l=true) (bits:List Int):truthB l (pk (fR bits) l l.length) (pk (fH bits) l l.length) (pk (fG bits) l l.length)=true:=by
 simp [truthB,pk_length,choose_to hB bits l.length (Nat.le_refl _)]
theorem sY_le {c:Yl→Int}:∀ A B:List Yl,A.length=B.length→(∀ (i:Nat) (a b:Yl),A[i]?=some a→B[i]?=some b→c a≤c b)→sY c A≤sY c B
 | [],[],_,_=>Int.le_refl _
 | [],_::_,h,_=>by simp at h
 | _::_,[],h,_=>by simp at h
 | a::A,b::B,h,k=>by
  show c a + sY c A≤c b + sY c B
  have h1:=k 0 a b rfl rfl
  have h2:=sY_le A B (by simpa using h) fun i a b e1 e2=>k (i + 1) a b (by simpa using e1) (by simpa using e2)
  omega
theorem truth_lens {l:List Pod} {R H G:List Int} (hT:truthB l R H G=true):R.length=l.length∧H.length=l.length∧G.length=l.length:=by
 simp only [truthB,Bool.and_eq_true,decide_eq_true_eq] at hT; exact ⟨hT.1,hT.2.1,hT.2.2.1⟩
theorem plan_len {l:List Pod} {pl:List Int} (hP:planB l pl=true):pl.length=l.length:=by simp only [planB,Bool.and_eq_true,decide_eq_true_eq] at hP; exact hP.1
theorem lies {l:List Pod} {pl R H G:List Int} (hB:podsB l=true) (hP:planB l pl=true) (hT:truthB l R H G=true) :
  ((loS l pl).ripe≤(sumYl (ysH l pl R H G)).ripe∧(sumYl (ysH l pl R H G)).ripe≤(hiS l pl).ripe)∧((loS l pl).green≤(sumYl (ysH l pl R H G)).green∧(sumYl (ysH l pl R H G)).green≤(hiS l pl).green)∧((loS l pl).split≤(sumYl (ysH l pl R H G)).split∧(sumYl (ysH l pl R H G)).split≤(hiS l pl).split):=by
 obtain ⟨e1,e2,e3⟩:=truth_lens hT
 have e0:=plan_len hP
 have hy:=ysH_length l pl R H G e0 e1 e2 e3
 have he:=esH_length l pl e0
 have key:∀ (i:Nat) (y:Yl) (e:Yl × Yl),(ysH l pl R H G)[i]?=some y→(esH l pl)[i]?=some e→(e.1.ripe≤y.ripe∧y.ripe≤e.2.ripe)∧(e.1.green≤y.green∧y.green≤e.2.green)∧(e.1.split≤y.split∧y.split≤e.2.split):=by
  intro i y e h1 h2
  have hlt:i < l.length:=by have:=(List.getElem?_eq_some_iff.1 h1).1; omega
  obtain ⟨p,hp⟩:∃ p,l[i]?=some p:=⟨_,List.getElem?_eq_getElem hlt⟩
  obtain ⟨d,hdi⟩:∃ d,pl[i]?=some d:=⟨_,List.getElem?_eq_getElem (e0 ▸ hlt)⟩
  obtain ⟨r,hri⟩:∃ d,R[i]?=some d:=⟨_,List.getElem?_eq_getElem (e1 ▸ hlt)⟩
  obtain ⟨h,hhi⟩:∃ d,H[i]?=some d:=⟨_,List.getElem?_eq_getElem (e2 ▸ hlt)⟩
  obtain ⟨g,hgi⟩:∃ d,G[i]?=some d:=⟨_,List.getElem?_eq_getElem (e3 ▸ hlt)⟩
  rw [ysH_at l pl R H G i p d r h g hp hdi hri hhi hgi] at h1
  rw [esH_at l pl i p d hp hdi] at h2
  cases h1
  cases h2
  have k:=pod_ok (pods_all hB hp)
  have hd:=plan_day (plan_at hP hp hdi)
  have ht:=truth_at hT hp hri hhi hgi
  simp only [truthOk,inI,Bool.and_eq_true,decide_eq_true_eq] at ht
  obtain ⟨⟨a1,a2⟩,⟨a3,a4⟩,a5,a6⟩:=ht
  exact ⟨in_ripe k hd a1 a2 a3 a4 a5 a6,in_green k hd a1 a2 a5 a6,in_split k a1 a2 a3 a4⟩
 have lo:∀ (i:Nat) (y e:Yl),((esH l pl).map (·.1))[i]?=some e→(ysH l pl R H G)[i]?=some y→∃ e',(esH l pl)[i]?=some e'∧e'.1=e:=fun i y e h1 h2=>by
  rw [List.getElem?_map] at h1
  cases hx:(esH l pl)[i]? with
  | none=>rw [hx] at h1; cases h1
  | some e'=>rw [hx] at h1; cases h1; exact ⟨_,rfl,rfl⟩
 have hi:∀ (i:Nat) (y e:Yl),((esH l pl).map (·.2))[i]?=some e→(ysH l pl R H G)[i]?=some y→∃ e',(esH l pl)[i]?=some e'∧e'.2=e:=fun i y e h1 h2=>by
  rw [List.getElem?_map] at h1
  cases hx:(esH l pl)[i]? with
  | none=>rw [hx] at h1; cases h1
  | some e'=>rw [hx] at h1; cases h1; exact ⟨_,rfl,rfl⟩
 refine ⟨⟨sY_le _ _ (by simp [hy,he]) fun i a b h1 h2=>?_,sY_le _ _ (by simp [hy,he]) fun i a b h1 h2=>?_⟩,⟨sY_le _ _ (by simp [hy,he]) fun i a b h1 h2=>?_,sY_le _ _ (by simp [hy,he]) fun i a b h1 h2=>?_⟩,sY_le _ _ (by simp [hy,he]) fun i a b h1 h2=>?_,sY_le _ _ (by simp [hy,he]) fun i a b h1 h2=>?_⟩
 ·obtain ⟨e',k1,rfl⟩:=lo i b a h1 h2; exact (key i b e' h2 k1).1.1
 ·obtain ⟨e',k1,rfl⟩:=hi i a b h2 h1; exact (key i a e' h1 k1).1.2
 ·obtain ⟨e',k1,rfl⟩:=lo i b a h1 h2; exact (key i b e' h2 k1).2.1.1
 ·obtain ⟨e',k1,rfl⟩:=hi i a b h2 h1; exact (key i a e' h1 k1).2.1.2
 ·obtain ⟨e',k1,rfl⟩:=lo i b a h1 h2; exact (key i b e' h2 k1).2.2.1
 ·obtain ⟨e',k1,rfl⟩:=hi i a b h2 h1; exact (key i a e' h1 k1).2.2.2
end Go.Proofs.YtaiiampennkhiaaDoor.walk
