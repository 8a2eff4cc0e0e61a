/- Part of a proof: see the text with the theorem. -/
import Derived.Test.YthihnhgdbfcabaaGreatDoorTa
import Derived.Test.YthihnhgdbfcabaaGreatDoorTk
import Derived.Test.YthihnhgdbfcabaaGreatDoorTb
import Derived.Test.YthihnhgdbfcabaaGreatDoorTe
import Derived.Test.YthihnhgdbfcabaaGreatDoorShF
set_option linter.all false
namespace Go.Proofs.YthihnhgdbfcabaaGreatDoor.walk
open Go Go.Sh
set_option maxRecDepth 100000
def nearP (M:Nat) (b c:Int) (x y:Pd):Prop:=M=1∨x.2 - y.2 + 2 * c≤b
theorem srt_le {L:List Pd} (h:Srt (fun x y=>pdK x y < 0) L 0 L.length):L.Pairwise (fun x y:Pd=>x.2≤y.2):=by
 have:=srt_snd h
 rwa [List.pairwise_map] at this
theorem zI_nodup (l:List Int):(zI l l.length).Nodup:=by
 have h:((zI l l.length).map fun p=>(p.1:Int)).Nodup:=by
  rw [zI_at]
  refine List.pairwise_map.2 (List.nodup_range.imp fun h e=>h ?_)
  omega
 exact (List.pairwise_map.1 h).imp fun h e=>h (by rw [e])
theorem bun_near {M:Nat} {b c:Int} {B:List Pd} (hs:(B.map Prod.snd).Pairwise (·≤·)) (hM:B.length=M) (h:bunB b c B=true):∀ x ∈ B,∀ y ∈ B,nearP M b c x y:=by
 intro x hx y hy
 unfold bunB bunI at h
 rw [Bool.or_eq_true,decide_eq_true_eq,decide_eq_true_eq,List.length_map] at h
 rcases h with h | h
 ·exact .inl (by omega)
 ·have g1:=head_last hs _ (List.mem_map.2 ⟨x,hx,rfl⟩)
  have g2:=head_last hs _ (List.mem_map.2 ⟨y,hy,rfl⟩)
  exact .inr (by omega)
theorem fam_run {M:Nat} {b c:Int} {L:List Pd} (hs:L.Pairwise (fun x y:Pd=>x.2≤y.2)) (hn:L.Nodup) (n:Nat):Fam M (nearP M b c) L (runG M (bunB b c) n L) where
 len B hB:=(runG_mem n L B hB).1
 near B hB:=by
  obtain ⟨h1,h2,h3⟩:=runG_mem n L B hB
  exact bun_near (List.pairwise_map.2 (List.Pairwise.sublist h3 hs)) h1 h2
 once:=List.Pairwise.sublist (runG_flat n L) hn
 inn x hx:=(runG_flat n L).subset hx
theorem bun_best {M:Nat} (hM:1≤M) {b c:Int} {L:List Pd} (hs:L.Pairwise (fun x y:Pd=>x.2≤y.2)) (hn:L.Nodup) {F:List (List Pd)} (hF:Fam M (nearP M b c) L F):F.length≤(runG M (bunB b c) (L.length + 1) L).length:=by
 refine runG_best hM (fun x y:Pd=>x.2≤y.2) (fun a y z h1 h2=>?_) (fun L hR hN hl hb F hF x hx=>?_) (L.length + 1) L hs hn (Nat.lt_succ_self _) F hF
 ·rcases h2 with h2 | h2
  ·exact .inl h2
  ·exact .inr (by have:a.2≤z.2:=h1; omega)
 ·have hxL:=hF.inn x hx
  cases L with
  | nil=>cases hxL
  | cons h tl =>
   rw [List.tail_cons]
   rcases List.mem_cons.1 hxL with e | e
   ·exfalso
    subst e
    obtain ⟨B,hB,hxB⟩:=List.mem_flatten.1 hx
    have hBl:=hF.len B hB
    have hBn:B.Nodup:=(List.pairwise_flatten.1 hF.once).1 B hB
    obtain ⟨q,hq⟩:∃ q,(x::tl)[M - 1]?=some q:=⟨_,List.getElem?_eq_getElem (by omega)⟩
    have hlen:((x::tl).take M).length=M:=by rw [List.length_take]; omega
    have hlast:lastI (((x::tl).take M).map Prod.snd)=q.2:=by
     unfold lastI
     rw [List.getLast?_map,List.getLast?_eq_getElem?,hlen,List.getElem?_take_of_lt (by omega),hq]; rfl
    have hhead:headI (((x::tl).take M).map Prod.snd)=x.2:=by
     obtain ⟨k,rfl⟩:∃ k,M=k + 1:=⟨M - 1,by omega⟩
     rfl
    unfold bunB bunI at hb
    rw [Bool.or_eq_false_iff,decide_eq_false_iff_not,decide_eq_false_iff_not,List.length_map,hlen,hlast,hhead] at hb
    have hsub:∀ y ∈ B,y ∈ (x::tl).take (M - 1):=fun y hy=>by
     have hyL:=hF.inn y (List.mem_flatten.2 ⟨B,hB,hy⟩)
     rw [← List.take_append_drop (M - 1) (x::tl)] at hyL
     rcases List.mem_append.1 hyL with h | h
     ·exact h
     ·exfalso
      have hd:(x::tl).drop (M - 1)=q::(x::tl).drop (M - 1 + 1):=by
       obtain ⟨h1,h2⟩:=List.getElem?_eq_some_iff.1 hq
       rw [List.drop_eq_getElem_cons h1,h2]
      have hp:=List.Pairwise.sublist (List.drop_sublist (M - 1) (x::tl)) hR
      rw [hd] at hp h
      have hqy:q.2≤y.2:=by
       rcases List.mem_cons.1 h with e | e
       ·rw [e]; exact Int.le_refl _
       ·exact (List.pairwise_cons.1 hp).1 y e
      rcases hF.near B hB y hy x hxB with e | e
      ·exact hb.1 e
      ·omega
    have:=nodup_leA hBn hsub
    rw [List.length_take] at this
    omega
   ·exact e
theorem famMono {α:Type} {m:Nat} {P P':α→α→Prop} {L L':List α} {F:List (List α)} (h:Fam m P L F) (hP:∀ x y,P x y→P' x y) (hL:∀ x ∈ L,x ∈ L'):Fam m P' L' F :=
 ⟨h.len,fun B hB x hx y hy=>hP _ _ (h.near B hB x hx y hy),h.once,fun x hx=>hL x (h.inn x hx)⟩
theorem zI_more {pods:List Int} {z:Int} {x:Pd} (h:x ∈ zI pods pods.length):x ∈ zI (pods++[z]) (pods++[z]).length:=by
 obtain ⟨h1,h2⟩:=zI_mem h
 unfold zI
 refine List.mem_map.2 ⟨x.1,List.mem_range.2 (by rw [List.length_append]; simp; omega),?_⟩
 rw [List.getElem?_append_left h1,h2]; rfl
def plI (pods:List Int) (k:Nat):Int:=(pods[k]?).getD 0
def nearI (b c:Int) (pods:List Int) (x y:Nat):Prop:=max (plI pods x - plI pods y) (plI pods y - plI pods x) + 2 * c≤b
structure GOk (M:Nat) (b c:Int) (pods:List Int) (F:List (List Nat)):Prop where
 len:∀ B ∈ F,B.length=M
 near:∀ B ∈ F,B.Pairwise (nearI b c pods)
 once:F.flatten.Nodup
 inn:∀ x ∈ F.flatten,x < pods.length
theorem pair_all {α:Type} {R:α→α→Prop} (hsym:∀ x y,R x y→R y x):∀ {l:List α},l.Pairwise R→(∀ x ∈ l,R x x)→∀ x ∈ l,∀ y ∈ l,R x y
 | [],_,_,x,hx,_,_=>by cases hx
 | a::l,hp,hr,x,hx,y,hy=>by
  obtain ⟨p1,p2⟩:=List.pairwise_cons.1 hp
  rcases List.mem_cons.1 hx with rfl | hx'
  ·rcases List.mem_cons.1 hy with rfl | hy'
   ·exact hr _ (.head _)
   ·exact p1 y hy'
  ·rcases List.mem_cons.1 hy with rfl | hy'
   ·exact hsym _ _ (p1 x hx')
   ·exact pair_all hsym p2 (fun z hz=>hr z (.tail _ hz)) x hx' y hy'
theorem nearI_symm {b c:Int} {pods:List Int} (x y:Nat) (h:nearI b c pods x y):nearI b c pods y x:=by
 unfold nearI at h ⊢
 rwa [Int.max_comm]
theorem nearI_le {b c:Int} {pods:List Int} {x y:Nat} (h:nearI b c pods x y):plI pods x - plI pods y + 2 * c≤b∧2 * c≤b:=by
 unfold nearI at h
 rw [Int.max_def] at h
 split at h <;> omega
theorem nearI_refl {b c:Int} {pods:List Int} (h:2 * c≤b) (x:Nat):nearI b c pods x x:=by
 unfold nearI
 rw [Int.max_self]
 omega
theorem GOk.nil (M:Nat) (b c:Int) (pods:List Int):GOk M b c pods []:=⟨by simp,by simp,by simp,by simp⟩
theorem GOk.add {M:Nat} {b c:Int} {pods:List Int} {F:List (List Nat)} (h:GOk M b c pods F) {O:List Nat} (h1:O.length=M) (h2:O.Pairwise (nearI b c pods)) (h3:O.Nodup) (h4:∀ x ∈ O,x < pods.length∧x ∉ F.flatten):GOk M b c pods (F++[O]) where
 len B hB:=by
  rcases List.mem_append.1 hB with e | e
  ·exact h.len B e
  ·rw [List.mem_singleton.1 e]; exact h1
 near B hB:=by
  rcases List.mem_append.1 hB with e | e
  ·exact h.near B e
  ·rw [List.mem_singleton.1 e]; exact h2
 once:=by
  rw [List.flatten_append]
  refine List.nodup_append.2 ⟨h.once,by simpa using h3,fun x hx y hy e=>?_⟩
  have hy':y ∈ O:=by simpa using hy
  exact (h4 y hy').2 (e ▸ hx)
 inn x hx:=by
  rw [List.flatten_append] at hx
  rcases List.mem_append.1 hx with e | e
  ·exact h.inn x e
  ·exact (h4 x (by simpa using e)).1
theorem GOk.fam {M:Nat} {b c:Int} {pods:List Int} {F:List (List Nat)} (h:GOk M b c pods F):Fam M (nearP M b c) (zI pods pods.length) (F.map (List.map fun k=>(k,plI pods k))) where
 len B hB:=by
  obtain ⟨B',hB',rfl⟩:=List.mem_map.1 hB
  rw [List.length_map]; exact h.len B' hB'
 near B hB x hx y hy:=by
  obtain ⟨B',hB',rfl⟩:=List.mem_map.1 hB
  obtain ⟨x',hx',rfl⟩:=List.mem_map.1 hx
  obtain ⟨y',hy',rfl⟩:=List.mem_map.1 hy
  have hl:=h.len B' hB'
  have hn:=h.near B' hB'
  by_cases hM:M=1
  ·exact .inl hM
  ·refine .inr ?_
   have h2:2 * c≤b:=by
    match B',hl,hn,hx' with
    | [],_,_,hx'=>cases hx'
    | [a],hl,_,_=>exact absurd hl.symm hM
    | a::a'::l,_,hn,_=>exact (nearI_le ((List.pairwise_cons.1 hn).1 a' (.head _))).2
   exact (nearI_le (pair_all nearI_symm hn (fun z _=>nearI_refl h2 z) x' hx' y' hy')).1
 once:=by
  rw [← List.map_flatten]
  refine List.pairwise_map.2 (h.once.imp fun hne e=>hne ?_)
  exact (Prod.mk.inj e).1
 inn x hx:=by
  rw [← List.map_flatten] at hx
  obtain ⟨k,hk,rfl⟩:=List.mem_map.1 hx
  exact List.mem_map.2 ⟨k,List.mem_range.2 (h.inn k hk),rfl⟩
theorem row_ab {M:Nat} {b c:Int} {pods:List Int} {L:List Pd} (hL:L.Perm (zI pods pods.length)) (hs:Srt (fun x y=>pdK x y < 0) L 0 L.length) {acc:List El} (ha:acc.map (fun e=>e.2.2)=runG M (bunB b c) (L.length + 1) L) (hi:∀ e ∈ acc,IdxOk e) (e:El) (he:e ∈ acc) :
  ∃ A B:Int,(∀ (x:Nat) (p:Int),(x:Int) ∈ e.2.1→pods[x]?=some p→A≤p∧p≤B)∧(M=1∨B - A + 2 * c≤b):=by
 obtain ⟨h1,h2,h3⟩:=runG_mem (L.length + 1) L e.2.2 (by rw [← ha]; exact List.mem_map.2 ⟨e,he,rfl⟩)
 have hpw:(e.2.2.map Prod.snd).Pairwise (·≤·):=List.Pairwise.sublist (h3.map _) (srt_snd hs)
 refine ⟨headI (e.2.2.map Prod.snd),lastI (e.2.2.map Prod.snd),fun x p hx hp=>?_,?_⟩
 ·obtain ⟨p',hp',e1⟩:=List.mem_map.1 ((hi e he).1.mem_iff.1 hx)
  have f1:=(zI_mem (hL.mem_iff.1 (h3.subset hp'))).2
  rw [show p'.1=x by omega,hp] at f1
  cases Option.some.inj f1
  exact head_last hpw _ (List.mem_map.2 ⟨p',hp',rfl⟩)
 ·unfold bunB bunI at h2
  rw [Bool.or_eq_true,decide_eq_true_eq,decide_eq_true_eq,List.length_map] at h2
  rcases h2 with h2 | h2
  ·exact .inl (by omega)
  ·exact .inr h2
def wrJ (n s:Int):Int:=if s < 1 then 0 else (n.tmod s + s).tmod s
theorem wrJ_bd {n s:Int} (h:1≤s):0≤wrJ n s∧wrJ n s < s:=by
 have h2:=Int.lt_tmod_of_pos n (show 0 < s by omega)
 unfold wrJ
 rw [if_neg (by omega)]
 exact ⟨Int.tmod_nonneg _ (by omega),Int.tmod_lt_of_pos _ (by omega)⟩
theorem run20j {ov:Ov} (ho:∀ args w,ov 20 args w=none) (m:Nat) (n s:Int) (hs:s≤2 ^ 60) (w:AW):(run Tryz.prog ov (m + 1)).call 20 [.int .i64 n,.int .i64 s] w .none=.ok (.ret (.int .i64 (wrJ n s))) w .none:=by
 have key:∃ v w',(run Tryz.prog ov (m + 1)).call 20 [.int .i64 n,.int .i64 s] w .none=.ok (.ret v) w' .none∧v=.int .i64 (wrJ n s)∧w'=w:=by
  refine call_wp text20 (by simp) (ho _ _) ?_
  by_cases h1:s < 1
  ·simp [mc20,h1,tupV,wrJ]
  ·have hr:=fun (a:Int) (c:Bool) w=>bin_rem (P:=Tryz.prog) (w:=w) 3 c .i64 a s (by omega)
   have b1:=Int.lt_tmod_of_pos n (show 0 < s by omega)
   have b2:=Int.tmod_lt_of_pos n (show 0 < s by omega)
   have w1:IntKind.wrap .i64 (n.tmod s + s)=n.tmod s + s:=wrap64_in (by omega) (by omega)
   simp [mc20,h1,tupV,wrJ,hr,w1]
 obtain ⟨v,w',h,rfl,rfl⟩:=key
 exact h
def nthJ (l:List Int) (n:Int):Int:=if l=[] then 0 else (l[(wrJ n l.length).toNat]?).getD 0
theorem run26 {ov:Ov} (ho:∀ args w,ov 26 args w=none) (h20:∀ args w,ov 20 args w=none) (m:Nat) (v:Value) (l:List Int) (hll:l.length≤2 ^ 60) (n:Int) (w:AW) (hr:RowsV intC w v l):(run Tryz.prog ov (m + 2)).call 26 [v,.int .i64 n] w .none=.ok (.ret (.int .i64 (nthJ l n))) w .none:=by
 have key:∃ x w',(run Tryz.prog ov (m + 2)).call 26 [v,.int .i64 n] w .none=.ok (.ret x) w' .none∧x=.int .i64 (nthJ l n)∧w'=w:=by
  refine call_wp text26 (by simp) (ho _ _) ?_
  have hln:=fun w'=>len33V (w':=w') hr
  by_cases h0:l=[]
  ·have e:l.length=0:=by rw [h0]; rfl
   rw [e] at hln
   simp only [Int.natCast_zero] at hln
   simp [mc26,hln,tupV,nthJ,h0]
  ·have hp:0 < l.length:=List.length_pos_iff.2 h0
   have h0':¬ (l.length:Int)=0:=by omega
   obtain ⟨b1,b2⟩:=wrJ_bd (n:=n) (s:=(l.length:Int)) (by omega)
   obtain ⟨k,hk⟩:∃ k:Nat,wrJ n l.length=(k:Int):=⟨(wrJ n l.length).toNat,by omega⟩
   obtain ⟨y,hy⟩:∃ y,l[k]?=some y:=⟨_,List.getElem?_eq_getElem (by omega)⟩
   obtain ⟨p,hia,hd,_⟩:=get33 hr hk hy
   have r:=run20j h20 m n (l.length:Int) (by omega) w
   have e:nthJ l n=y:=by unfold nthJ; rw [if_neg h0,hk,Int.toNat_natCast,hy]; rfl
   simp [mc26,hln,h0,h0',show ¬ l.length=0 by omega,r,hia,hd,tupV,e]
 obtain ⟨v,w',h,rfl,rfl⟩:=key
 exact h
theorem src_any {w:AW} {v:Value} {L:List Int} (h:RowsV intC w v L):srcCells w 1 v=some (L.flatMap intC)∧lenA v=some L.length:=by
 rcases h with ⟨rfl,a,c,rfl⟩ | ⟨b,off,sq,c,rfl,⟨pre,rest,e,ro,h1,h2⟩,h3⟩
 ·exact ⟨by cases a <;> rfl,rfl⟩
 ·refine ⟨?_,rfl⟩
  have hlen:(L.flatMap intC).length=L.length * 1:=flat_length intC_length L
  rcases Nat.eq_zero_or_pos L.length with h0 | hp
  ·have:L=[]:=List.eq_nil_of_length_eq_zero h0
   subst this
   rfl
  ·show (bif Nat.beq (L.length * 1) 0 then some [] else rd w b off (L.length * 1))=_
   have e1:Nat.beq (L.length * 1) 0=false:=by rw [← Bool.not_eq_true]; intro h; have:=Nat.eq_of_beq_eq_true h; omega
   rw [e1,cond_false,rd_eq,h1,rdO_cells,if_pos (by rw [List.length_append,List.length_append,h2,hlen]; omega),← h2,List.drop_left,← hlen,List.take_left]
theorem call28 {ov:Ov} (m:Nat) (ho:∀ args w,ov 28 args w=none) (v:Value) (L:List Int) (z:Int) (w:AW) (hv:RowsV intC w v L) (hn:L.length≤1000) (hl:w.lim≤w.next) :
  ∃ x w',(run Tryz.prog ov (m + 1)).call 28 [v,.int .i64 z] w .none=.ok (.ret x) w' .none∧RowsV intC w' x (L++[z])∧notJunk x=some x∧Up w w':=by
 refine call_wp text28 (by simp) (ho _ _) ?_
 have hvj:notJunk v=some v:=by obtain ⟨x,y,rfl⟩:=hv.len; rfl
 obtain ⟨wA,hwA⟩:∃ wA:AW,wA=⟨w.heap.put w.next (some (.cells [] 3 false)),w.next + 1,w.lim⟩:=⟨_,rfl⟩
 have uA:Up w wA:=by rw [hwA]; exact (Up.refl w).add _
 have nA:wA.next=w.next + 1:=by rw [hwA]
 have lA:wA.lim=w.lim:=by rw [hwA]
 have hvA:=hv.up uA
 obtain ⟨h5,h4⟩:=src_any hvA
 have nj:∀ (a:Addr) n c,notJunk (.slice (some a) n c)=some (.slice (some a) n c):=fun _ _ _=>rfl
 by_cases h0:L=[]
 ·subst h0
  have a1:append1 Tryz.prog wA [33,33] [.slice (some ⟨w.next,0,some 2⟩) 0 0,v]=.val (.slice (some ⟨w.next,0,some 2⟩) 0 0) wA:=by
   rw [append_eq list33 elem33 size3 small3,h4,h5]; rfl
  obtain ⟨wB,hwB⟩:∃ wB:AW,wB=⟨wA.heap.put wA.next (some (.cells [.int .i64 z] 3 false)),wA.next + 1,wA.lim⟩:=⟨_,rfl⟩
  have uB:Up wA wB:=by rw [hwB]; exact (Up.refl wA).add _
  have nB:wB.next=wA.next + 1:=by rw [hwB]
  have gB:wB.heap.get wA.next=some (.cells [.int .i64 z] 3 false):=by rw [hwB]; show (wA.heap.put _ _).get _=_; rw [get_put,if_pos rfl]
  have b1:buildSliceA Tryz.prog wA 33 1 [(0,.int .i64 z)]=.val (.slice (some ⟨wA.next,0,some 2⟩) 1 1) wB:=by rw [hwB]; exact bd33_0_n1 wA z
  have a2:=append_lit (P:=Tryz.prog) list33 elem33 size3 small3 (w:=wB) (B:=w.next) (m:=1) (new:=[.int .i64 z]) (x:=.slice (some ⟨wA.next,0,some 2⟩) 1 1) rfl (src_row (e':=3) (ro:=false) (k:=1) gB rfl (by decide) (by decide)) rfl (by decide) (by decide)
  have b0:buildSliceA Tryz.prog w 33 0 []=.val (.slice (some ⟨w.next,0,some 2⟩) 0 0) wA:=by rw [hwA]; exact bd33_n0 w
  obtain ⟨wC,hwC⟩:∃ wC:AW,wC=⟨wB.heap.put wB.next (some (.cells [.int .i64 z] 3 false)),wB.next + 1,wB.lim⟩:=⟨_,rfl⟩
  have uC:Up wB wC:=by rw [hwC]; exact (Up.refl wB).add _
  have nC:wC.next=wB.next + 1:=by rw [hwC]
  have gC:wC.heap.get wB.next=some (.cells [.int .i64 z] 3 false):=by rw [hwC]; show (wB.heap.put _ _).get _=_; rw [get_put,if_pos rfl]
  rw [← hwC] at a2
  simp [mc28,hvj,b0,a1,b1,a2,nj,tupV]
  exact ⟨.inr ⟨wB.next,0,none,1,rfl,⟨[],[],3,false,by simpa [intC] using gC,rfl⟩,by omega⟩,(uA.trans uB).trans uC⟩
 ·have hp:0 < L.length:=List.length_pos_iff.2 h0
  have hfl:(L.flatMap intC).length=L.length * 1:=flat_length intC_length L
  have a1:=append_lit (P:=Tryz.prog) list33 elem33 size3 small3 (w:=wA) (B:=w.next) (m:=L.length) (new:=L.flatMap intC) (x:=v) h4 h5 hfl hp (by omega)
  obtain ⟨wB,hwB⟩:∃ wB:AW,wB=⟨wA.heap.put wA.next (some (.cells (L.flatMap intC) 3 false)),wA.next + 1,wA.lim⟩:=⟨_,rfl⟩
  have uB:Up wA wB:=by rw [hwB]; exact (Up.refl wA).add _
  have nB:wB.next=wA.next + 1:=by rw [hwB]
  have lB:wB.lim=wA.lim:=by rw [hwB]
  have gB:wB.heap.get wA.next=some (.cells (L.flatMap intC) 3 false):=by rw [hwB]; show (wA.heap.put _ _).get _=_; rw [get_put,if_pos rfl]
  rw [← hwB] at a1
  obtain ⟨wC,hwC⟩:∃ wC:AW,wC=⟨wB.heap.put wB.next (some (.cells [.int .i64 z] 3 false)),wB.next + 1,wB.lim⟩:=⟨_,rfl⟩
  have uC:Up wB wC:=by rw [hwC]; exact (Up.refl wB).add _
  have nC:wC.next=wB.next + 1:=by rw [hwC]
  have lC:wC.lim=wB.lim:=by rw [hwC]
  have gC:wC.heap.get wB.next=some (.cells [.int .i64 z] 3 false):=by rw [hwC]; show (wB.heap.put _ _).get _=_; rw [get_put,if_pos rfl]
  have gC':wC.heap.get wA.next=some (.cells (L.flatMap intC) 3 false):=(uC.at (by omega)).trans gB
  have b0:buildSliceA Tryz.prog w 33 0 []=.val (.slice (some ⟨w.next,0,some 2⟩) 0 0) wA:=by rw [hwA]; exact bd33_n0 w
  have b1:buildSliceA Tryz.prog wB 33 1 [(0,.int .i64 z)]=.val (.slice (some ⟨wB.next,0,some 2⟩) 1 1) wC:=by rw [hwC]; exact bd33_0_n1 wB z
  have a2:=append_full (P:=Tryz.prog) list33 elem33 size3 small3 (w:=wC) (B:=wA.next) (n:=L.length) (m:=1) (c:=L.flatMap intC) (new:=[.int .i64 z]) (x:=.slice (some ⟨wB.next,0,some 2⟩) 1 1) rfl (src_row (e':=3) (ro:=false) (k:=1) gC rfl (by decide) (by decide)) rfl rfl (by decide) (by omega) gC' hfl (by omega)
  obtain ⟨wD,hwD⟩:∃ wD:AW,wD=⟨(wC.heap.put wA.next none).put wC.next (some (.cells (L.flatMap intC++[.int .i64 z]) 3 false)),wC.next + 1,wC.lim⟩:=⟨_,rfl⟩
  have nD:wD.next=wC.next + 1:=by rw [hwD]
  have gD:wD.heap.get wC.next=some (.cells ((L++[z]).flatMap intC) 3 false):=by rw [hwD]; show ((wC.heap.put _ _).put _ _).get _=_; rw [get_put,if_pos rfl,List.flatMap_append]; rfl
  rw [← hwD] at a2
  simp [mc28,hvj,b0,a1,b1,a2,nj,tupV]
  refine ⟨.inr ⟨wC.next,0,none,L.length + 1,by simp,⟨[],[],3,false,by simpa using gD,rfl⟩,by omega⟩,⟨fun y hy=>?_,by omega,by rw [hwD]; show wC.lim=_; omega⟩⟩
  rw [hwD]
  show ((wC.heap.put wA.next none).put wC.next _).get y=_
  rw [get_put,if_neg (by omega),get_put,if_neg (by omega)]
  exact ((uA.trans uB).trans uC).at hy
def boC (b:Bool):List Value:=[.bool b]
theorem boC_length (b:Bool):(boC b).length=1:=rfl
def naC (k:Nat):List Value:=[.int .i64 (k:Int)]
theorem naC_length (k:Nat):(naC k).length=1:=rfl
theorem naC_single (k:Nat):singles (naC k)=true:=rfl
theorem mk93 (n:Nat) (hn:n≤1000) (w:AW):makeSliceA Tryz.prog w 93 (.int .i64 (n:Int)) (.int .i64 (n:Int))=.val (.slice (some ⟨w.next,0,none⟩) n n) ⟨w.heap.put w.next (some (.cells ((List.replicate n false).flatMap boC) 4 false)),w.next + 1,w.lim⟩:=by
 rw [make_eq (e:=4) (z:=.bool false) (by kernel_rfl) (by kernel_rfl) (by kernel_rfl) n hn w,← repl_flat]; rfl
theorem na_flat:∀ l:List Nat,l.flatMap naC=(l.map fun (k:Nat)=>(k:Int)).flatMap intC
 | []=>rfl
 | k::l=>by rw [List.flatMap_cons,List.map_cons,List.flatMap_cons,na_flat l]; rfl
theorem na_rows {w:AW} {v:Value} {l:List Nat} (h:RowsV naC w v l):RowsV intC w v (l.map fun (k:Nat)=>(k:Int)):=by
 rcases h with ⟨rfl,a,c,rfl⟩ | ⟨b,off,sq,c,rfl,⟨pre,rest,e,ro,h1,h2⟩,h3⟩
 ·exact .inl ⟨rfl,a,c,rfl⟩
 ·exact .inr ⟨b,off,sq,c,by rw [List.length_map],⟨pre,rest,e,ro,by rw [← na_flat]; exact h1,h2⟩,h3⟩
theorem get93 {w:AW} {U:Nat} {bl:List Bool} (hg:w.heap.get U=some (.cells (bl.flatMap boC) 4 false)) {N k:Nat} (hN:bl.length=N) {x:Bool} (hx:bl[k]?=some x):(∀ w',indexAddrA Tryz.prog w' 93 (.slice (some ⟨U,0,none⟩) N N) (.int .i64 (k:Int))=.val (.pointer (some ⟨U,k,none⟩)) w')∧rd1O (w.heap.get U) k=some (.bool x):=by
 have hk:=(List.getElem?_eq_some_iff.1 hx).1
 have e:(⟨U,0,none⟩:Addr).add (k * 1)=⟨U,k,none⟩:=by
  by_cases h:k=0
  ·subst h; rfl
  ·simp [Addr.add,h]
 refine ⟨fun w'=>by rw [← e]; exact ia93 w' ⟨U,0,none⟩ N N .i64 k (by omega),?_⟩
 have hr:RowsA boC w.heap (U + 1) U 0 bl:=⟨⟨[],[],4,false,by simpa using hg,rfl⟩,Nat.lt_succ_self _⟩
 have:=hr.rd1 boC_length hx (j:=0) (x:=.bool x) rfl
 simpa using this
theorem st_bo {w:AW} {B k:Nat} {L:List Bool} {v:Bool} (hk:k < L.length) (hl:w.lim≤B):wrO w B k [.bool v] (some (.cells (L.flatMap boC) 4 false))=some ⟨w.heap.put B (some (.cells ((L.set k v).flatMap boC) 4 false)),w.next,w.lim⟩:=by
 have hlen:(L.flatMap boC).length=L.length * 1:=flat_length boC_length L
 have:=flat_set boC_length L k v hk
 simp only [Nat.mul_one] at this
 rw [wrO_cells (by simp) hl (by simp [hlen]; omega),← this]
 rfl
noncomputable def mc27_l1_b1:MC:=.seq (.seq (.ops [⟨false,none,some 14,3,.assign (.const (.int .i64 0))⟩]) (.block 4 (.loop mc27_l2))) (.seq (.ops [⟨false,none,some 93,4,.move (.tmp 13)⟩]) (.cond (.tmp 93) (.ops [⟨false,none,some 94,33,.move (.tmp 11)⟩,⟨false,none,some 95,3,.move (.tmp 12)⟩,⟨false,none,some 96,33,.buildSlice 33 1 #[(0,.tmp 95)]⟩,⟨false,none,some 97,33,.call ⟨.builtin .append,#[.tmp 94,.tmp 96],#[33,33]⟩⟩,⟨false,none,some 11,33,.assign (.tmp 97)⟩]) (.skip)))
theorem mc27_l1_eq:mc27_l1=.seq (.seq (.ops [⟨false,none,some 38,3,.move (.tmp 12)⟩,⟨false,none,some 39,33,.move (.tmp 1)⟩,⟨false,none,some 40,3,.call ⟨.builtin .len,#[.tmp 39],#[33]⟩⟩,⟨false,none,some 41,4,.binOp .lss 3 (.tmp 38) (.tmp 40) 3⟩,⟨false,none,some 42,4,.move (.tmp 41)⟩,⟨false,some (42,true),some 43,33,.move (.tmp 11)⟩,⟨false,some (42,true),some 44,3,.call ⟨.builtin .len,#[.tmp 43],#[33]⟩⟩,⟨false,some (42,true),some 45,0,.fieldAddr 32 (.tmp 3) 0⟩,⟨false,some (42,true),some 46,3,.load 3 (.tmp 45)⟩,⟨false,some (42,true),some 47,4,.binOp .lss 3 (.tmp 44) (.tmp 46) 3⟩,⟨false,none,some 48,4,.pick (.tmp 42) (.tmp 47) (.const (.bool false))⟩]) (.cond (.tmp 48) (.skip) (.exit 2))) (.seq (.block 3 (.seq (.ops [⟨false,none,some 51,93,.move (.tmp 7)⟩,⟨false,none,some 52,3,.move (.tmp 12)⟩,⟨false,none,some 53,0,.indexAddr 93 (.tmp 51) (.tmp 52)⟩,⟨false,none,some 54,4,.load 4 (.tmp 53)⟩,⟨false,none,some 55,4,.unOp .not 4 (.tmp 54)⟩,⟨false,none,some 56,4,.move (.tmp 55)⟩,⟨false,some (56,true),some 57,3,.move (.tmp 12)⟩,⟨false,some (56,true),some 58,3,.move (.tmp 10)⟩,⟨false,some (56,true),some 59,4,.binOp .neq 3 (.tmp 57) (.tmp 58) 3⟩,⟨false,none,some 60,4,.pick (.tmp 56) (.tmp 59) (.const (.bool false))⟩,⟨false,none,some 13,4,.assign (.tmp 60)⟩]) mc27_l1_b1)) (.ops [⟨false,none,some 49,3,.move (.tmp 12)⟩,⟨false,none,some 50,3,.binOp .add 3 (.tmp 49) (.const (.int .i64 1)) 3⟩,⟨false,none,some 12,3,.assign (.tmp 50)⟩])):=rfl
noncomputable def mc27_l0_b2:MC:=.seq (.ops [⟨false,none,some 98,33,.move (.tmp 11)⟩,⟨false,none,some 99,3,.call ⟨.builtin .len,#[.tmp 98],#[33]⟩⟩,⟨false,none,some 100,0,.fieldAddr 32 (.tmp 3) 0⟩,⟨false,none,some 101,3,.load 3 (.tmp 100)⟩,⟨false,none,some 102,4,.binOp .eql 3 (.tmp 99) (.tmp 101) 3⟩]) (.cond (.tmp 102) (.seq (.ops [⟨false,none,some 103,3,.move (.tmp 8)⟩,⟨false,none,some 104,3,.binOp .add 3 (.tmp 103) (.const (.int .i64 1)) 3⟩,⟨false,none,some 8,3,.assign (.tmp 104)⟩]) (.seq (.ops [⟨false,none,some 16,3,.assign (.const (.int .i64 0))⟩]) (.block 6 (.loop mc27_l3)))) (.skip))
noncomputable def mc27_l0_b1:MC:=.seq (.seq (.ops [⟨false,none,some 12,3,.assign (.const (.int .i64 0))⟩]) (.block 2 (.loop mc27_l1))) mc27_l0_b2
theorem mc27_l0_eq:mc27_l0=.seq (.seq (.ops [⟨false,none,some 20,3,.move (.tmp 9)⟩,⟨false,none,some 21,33,.move (.tmp 1)⟩,⟨false,none,some 22,3,.call ⟨.builtin .len,#[.tmp 21],#[33]⟩⟩,⟨false,none,some 23,4,.binOp .lss 3 (.tmp 20) (.tmp 22) 3⟩]) (.cond (.tmp 23) (.skip) (.exit 0))) (.seq (.block 1 (.seq (.ops [⟨false,none,some 26,3,.move (.tmp 2)⟩,⟨false,none,some 27,3,.move (.tmp 9)⟩,⟨false,none,some 28,3,.binOp .add 3 (.tmp 26) (.tmp 27) 3⟩,⟨false,none,some 29,33,.move (.tmp 1)⟩,⟨false,none,some 30,3,.call ⟨.builtin .len,#[.tmp 29],#[33]⟩⟩,⟨false,none,some 31,3,.call ⟨.value (.func 20),#[.tmp 28,.tmp 30],#[3,3]⟩⟩,⟨false,none,some 10,3,.assign (.tmp 31)⟩]) (.seq (.seq (.ops [⟨false,none,some 32,93,.move (.tmp 7)⟩,⟨false,none,some 33,3,.move (.tmp 10)⟩,⟨false,none,some 34,0,.indexAddr 93 (.tmp 32) (.tmp 33)⟩,⟨false,none,some 35,4,.load 4 (.tmp 34)⟩]) (.cond (.tmp 35) (.exit 1) (.skip))) (.seq (.ops [⟨false,none,some 36,3,.move (.tmp 10)⟩,⟨false,none,some 37,33,.buildSlice 33 1 #[(0,.tmp 36)]⟩,⟨false,none,some 11,33,.assign (.tmp 37)⟩]) mc27_l0_b1)))) (.ops [⟨false,none,some 24,3,.move (.tmp 9)⟩,⟨false,none,some 25,3,.binOp .add 3 (.tmp 24) (.const (.int .i64 1)) 3⟩,⟨false,none,some 9,3,.assign (.tmp 25)⟩])):=rfl
theorem un_neg (k:IntKind) (a:Int):unS .neg (.int k a)=some (.int k (k.wrap (-a))):=by
 show some (Value.int k (wrapA k (0 - a)))=_
 rw [wrapA_eq,Int.zero_sub]
structure In27 (w0:AW) (M:Nat) (b c:Int) (bl:List Bool) (w:AW):Prop where
 up:Up w0 w
 lt:w0.next + 2≤w.next
 box:w.heap.get w0.next=some (.cells [.int .i64 (M:Int),.int .i64 b,.int .i64 c] 32 false)
 use:w.heap.get (w0.next + 1)=some (.cells (bl.flatMap boC) 4 false)
theorem In27.keep {w0 w w':AW} {M:Nat} {b c:Int} {bl:List Bool} (h:In27 w0 M b c bl w) (k:∀ x,x < w0.next + 2→w'.heap.get x=w.heap.get x) (hn:w.next≤w'.next) (hl:w'.lim=w.lim):In27 w0 M b c bl w' :=
 ⟨⟨fun y hy=>(k y (by omega)).trans (h.up.at hy),by have:=h.up.next; omega,by have:=h.up.lim; omega⟩,by have:=h.lt; omega,(k _ (by omega)).trans h.box,(k _ (by omega)).trans h.use⟩
def Ta (pu:Value) (X N:Nat) (fr:Int) (n i:Nat) (t:Tm):Prop:=tget t 1=pu∧tget t 2=.int .i64 fr∧tget t 3=.pointer (some ⟨X,0,none⟩)∧tget t 7=.slice (some ⟨X + 1,0,none⟩) N N∧tget t 8=.int .i64 (n:Int)∧tget t 9=.int .i64 (i:Int)
def Us (bl:List Bool) (N:Nat) (A:List Nat):Prop:=bl.length=N∧∀ k,k < N→bl[k]?=some (decide (k ∈ A))
section
variable {ov:Ov} {w0:AW} {pu:Value} {pods:List Int} {M:Nat} {b c fr:Int} {n i:Nat}
theorem loop27c (m:Nat) (hu:RowsV intC w0 pu pods) (hpn:pods.length≤200) (hpb:∀ z ∈ pods,1≤z∧z≤400) (hc:0≤c∧c≤20) {bl:List Bool} {w:AW} (hI:In27 w0 M b c bl w) {O:List Nat} {v11:Value} (hO:RowsV naC w v11 O) (hOl:O.length≤200) (hOn:∀ x ∈ O,x < pods.length) {k at_:Nat} (hk:k < pods.length) (ok0:Bool) (Q:Ex→Tm→AW→Prop) (t:Tm)
  (ha:Ta pu w0.next pods.length fr n i t) (t10:tget t 10=.int .i64 (at_:Int)) (t11:tget t 11=v11) (t12:tget t 12=.int .i64 (k:Int)) (t13:tget t 13=.bool ok0) (t14:tget t 14=.int .i64 0)
  (hQ:∀ t g,Ta pu w0.next pods.length fr n i t→tget t 10=.int .i64 (at_:Int)→tget t 11=v11→tget t 12=.int .i64 (k:Int)→tget t 13=.bool g→(g=true→ok0=true∧∀ x ∈ O,nearI b c pods k x)→Q (.exit 4) t w):wp (exM Tryz.prog (run Tryz.prog ov m) (.loop mc27_l2) t w) Q:=by
 refine wp_rounds (fun j t w'=>w'=w∧Ta pu w0.next pods.length fr n i t∧tget t 10=.int .i64 (at_:Int)∧tget t 11=v11∧tget t 12=.int .i64 (k:Int)∧tget t 14=.int .i64 (j:Int)∧j≤O.length∧∃ g,tget t 13=.bool g∧(g=true→ok0=true∧∀ x ∈ O.take j,nearI b c pods k x)) 300 (by decide) ⟨rfl,ha,t10,t11,t12,by simpa using t14,Nat.zero_le _,ok0,t13,fun h=>⟨h,by simp⟩⟩ ?_
 clear ha t10 t11 t12 t13 t14 t
 rintro j t w' ⟨hw',ha,t10,t11,t12,t14,hj,g,t13,hg⟩
 rw [hw']
 clear hw' w'
 have ha':=ha
 obtain ⟨t1,t2,t3,t7,t8,t9⟩:=ha'
 cases g with
 | false =>
  simp [mc27_l2,t13]
  exact hQ _ false (by simp [Ta,t1,t2,t3,t7,t8,t9]) (by simp [t10]) (by simp [t11]) (by simp [t12]) (by simp [t13]) (fun h=>by cases h)
 | true =>
  have hOi:=na_rows hO
  have hln:∀ w',lenB Tryz.prog w' 33 v11=.val (.int .i64 (O.length:Nat)) w':=fun w'=>by have:=len33V (w':=w') hOi; rwa [List.length_map] at this
  by_cases hlt:j < O.length
  ·have hlt':(j:Int) < (O.length:Int):=by omega
   obtain ⟨x,hx⟩:∃ x,O[j]?=some x:=⟨_,List.getElem?_eq_getElem hlt⟩
   have hxn:=hOn x (List.mem_of_getElem? hx)
   obtain ⟨p,hp⟩:∃ p,pods[k]?=some p:=⟨_,List.getElem?_eq_getElem hk⟩
   obtain ⟨q,hq⟩:∃ q,pods[x]?=some q:=⟨_,List.getElem?_eq_getElem hxn⟩
   have bp:=hpb p (List.mem_of_getElem? hp)
   have bq:=hpb q (List.mem_of_getElem? hq)
   obtain ⟨pa,ia,da,na⟩:=get33 hOi (z:=(j:Int)) rfl (y:=(x:Int)) (by rw [List.getElem?_map,hx]; rfl)
   obtain ⟨pc,ic,dc,nc⟩:=get33 hu rfl hp
   obtain ⟨pd,id',dd,nd⟩:=get33 hu rfl hq
   rw [← hI.up.at nc] at dc
   rw [← hI.up.at nd] at dd
   have hbox:=hI.box
   have hmx:max (p - q) (q - p)≤399:=by rw [Int.max_def]; split <;> omega
   have hmn : -399≤max (p - q) (q - p):=by rw [Int.max_def]; split <;> omega
   have w1':IntKind.wrap .i64 (p - q)=p - q:=wrap64_in (by omega) (by omega)
   have w2':IntKind.wrap .i64 (-(p - q))=q - p:=(wrap64_in (by omega) (by omega)).trans (by omega)
   have w2'':IntKind.wrap .i64 (q - p)=q - p:=wrap64_in (by omega) (by omega)
   have w3':IntKind.wrap .i64 (2 * c)=2 * c:=wrap64_in (by omega) (by omega)
   have w4':IntKind.wrap .i64 (max (p - q) (q - p) + 2 * c)=max (p - q) (q - p) + 2 * c:=wrap64_in (by omega) (by omega)
   have w5':IntKind.wrap .i64 ((j:Int) + 1)=(j:Int) + 1:=wrap64_in (by omega) (by omega)
   simp [mc27_l2,t1,t3,t11,t12,t13,t14,hln,hlt,hlt',ia,da,ic,dc,id',dd,hbox,un_neg,w1',w2',w2'',w3',w4',w5',Ta,t2,t7,t8,t9,t10]
   by_cases hle:max (p - q) (q - p) + 2 * c≤b
   case neg=>exact ⟨by omega,by omega,.inl (by omega)⟩
   refine ⟨by omega,by omega,.inr ⟨hle,(hg rfl).1,fun y hy=>?_⟩⟩
   rw [List.take_add_one,hx] at hy
   rcases List.mem_append.1 hy with hy | hy
   ·exact (hg rfl).2 y hy
   ·have:y=x:=by simpa using hy
    subst this
    unfold nearI plI
    rw [hp,hq]
    exact hle
  ·have hj':j=O.length:=by omega
   subst hj'
   simp [mc27_l2,t11,t13,t14,hln]
   exact hQ _ true (by simp [Ta,t1,t2,t3,t7,t8,t9]) (by simp [t10]) (by simp [t11]) (by simp [t12]) (by simp [t13]) (fun _=>by have:=hg rfl; rwa [List.take_length] at this)
theorem tail27b (m:Nat) (hu:RowsV intC w0 pu pods) (hpn:pods.length≤200) (hpb:∀ z ∈ pods,1≤z∧z≤400) (hc:0≤c∧c≤20) (hl0:w0.lim≤w0.next) {bl:List Bool} {w:AW} (hI:In27 w0 M b c bl w) {O:List Nat} {v11:Value} {B:Nat} (hO:LitQ naC 3 (w0.next + 1) w v11 O B) (hB:w0.next + 2≤B) (hOl:O.length≤200) (hOn:∀ x ∈ O,x < pods.length) {k at_:Nat} (hk:k < pods.length) (ok0:Bool) (Q:Ex→Tm→AW→Prop) (t:Tm)
  (ha:Ta pu w0.next pods.length fr n i t) (t10:tget t 10=.int .i64 (at_:Int)) (t11:tget t 11=v11) (t12:tget t 12=.int .i64 (k:Int)) (t13:tget t 13=.bool ok0)
  (hQ:∀ t w O' B',In27 w0 M b c bl w→Ta pu w0.next pods.length fr n i t→tget t 10=.int .i64 (at_:Int)→tget t 12=.int .i64 (k:Int)→LitQ naC 3 (w0.next + 1) w (tget t 11) O' B'→w0.next + 2≤B'→(O'=O∨(O'=O++[k]∧ok0=true∧∀ x ∈ O,nearI b c pods k x))→Q .normal t w):wp (exM Tryz.prog (run Tryz.prog ov m) mc27_l1_b1 t w) Q:=by
 have ha':=ha
 obtain ⟨t1,t2,t3,t7,t8,t9⟩:=ha'
 simp [mc27_l1_b1]
 refine wp_seqX (wp_blockX (loop27c (n:=n) (i:=i) (fr:=fr) m hu hpn hpb hc hI hO.rows hOl hOn (at_:=at_) hk ok0 _ _ ?_ ?_ ?_ ?_ ?_ ?_ ?_))
 ·simp [Ta,t1,t2,t3,t7,t8,t9]
 ·simp [t10]
 ·simp [t11]
 ·simp [t12]
 ·simp [t13]
 ·simp
 ·intro t g ha s10 s11 s12 s13 hg
  have ha':=ha
  obtain ⟨s1,s2,s3,s7,s8,s9⟩:=ha'
  cases g with
  | false =>
   simp [s13]
   exact hQ _ _ O B hI (by simp [Ta,s1,s2,s3,s7,s8,s9]) (by simp [s10]) (by simp [s12]) (by simp [s11]; exact hO) hB (.inl rfl)
  | true =>
   obtain ⟨v',w2,hap,⟨B',hB',hO'⟩,hkp,hn2,hl2⟩:=LitQ.push2 (P:=Tryz.prog) (st:=33) (e:=3) (sz:=1) list33 elem33 size3 small3 naC_length naC_single (by decide) hO (by have:=hI.up.lim; omega) (by have:=hI.lt; omega) (by omega) k
   have hI2:In27 w0 M b c bl w2:=hI.keep (fun x hx=>hkp x (by have:=hI.lt; omega) (fun _=>by omega)) hn2 hl2
   have hok:=hO.ok
   have hok2:=hO'.ok
   simp only [naC] at hap
   simp [s13,s11,s12,hok,hap]
   exact hQ _ _ (O++[k]) B' hI2 (by simp [Ta,s1,s2,s3,s7,s8,s9]) (by simp [s10]) (by simp [s12]) (by simp; exact hO') (by have:=hI.lt; omega) (.inr ⟨rfl,(hg rfl).1,(hg rfl).2⟩)
end
section
variable {ov:Ov} {w0:AW} {pu:Value} {pods:List Int} {M:Nat} {b c fr:Int} {n i:Nat}
theorem loop27b (m:Nat) (hM:1≤M∧M≤100) (hu:RowsV intC w0 pu pods) (hpn:pods.length≤200) (hpb:∀ z ∈ pods,1≤z∧z≤400) (hc:0≤c∧c≤20) (hl0:w0.lim≤w0.next) {bl:List Bool} {A:List Nat} (hbl:Us bl pods.length A) {at_:Nat} (hat:at_ < pods.length) (hatF:at_ ∉ A) {w:AW} (hI:In27 w0 M b c bl w) {B:Nat} (hB:w0.next + 2≤B) (Q:Ex→Tm→AW→Prop) (t:Tm)
  (hO:LitQ naC 3 (w0.next + 1) w (tget t 11) [at_] B) (ha:Ta pu w0.next pods.length fr n i t) (t10:tget t 10=.int .i64 (at_:Int)) (t12:tget t 12=.int .i64 0)
  (hQ:∀ t w O B,In27 w0 M b c bl w→Ta pu w0.next pods.length fr n i t→LitQ naC 3 (w0.next + 1) w (tget t 11) O B→w0.next + 2≤B→O.length≤M→O.Pairwise (nearI b c pods)→O.Nodup→(∀ x ∈ O,x < pods.length∧x ∉ A)→Q (.exit 2) t w):wp (exM Tryz.prog (run Tryz.prog ov m) (.loop mc27_l1) t w) Q:=by
 refine wp_rounds (fun k t w=>In27 w0 M b c bl w∧Ta pu w0.next pods.length fr n i t∧tget t 10=.int .i64 (at_:Int)∧tget t 12=.int .i64 (k:Int)∧k≤pods.length∧∃ O B,LitQ naC 3 (w0.next + 1) w (tget t 11) O B∧w0.next + 2≤B∧O.length≤M∧O.Pairwise (nearI b c pods)∧O.Nodup∧∀ x ∈ O,x < pods.length∧x ∉ A∧(x=at_∨x < k)) 300 (by decide) ⟨hI,ha,t10,by simpa using t12,Nat.zero_le _,[at_],B,hO,hB,hM.1,by simp,by simp,fun x hx=>by rw [List.mem_singleton.1 hx]; exact ⟨hat,hatF,.inl rfl⟩⟩ ?_
 clear hO hB hI ha t10 t12 t w B
 rintro k t w ⟨hI,ha,t10,t12,hk,O,B,hO,hB,hOM,hOp,hOd,hOx⟩
 have ha':=ha
 obtain ⟨t1,t2,t3,t7,t8,t9⟩:=ha'
 have hlu:=fun w'=>len33V (w':=w') hu
 have hln:∀ w',lenB Tryz.prog w' 33 (tget t 11)=.val (.int .i64 (O.length:Nat)) w':=fun w'=>by have:=len33V (w':=w') (na_rows hO.rows); rwa [List.length_map] at this
 have hbox:=hI.box
 obtain ⟨v11,hv11⟩:∃ v11,v11=tget t 11:=⟨_,rfl⟩
 rw [← hv11] at hO hln
 have t11:=hv11.symm
 by_cases hlt:k < pods.length
 ·have hlt':(k:Int) < (pods.length:Int):=by omega
  by_cases hltM:O.length < M
  ·have hltM':(O.length:Int) < (M:Int):=by omega
   have hw:IntKind.wrap .i64 ((k:Int) + 1)=(k:Int) + 1:=wrap64_in (by omega) (by omega)
   obtain ⟨i93,r93⟩:=get93 hI.use hbl.1 (hbl.2 k hlt)
   have cont:∀ (ok0:Bool) (t':Tm),(ok0=true→k ∉ A∧k ≠ at_)→Ta pu w0.next pods.length fr n i t'→tget t' 10=.int .i64 (at_:Int)→tget t' 11=v11→tget t' 12=.int .i64 (k:Int)→tget t' 13=.bool ok0→∀ Q':Ex→Tm→AW→Prop,(∀ t w,In27 w0 M b c bl w→Ta pu w0.next pods.length fr n i t→tget t 10=.int .i64 (at_:Int)→tget t 12=.int .i64 (k:Int)→(∃ O B,LitQ naC 3 (w0.next + 1) w (tget t 11) O B∧w0.next + 2≤B∧O.length≤M∧O.Pairwise (nearI b c pods)∧O.Nodup∧∀ x ∈ O,x < pods.length∧x ∉ A∧(x=at_∨x < k + 1))→Q' .normal t w)→wp (exM Tryz.prog (run Tryz.prog ov m) mc27_l1_b1 t' w) Q':=fun ok0 t' hok0 ha s10 s11 s12 s13 Q' hQ'=>by
    refine tail27b m hu hpn hpb hc hl0 hI hO hB (by omega) (fun x hx=>(hOx x hx).1) hlt ok0 Q' t' ha s10 s11 s12 s13 fun t w O' B' hI' ha' s10 s12 hO' hB' hor=>hQ' t w hI' ha' s10 s12 ?_
    rcases hor with rfl | ⟨rfl,h1,h2⟩
    ·exact ⟨O',B',hO',hB',by omega,hOp,hOd,fun x hx=>⟨(hOx x hx).1,(hOx x hx).2.1,(hOx x hx).2.2.imp id fun h=>by omega⟩⟩
    ·obtain ⟨hkA,hkat⟩:=hok0 h1
     refine ⟨O++[k],B',hO',hB',by rw [List.length_append]; simp; omega,List.pairwise_append.2 ⟨hOp,by simp,fun x hx y hy=>?_⟩,List.nodup_append.2 ⟨hOd,by simp,fun x hx y hy e=>?_⟩,fun x hx=>?_⟩
     ·rw [List.mem_singleton.1 hy]; exact nearI_symm _ _ (h2 x hx)
     ·rw [List.mem_singleton.1 hy] at e
      subst e
      rcases (hOx x hx).2.2 with h | h
      ·exact hkat h
      ·omega
     ·rcases List.mem_append.1 hx with h | h
      ·exact ⟨(hOx x h).1,(hOx x h).2.1,(hOx x h).2.2.imp id fun h=>by omega⟩
      ·rw [List.mem_singleton.1 h]; exact ⟨hlt,hkA,.inr (Nat.lt_succ_self _)⟩
   have fin:∀ t w,In27 w0 M b c bl w→Ta pu w0.next pods.length fr n i t→tget t 10=.int .i64 (at_:Int)→tget t 12=.int .i64 (k:Int)→(∃ O B,LitQ naC 3 (w0.next + 1) w (tget t 11) O B∧w0.next + 2≤B∧O.length≤M∧O.Pairwise (nearI b c pods)∧O.Nodup∧∀ x ∈ O,x < pods.length∧x ∉ A∧(x=at_∨x < k + 1))→tget (tset (tset (tset t 49 (.int .i64 (k:Int))) 50 (.int .i64 ((k:Int) + 1))) 12 (.int .i64 ((k:Int) + 1))) 12=.int .i64 ((k + 1:Nat):Int):=fun _ _ _ _ _ _ _=>by simp
   by_cases hkA:k ∈ A
   ·have r93':rd1O (w.heap.get (w0.next + 1)) k=some (.bool true):=by rw [r93,decide_eq_true hkA]
    simp [mc27_l1_eq,t1,t3,t7,t10,t11,t12,hlu,hln,hlt,hlt',hbox,hltM,hltM',i93,r93']
    refine wp_seqX (wp_blockX (cont false _ (fun h=>by cases h) ?_ ?_ ?_ ?_ ?_ _ ?_))
    ·simp [Ta,t1,t2,t3,t7,t8,t9]
    ·simp [t10]
    ·simp [t11]
    ·simp [t12]
    ·simp
    ·intro t w hI' ha' s10 s12 hE
     obtain ⟨s1,s2,s3,s7,s8,s9⟩:=ha'
     simp [s12,hw]
     exact ⟨by omega,hI',by simp [Ta,s1,s2,s3,s7,s8,s9],by simp [s10],hlt,by simpa using hE⟩
   ·have r93':rd1O (w.heap.get (w0.next + 1)) k=some (.bool false):=by rw [r93,decide_eq_false hkA]
    by_cases hka:k=at_
    ·subst hka
     simp [mc27_l1_eq,t1,t3,t7,t10,t11,t12,hlu,hln,hlt,hlt',hbox,hltM,hltM',i93,r93']
     refine wp_seqX (wp_blockX (cont false _ (fun h=>by cases h) ?_ ?_ ?_ ?_ ?_ _ ?_))
     ·simp [Ta,t1,t2,t3,t7,t8,t9]
     ·simp [t10]
     ·simp [t11]
     ·simp [t12]
     ·simp
     ·intro t w hI' ha' s10 s12 hE
      obtain ⟨s1,s2,s3,s7,s8,s9⟩:=ha'
      simp [s12,hw]
      exact ⟨by omega,hI',by simp [Ta,s1,s2,s3,s7,s8,s9],by simp [s10],hlt,by simpa using hE⟩
    ·have hka':¬ (k:Int)=(at_:Int):=by omega
     simp [mc27_l1_eq,t1,t3,t7,t10,t11,t12,hlu,hln,hlt,hlt',hbox,hltM,hltM',i93,r93',hka',hka]
     refine wp_seqX (wp_blockX (cont true _ (fun _=>⟨hkA,hka⟩) ?_ ?_ ?_ ?_ ?_ _ ?_))
     ·simp [Ta,t1,t2,t3,t7,t8,t9]
     ·simp [t10]
     ·simp [t11]
     ·simp [t12]
     ·simp [hka]
     ·intro t w hI' ha' s10 s12 hE
      obtain ⟨s1,s2,s3,s7,s8,s9⟩:=ha'
      simp [s12,hw]
      exact ⟨by omega,hI',by simp [Ta,s1,s2,s3,s7,s8,s9],by simp [s10],hlt,by simpa using hE⟩
  ·have hltM':¬ (O.length:Int) < (M:Int):=by omega
   simp [mc27_l1_eq,t1,t3,t11,t12,hlu,hln,hlt,hlt',hbox,hltM,hltM']
   exact hQ _ _ O B hI (by simp [Ta,t1,t2,t3,t7,t8,t9]) (by simp [t11]; exact hO) hB hOM hOp hOd fun x hx=>⟨(hOx x hx).1,(hOx x hx).2.1⟩
 ·have hlt':¬ (k:Int) < (pods.length:Int):=by omega
  simp [mc27_l1_eq,t1,t12,hlu,hlt,hlt']
  exact hQ _ _ O B hI (by simp [Ta,t1,t2,t3,t7,t8,t9]) (by simp [t11]; exact hO) hB hOM hOp hOd fun x hx=>⟨(hOx x hx).1,(hOx x hx).2.1⟩
end
section
variable {ov:Ov} {w0:AW} {pu:Value} {pods:List Int} {M:Nat} {b c fr:Int} {n i:Nat}
theorem loop27d (m:Nat) (hl0:w0.lim≤w0.next) {N:Nat} {A:List Nat} {O:List Nat} {v11:Value} {B:Nat} (hB:w0.next + 2≤B) (hOl:O.length≤200) (hOn:∀ x ∈ O,x < N) {bl:List Bool} {w:AW} (hbl:Us bl N A) (hI:In27 w0 M b c bl w) (hO:LitQ naC 3 (w0.next + 1) w v11 O B) (Q:Ex→Tm→AW→Prop) (t:Tm)
  (ha:Ta pu w0.next N fr n i t) (t11:tget t 11=v11) (t16:tget t 16=.int .i64 0)
  (hQ:∀ t w bl,In27 w0 M b c bl w→Us bl N (A++O)→Ta pu w0.next N fr n i t→Q (.exit 6) t w):wp (exM Tryz.prog (run Tryz.prog ov m) (.loop mc27_l3) t w) Q:=by
 refine wp_rounds (fun j t w=>Ta pu w0.next N fr n i t∧tget t 11=v11∧tget t 16=.int .i64 (j:Int)∧j≤O.length∧LitQ naC 3 (w0.next + 1) w v11 O B∧∃ bl,In27 w0 M b c bl w∧Us bl N (A++O.take j)) 300 (by decide) ⟨ha,t11,by simpa using t16,Nat.zero_le _,hO,bl,hI,by simpa using hbl⟩ ?_
 clear ha t11 t16 hO hI hbl bl t w
 rintro j t w ⟨ha,t11,t16,hj,hO,bl,hI,hbl⟩
 have ha':=ha
 obtain ⟨t1,t2,t3,t7,t8,t9⟩:=ha'
 have hOi:=na_rows hO.rows
 have hln:∀ w',lenB Tryz.prog w' 33 v11=.val (.int .i64 (O.length:Nat)) w':=fun w'=>by have:=len33V (w':=w') hOi; rwa [List.length_map] at this
 by_cases hlt:j < O.length
 ·have hlt':(j:Int) < (O.length:Int):=by omega
  obtain ⟨x,hx⟩:∃ x,O[j]?=some x:=⟨_,List.getElem?_eq_getElem hlt⟩
  have hxn:=hOn x (List.mem_of_getElem? hx)
  obtain ⟨pa,ia,da,na⟩:=get33 hOi (z:=(j:Int)) rfl (y:=(x:Int)) (by rw [List.getElem?_map,hx]; rfl)
  obtain ⟨i93,r93⟩:=get93 hI.use hbl.1 (hbl.2 x hxn)
  have hw:IntKind.wrap .i64 ((j:Int) + 1)=(j:Int) + 1:=wrap64_in (by omega) (by omega)
  have hst:=st_bo (w:=w) (B:=w0.next + 1) (k:=x) (L:=bl) (v:=true) (by rw [hbl.1]; exact hxn) (by have:=hI.up.lim; omega)
  have huse:=hI.use
  have hI2:In27 w0 M b c (bl.set x true) ⟨w.heap.put (w0.next + 1) (some (.cells ((bl.set x true).flatMap boC) 4 false)),w.next,w.lim⟩:=by
   refine ⟨⟨fun y hy=>?_,hI.up.next,hI.up.lim⟩,hI.lt,?_,?_⟩
   ·show (w.heap.put _ _).get y=_
    rw [get_put,if_neg (by omega)]; exact hI.up.at hy
   ·show (w.heap.put _ _).get _=_
    rw [get_put,if_neg (by omega)]; exact hI.box
   ·show (w.heap.put _ _).get _=_
    rw [get_put,if_pos rfl]
  have hO2:LitQ naC 3 (w0.next + 1) ⟨w.heap.put (w0.next + 1) (some (.cells ((bl.set x true).flatMap boC) 4 false)),w.next,w.lim⟩ v11 O B:=hO.keep (by show (w.heap.put _ _).get _=_; rw [get_put,if_neg (by omega)]) (Nat.le_refl _)
  have hbl2:Us (bl.set x true) N (A++O.take (j + 1)):=by
   refine ⟨by rw [List.length_set]; exact hbl.1,fun k hk=>?_⟩
   rw [List.take_add_one,hx]
   by_cases e:k=x
   ·subst e
    rw [List.getElem?_set_self (by rw [hbl.1]; exact hk),decide_eq_true (by simp)]
   ·rw [List.getElem?_set_ne (fun h=>e h.symm),hbl.2 k hk]
    congr 1
    rw [decide_eq_decide]
    simp [e]
  simp [mc27_l3,t7,t11,t16,hln,hlt,hlt',ia,da,i93,huse,hst,hw]
  exact ⟨by omega,by simp [Ta,t1,t2,t3,t7,t8,t9],hlt,hO2,_,hI2,by simpa using hbl2⟩
 ·have hj':j=O.length:=by omega
  subst hj'
  rw [List.take_length] at hbl
  simp [mc27_l3,t11,t16,hln]
  exact hQ _ _ bl hI hbl (by simp [Ta,t1,t2,t3,t7,t8,t9])
theorem tail27a (m:Nat) (hM:1≤M∧M≤100) (hl0:w0.lim≤w0.next) (hn:n≤1000) {F:List (List Nat)} (hF:GOk M b c pods F) (hFn:F.length=n) {bl:List Bool} {w:AW} (hbl:Us bl pods.length F.flatten) (hI:In27 w0 M b c bl w) {O:List Nat} {B:Nat} (hB:w0.next + 2≤B) (hOM:O.length≤M) (hOp:O.Pairwise (nearI b c pods)) (hOd:O.Nodup) (hOx:∀ x ∈ O,x < pods.length∧x ∉ F.flatten) (Q:Ex→Tm→AW→Prop) (t:Tm) (hO:LitQ naC 3 (w0.next + 1) w (tget t 11) O B)
  (ha:Ta pu w0.next pods.length fr n i t)
  (hQ:∀ t w n' bl F,GOk M b c pods F→F.length=n'→n'≤n + 1→In27 w0 M b c bl w→Us bl pods.length F.flatten→Ta pu w0.next pods.length fr n' i t→Q .normal t w):wp (exM Tryz.prog (run Tryz.prog ov m) mc27_l0_b2 t w) Q:=by
 have ha':=ha
 obtain ⟨t1,t2,t3,t7,t8,t9⟩:=ha'
 obtain ⟨v11,hv11⟩:∃ v11,v11=tget t 11:=⟨_,rfl⟩
 rw [← hv11] at hO
 have t11:=hv11.symm
 have hln:∀ w',lenB Tryz.prog w' 33 v11=.val (.int .i64 (O.length:Nat)) w':=fun w'=>by have:=len33V (w':=w') (na_rows hO.rows); rwa [List.length_map] at this
 have hbox:=hI.box
 by_cases he:O.length=M
 ·have he':(O.length:Int)=(M:Int):=by omega
  have hw:IntKind.wrap .i64 ((n:Int) + 1)=(n:Int) + 1:=wrap64_in (by omega) (by omega)
  simp [mc27_l0_b2,t3,t8,t11,hln,hbox,he,he',hw]
  refine wp_blockX (loop27d (n:=n + 1) (i:=i) (pu:=pu) (fr:=fr) m hl0 hB (by omega) (fun x hx=>(hOx x hx).1) hbl hI hO _ _ ?_ ?_ ?_ ?_)
  ·simp [Ta,t1,t2,t3,t7,t9]
  ·simp [t11]
  ·simp
  ·intro t w bl hI' hbl' ha'
   simp
   exact hQ _ _ (n + 1) bl (F++[O]) (hF.add he hOp hOd hOx) (by rw [List.length_append,hFn]; rfl) (Nat.le_refl _) hI' (by rw [List.flatten_append]; simpa using hbl') ha'
 ·have he':¬ (O.length:Int)=(M:Int):=by omega
  simp [mc27_l0_b2,t3,t11,hln,hbox,he,he']
  exact hQ _ _ n bl F hF hFn (Nat.le_succ _) hI hbl (by simp [Ta,t1,t2,t3,t7,t8,t9])
end
def Lm (A B c:Int) (k:Nat) (lo hi:Int):Prop:=(-20≤lo∧lo≤420 ∧ -20≤hi∧hi≤420)∧(k≤1→lo=hi)∧(0 < k→A - c≤lo∧hi≤B + c)
theorem Lm.zero (A B c:Int):Lm A B c 0 0 0:=⟨⟨by decide,by decide,by decide,by decide⟩,fun _=>rfl,fun h=>absurd h (Nat.lt_irrefl 0)⟩
theorem Lm.one {A B c own:Int} (h1:A - c≤own∧own≤B + c) (h2 : -20≤own∧own≤420):Lm A B c 1 own own:=⟨⟨h2.1,h2.2,h2.1,h2.2⟩,fun _=>rfl,fun _=>h1⟩
theorem Lm.next {A B c lo hi own:Int} {k:Nat} (h:Lm A B c k lo hi) (hk:0 < k) (h1:A - c≤own∧own≤B + c) (h2 : -20≤own∧own≤420):Lm A B c (k + 1) (min lo own) (max hi own):=by
 obtain ⟨⟨a1,a2,a3,a4⟩,_,h3⟩:=h
 obtain ⟨h3,h4⟩:=h3 hk
 refine ⟨⟨Int.le_min.2 ⟨a1,h2.1⟩,Int.le_trans (Int.min_le_right _ _) h2.2,Int.le_trans a3 (Int.le_max_left _ _),Int.max_le.2 ⟨a4,h2.2⟩⟩,fun h=>by omega,fun _=>⟨Int.le_min.2 ⟨h3,h1.1⟩,Int.max_le.2 ⟨h4,h1.2⟩⟩⟩
section
variable {ov:Ov} {w1:AW} {pu ub v2:Value} {pods bits:List Int} {acc:List El} {M:Nat} {b c:Int} {X:Nat}
theorem loop7b (m:Nat) (h25:∀ args w,ov 25 args w=none) (h26:∀ args w,ov 26 args w=none) (h20:∀ args w,ov 20 args w=none) (hb0:0≤b) (hc:0≤c∧c≤20) (hpb:∀ z ∈ pods,1≤z∧z≤400) (hl1:w1.lim≤w1.next) (hX:X < w1.next) (gX:w1.heap.get X=some (.cells [.int .i64 (M:Int),.int .i64 b,.int .i64 c] 32 false)) (hM:M≤100) (hp:RowsV intC w1 pu pods) (hbt:RowsV intC w1 ub bits) (hbl:bits.length≤2 ^ 60) (hv:RowsV elC w1 v2 acc)
  {rows:List (List Int)} (hrows:rows=acc.map fun e=>e.2.1) (H:SortOk M b c pods rows) {i:Nat} {e:El} (he:acc[i]?=some e) (hrow:RowsV intC w1 (elV e) e.2.1) {A B:Int} (hAB:∀ (x:Nat) (p:Int),(x:Int) ∈ e.2.1→pods[x]?=some p→A≤p∧p≤B) (hAB2:M=1∨B - A + 2 * c≤b)
  (w:AW) (hup:Up w1 w) (Q:Ex→Tm→AW→Prop) (t:Tm) (hacc:AccR intC 3 w1.next w (tget t 9) (rows.take i).flatten) (t1:tget t 1=pu) (t2:tget t 2=ub) (t3:tget t 3=.pointer (some ⟨X,0,none⟩)) (t7:tget t 7=v2) (t10:tget t 10=.int .i64 (i:Int)) (t11:tget t 11=.int .i64 0) (t12:tget t 12=.int .i64 0) (t13:tget t 13=.int .i64 0)
  (hQ:∀ t w lo hi,Up w1 w→AccR intC 3 w1.next w (tget t 9) (rows.take (i + 1)).flatten→tget t 1=pu→tget t 2=ub→tget t 3=.pointer (some ⟨X,0,none⟩)→tget t 7=v2→tget t 10=.int .i64 (i:Int)→tget t 11=.int .i64 lo→tget t 12=.int .i64 hi→(-20≤lo∧lo≤420 ∧ -20≤hi∧hi≤420)→hi - lo≤b→Q (.exit 2) t w):wp (exM Tryz.prog (run Tryz.prog ov (m + 2)) (.loop mc7_l1) t w) Q:=by
 have hri:rows[i]?=some e.2.1:=by rw [hrows,List.getElem?_map,he]; rfl
 have hmem:=List.mem_of_getElem? hri
 have hlen:=H.len _ hmem
 obtain ⟨row,hr⟩:∃ row,row=e.2.1:=⟨_,rfl⟩
 rw [← hr] at hri hmem hlen hrow hAB
 refine wp_rounds (fun k t w=>Up w1 w∧AccR intC 3 w1.next w (tget t 9) ((rows.take i).flatten++row.take k)∧tget t 1=pu∧tget t 2=ub∧tget t 3=.pointer (some ⟨X,0,none⟩)∧tget t 7=v2∧tget t 10=.int .i64 (i:Int)∧tget t 13=.int .i64 (k:Int)∧k≤row.length∧∃ lo hi,tget t 11=.int .i64 lo∧tget t 12=.int .i64 hi∧Lm A B c k lo hi) 300 (by decide) ⟨hup,by simpa using hacc,t1,t2,t3,t7,t10,by simpa using t13,Nat.zero_le _,0,0,t11,t12,Lm.zero A B c⟩ ?_
 clear t1 t2 t3 t7 t10 t11 t12 t13 hacc hup w t
 rintro k t w ⟨hup,hacc,t1,t2,t3,t7,t10,t13,hk,lo,hi,t11,t12,hL⟩
 have hn:=hup.next
 have hlm:=hup.lim
 have hok:=hacc.ok
 obtain ⟨pe,ie,de,ne⟩:=get34 hv he
 rw [← hup.at ne] at de
 obtain ⟨ae,ce,hev⟩:=hrow.len
 rw [hev] at de
 by_cases hlt:k < row.length
 ·have hlt':(k:Int) < (row.length:Int):=by omega
  obtain ⟨z,hz⟩:∃ z,row[k]?=some z:=⟨_,List.getElem?_eq_getElem hlt⟩
  have hzm:=List.mem_of_getElem? hz
  have hzi:=H.inn _ hmem z hzm
  obtain ⟨x,hx⟩:∃ x:Nat,z=(x:Int):=⟨z.toNat,by omega⟩
  obtain ⟨p,hpx⟩:∃ p,pods[x]?=some p:=⟨_,List.getElem?_eq_getElem (by omega)⟩
  have bp:=hpb p (List.mem_of_getElem? hpx)
  have hab:=hAB x p (hx ▸ hzm) hpx
  have hno:=not_met H.once hri hz
  have htl:=take_le hri k
  have htot:=H.tot
  obtain ⟨pa,ia,da,na⟩:=get33 hrow rfl hz
  rw [← hup.at na] at da
  rw [hev] at ia
  obtain ⟨pc,ic,dc,nc⟩:=get33 hp hx hpx
  have r25:=run25 h25 (m + 1) (tget t 9) _ z (by omega) hno w hacc.rows
  have hw:IntKind.wrap .i64 ((k:Int) + 1)=(k:Int) + 1:=wrap64_in (by omega) (by omega)
  have e1:(rows.take i).flatten++row.take (k + 1)=((rows.take i).flatten++row.take k)++[z]:=by
   rw [List.take_add_one,hz,List.append_assoc]; rfl
  obtain ⟨v',w2,hap,hacc',hkp,hn2,hl2⟩:=AccR.push3 (P:=Tryz.prog) (st:=33) (e:=3) (sz:=1) list33 elem33 size3 small3 intC_length intC_single (by decide) hacc (by omega) hn (by omega) z
  rw [← e1] at hacc'
  have hup2:Up w1 w2:=⟨fun y hy=>by rw [hkp y hy]; exact hup.at hy,by omega,by omega⟩
  have hok':=hacc'.ok
  rw [← hup2.at nc] at dc
  have gX':=gX
  rw [← hup2.at hX] at gX'
  have r26:=run26 h26 h20 m ub bits hbl z w2 (hbt.up hup2)
  have r20:=run20j h20 (m + 1) (nthJ bits z) (2 * c + 1) (by omega) w2
  obtain ⟨y0,y1⟩:=wrJ_bd (n:=nthJ bits z) (s:=2 * c + 1) (by omega)
  obtain ⟨y,hy⟩:∃ y,y=wrJ (nthJ bits z) (2 * c + 1):=⟨_,rfl⟩
  rw [← hy] at r20 y0 y1
  have w1':IntKind.wrap .i64 (p - c)=p - c:=wrap64_in (by omega) (by omega)
  have w2':IntKind.wrap .i64 (2 * c)=2 * c:=wrap64_in (by omega) (by omega)
  have w3':IntKind.wrap .i64 (2 * c + 1)=2 * c + 1:=wrap64_in (by omega) (by omega)
  have w4':IntKind.wrap .i64 (p - c + y)=p - c + y:=wrap64_in (by omega) (by omega)
  simp only [intC] at hap
  by_cases h0:k=0
  ·subst h0
   simp only [Int.natCast_zero] at t13 ia hw hlt'
   have hw0:IntKind.wrap .i64 1=1:=by decide
   simp [mc7_l1,t1,t2,t3,t7,t10,t11,t12,t13,ie,de,hlt,hlt',ia,da,r25,hok,hap,ic,dc,gX',r26,r20,w1',w2',w3',w4',hok',hw0]
   exact ⟨hup2,hacc',hlt,Lm.one (by omega) (by omega)⟩
  ·have h0':¬ (k:Int)=0:=by omega
   simp [mc7_l1,t1,t2,t3,t7,t10,t11,t12,t13,ie,de,hlt,hlt',ia,da,r25,hok,hap,ic,dc,gX',r26,r20,w1',w2',w3',w4',hok',h0,h0',hw]
   exact ⟨by omega,hup2,hacc',hlt,hL.next (by omega) (by omega) (by omega)⟩
 ·have hk':k=row.length:=by omega
  subst hk'
  rw [List.take_length,← flat_take hri] at hacc
  simp [mc7_l1,t7,t10,t13,ie,de]
  refine hQ _ _ lo hi hup (by simpa using hacc) (by simp [t1]) (by simp [t2]) (by simp [t3]) (by simp [t7]) (by simp [t10]) (by simp [t11]) (by simp [t12]) hL.1 ?_
  obtain ⟨_,h1,h2⟩:=hL
  rw [hlen] at h1 h2
  rcases hAB2 with e | e
  ·have:=h1 (by omega); omega
  ·by_cases h0:M=0
   ·have:=h1 (by omega); omega
   ·have:=h2 (by omega); omega
theorem loop7a (m:Nat) (h25:∀ args w,ov 25 args w=none) (h24:∀ args w,ov 24 args w=none) (h23:∀ args w,ov 23 args w=none) (h26:∀ args w,ov 26 args w=none) (h20:∀ args w,ov 20 args w=none) (hb0:0≤b∧b≤400) (hc:0≤c∧c≤20) (hpn:pods.length≤200) (hpb:∀ z ∈ pods,1≤z∧z≤400) (hl1:w1.lim≤w1.next) (hX:X < w1.next) (gX:w1.heap.get X=some (.cells [.int .i64 (M:Int),.int .i64 b,.int .i64 c] 32 false)) (hM:M≤100) (hp:RowsV intC w1 pu pods) (hbt:RowsV intC w1 ub bits) (hbl:bits.length≤2 ^ 60) (hv:RowsV elC w1 v2 acc)
  {rows:List (List Int)} (hrows:rows=acc.map fun e=>e.2.1) (H:SortOk M b c pods rows) (hal:acc.length≤200) (hrs:∀ e ∈ acc,RowsV intC w1 (elV e) e.2.1) (hAB:∀ e ∈ acc,∃ A B:Int,(∀ (x:Nat) (p:Int),(x:Int) ∈ e.2.1→pods[x]?=some p→A≤p∧p≤B)∧(M=1∨B - A + 2 * c≤b))
  (Q:Ex→Tm→AW→Prop) (t:Tm) (t9:tget t 9=.slice none 0 0) (t1:tget t 1=pu) (t2:tget t 2=ub) (t3:tget t 3=.pointer (some ⟨X,0,none⟩)) (t7:tget t 7=v2) (t10:tget t 10=.int .i64 0)
  (hQ:∀ t w,Up w1 w→tget t 1=pu→tget t 2=ub→tget t 3=.pointer (some ⟨X,0,none⟩)→tget t 7=v2→Q (.exit 0) t w):wp (exM Tryz.prog (run Tryz.prog ov (m + 2)) (.loop mc7_l0) t w1) Q:=by
 refine wp_rounds (fun i t w=>Up w1 w∧AccR intC 3 w1.next w (tget t 9) (rows.take i).flatten∧tget t 1=pu∧tget t 2=ub∧tget t 3=.pointer (some ⟨X,0,none⟩)∧tget t 7=v2∧tget t 10=.int .i64 (i:Int)∧i≤acc.length) 300 (by decide) ⟨Up.refl _,by rw [t9]; simp; exact AccR.nil,t1,t2,t3,t7,by simpa using t10,Nat.zero_le _⟩ ?_
 clear t1 t2 t3 t7 t9 t10 t
 rintro i t w ⟨hup,hacc,t1,t2,t3,t7,t10,hi⟩
 have hln:=fun w'=>len34V (w':=w') hv
 by_cases hlt:i < acc.length
 ·obtain ⟨e,he⟩:∃ e,acc[i]?=some e:=⟨_,List.getElem?_eq_getElem hlt⟩
  obtain ⟨A,B,hA,hA2⟩:=hAB e (List.mem_of_getElem? he)
  have hrow:=hrs e (List.mem_of_getElem? he)
  have hri:rows[i]?=some e.2.1:=by rw [hrows,List.getElem?_map,he]; rfl
  have hmem:=List.mem_of_getElem? hri
  have hlen:=H.len _ hmem
  obtain ⟨pe,ie,de,ne⟩:=get34 hv he
  rw [← hup.at ne] at de
  have hlp:=fun w'=>len33V (w':=w') hp
  have r24:=run24 h24 h23 m (elV e) e.2.1 (by omega) pods.length (by omega) (H.inn _ hmem) (H.rise _ hmem) w (hrow.up hup)
  have gX':=gX
  rw [← hup.at hX] at gX'
  obtain ⟨ae,ce,hev⟩:=hrow.len
  have hlenI:(e.2.1.length:Int)=(M:Int):=by omega
  rw [hev] at de r24
  rw [hlen] at de r24
  have hw:IntKind.wrap .i64 ((i:Int) + 1)=(i:Int) + 1:=wrap64_in (by omega) (by omega)
  simp [mc7_l0,t1,t3,t7,t10,hln,hlt,ie,de,gX',hlen,hlp,r24]
  refine wp_seqX (wp_blockX (wp_seqX (wp_blockX (loop7b m h25 h26 h20 hb0.1 hc hpb hl1 hX gX hM hp hbt hbl hv hrows H he hrow hA hA2 w hup _ _ ?_ ?_ ?_ ?_ ?_ ?_ ?_ ?_ ?_ ?_))))
  ·simpa using hacc
  ·simp [t1]
  ·simp [t2]
  ·simp [t3]
  ·simp [t7]
  ·simp [t10]
  ·simp
  ·simp
  ·simp
  ·intro t w2 lo hi hup2 hacc2 s1 s2 s3 s7 s10 s11 s12 hbd hle
   have gX2:=gX
   rw [← hup2.at hX] at gX2
   have w1':IntKind.wrap .i64 (hi - lo)=hi - lo:=wrap64_in (by omega) (by omega)
   have hng:¬ b < hi - lo:=by omega
   simp [s3,s10,s11,s12,gX2,w1',hng,hw]
   exact ⟨by omega,hup2,hacc2,s1,s2,s7,hlt⟩
 ·have hi':i=acc.length:=by omega
  subst hi'
  simp [mc7_l0,t7,t10,hln]
  exact hQ _ _ hup (by simp [t1]) (by simp [t2]) (by simp [t3]) (by simp [t7])
end
section
variable {ov:Ov} {w0:AW} {pu:Value} {pods:List Int} {M:Nat} {b c fr:Int} {i:Nat}
theorem tail27e (m:Nat) (hM:1≤M∧M≤100) (hu:RowsV intC w0 pu pods) (hpn:pods.length≤200) (hpb:∀ z ∈ pods,1≤z∧z≤400) (hc:0≤c∧c≤20) (hl0:w0.lim≤w0.next) {F:List (List Nat)} (hF:GOk M b c pods F) (hFn:F.length≤1000) {bl:List Bool} (hbl:Us bl pods.length F.flatten) {at_:Nat} (hat:at_ < pods.length) (hatF:at_ ∉ F.flatten) {w:AW} (hI:In27 w0 M b c bl w) {B:Nat} (hB:w0.next + 2≤B) (Q:Ex→Tm→AW→Prop) (t:Tm)
  (hO:LitQ naC 3 (w0.next + 1) w (tget t 11) [at_] B) (ha:Ta pu w0.next pods.length fr F.length i t) (t10:tget t 10=.int .i64 (at_:Int))
  (hQ:∀ t w n' bl F',GOk M b c pods F'→F'.length=n'→n'≤F.length + 1→In27 w0 M b c bl w→Us bl pods.length F'.flatten→Ta pu w0.next pods.length fr n' i t→Q .normal t w):wp (exM Tryz.prog (run Tryz.prog ov m) mc27_l0_b1 t w) Q:=by
 have ha':=ha
 obtain ⟨t1,t2,t3,t7,t8,t9⟩:=ha'
 simp [mc27_l0_b1]
 refine wp_seqX (wp_blockX (loop27b (n:=F.length) (i:=i) (fr:=fr) m hM hu hpn hpb hc hl0 hbl hat hatF hI hB _ _ ?_ ?_ ?_ ?_ ?_))
 ·simpa using hO
 ·simp [Ta,t1,t2,t3,t7,t8,t9]
 ·simp [t10]
 ·simp
 ·intro t w O B hI ha hO hB h1 h2 h3 h4
  simp
  exact tail27a m hM hl0 hFn hF rfl hbl hI hB h1 h2 h3 h4 Q t hO ha hQ
theorem loop27a (m:Nat) (h20:∀ args w,ov 20 args w=none) (hM:1≤M∧M≤100) (hu:RowsV intC w0 pu pods) (hpn:pods.length≤200) (hpb:∀ z ∈ pods,1≤z∧z≤400) (hc:0≤c∧c≤20) (hl0:w0.lim≤w0.next) {bl:List Bool} {w:AW} (hI:In27 w0 M b c bl w) (hbl:Us bl pods.length []) (Q:Ex→Tm→AW→Prop) (t:Tm) (ha:Ta pu w0.next pods.length fr 0 0 t)
  (hQ:∀ t w F,GOk M b c pods F→tget t 8=.int .i64 (F.length:Int)→Up w0 w→Q (.exit 0) t w):wp (exM Tryz.prog (run Tryz.prog ov (m + 1)) (.loop mc27_l0) t w) Q:=by
 refine wp_rounds (fun i t w=>i≤pods.length∧∃ F bl,GOk M b c pods F∧In27 w0 M b c bl w∧Us bl pods.length F.flatten∧F.length≤i∧Ta pu w0.next pods.length fr F.length i t) 300 (by decide) ⟨Nat.zero_le _,[],bl,GOk.nil M b c pods,hI,hbl,Nat.le_refl _,ha⟩ ?_
 clear hI hbl ha bl t w
 rintro i t w ⟨hi,F,bl,hF,hI,hbl,hFi,ha⟩
 have ha':=ha
 obtain ⟨t1,t2,t3,t7,t8,t9⟩:=ha'
 have hlu:=fun w'=>len33V (w':=w') hu
 by_cases hlt:i < pods.length
 ·have hlt':(i:Int) < (pods.length:Int):=by omega
  have r20:=run20j h20 m (IntKind.wrap .i64 (fr + (i:Int))) (pods.length:Int) (by omega) w
  obtain ⟨b1,b2⟩:=wrJ_bd (n:=IntKind.wrap .i64 (fr + (i:Int))) (s:=(pods.length:Int)) (by omega)
  obtain ⟨at_,hat⟩:∃ at_:Nat,wrJ (IntKind.wrap .i64 (fr + (i:Int))) (pods.length:Int)=(at_:Int):=⟨(wrJ (IntKind.wrap .i64 (fr + (i:Int))) (pods.length:Int)).toNat,by omega⟩
  rw [hat] at r20 b1 b2
  have hatn:at_ < pods.length:=by omega
  have hw:IntKind.wrap .i64 ((i:Int) + 1)=(i:Int) + 1:=wrap64_in (by omega) (by omega)
  obtain ⟨i93,r93⟩:=get93 hI.use hbl.1 (hbl.2 at_ hatn)
  by_cases hA:at_ ∈ F.flatten
  ·have r93':rd1O (w.heap.get (w0.next + 1)) at_=some (.bool true):=by rw [r93,decide_eq_true hA]
   simp [mc27_l0_eq,t1,t2,t7,t9,hlu,hlt,hlt',r20,i93,r93',hw]
   exact ⟨by omega,hlt,F,hF,bl,hI,hbl,by omega,by simp [Ta,t1,t2,t3,t7,t8,t9]⟩
  ·have r93':rd1O (w.heap.get (w0.next + 1)) at_=some (.bool false):=by rw [r93,decide_eq_false hA]
   have hlt2:=hI.lt
   obtain ⟨w2,hw2⟩:∃ w2:AW,w2=⟨w.heap.put w.next (some (.cells [.int .i64 (at_:Int)] 3 false)),w.next + 1,w.lim⟩:=⟨_,rfl⟩
   have n2:w2.next=w.next + 1:=by rw [hw2]
   have hI2:In27 w0 M b c bl w2:=hI.keep (fun x hx=>by rw [hw2]; show (w.heap.put _ _).get x=_; rw [get_put,if_neg (by omega)]) (by omega) (by rw [hw2])
   have g2:w2.heap.get w.next=some (.cells [.int .i64 (at_:Int)] 3 false):=by rw [hw2]; show (w.heap.put _ _).get _=_; rw [get_put,if_pos rfl]
   have hO2:LitQ naC 3 (w0.next + 1) w2 (.slice (some ⟨w.next,0,some 2⟩) 1 1) [at_] w.next:=⟨by simp,g2,by omega,.inl rfl⟩
   have hbd:buildSliceA Tryz.prog w 33 1 [(0,.int .i64 (at_:Int))]=.val (.slice (some ⟨w.next,0,some 2⟩) 1 1) w2:=by rw [hw2]; exact bd33_0_n1 w _
   have hnj:∀ (a:Addr) n c,notJunk (.slice (some a) n c)=some (.slice (some a) n c):=fun _ _ _=>rfl
   simp [mc27_l0_eq,t1,t2,t7,t9,hlu,hlt,hlt',r20,i93,r93', -bd33_0_n1,hbd,hnj]
   refine wp_seqX (wp_blockX (tail27e (i:=i) (fr:=fr) (m + 1) hM hu hpn hpb hc hl0 hF (by omega) hbl hatn hA hI2 (B:=w.next) (by omega) _ _ ?_ ?_ ?_ ?_))
   ·simpa using hO2
   ·simp [Ta,t1,t2,t3,t7,t8,t9]
   ·simp
   ·intro t w n' bl F' hF' hFn hn' hI' hbl' ha'
    obtain ⟨s1,s2,s3,s7,s8,s9⟩:=ha'
    simp [s9,hw]
    exact ⟨by omega,hlt,F',hF',bl,hI',hbl',by omega,by simp [Ta,s1,s2,s3,s7,s8,s9,hFn]⟩
 ·have hlt':¬ (i:Int) < (pods.length:Int):=by omega
  simp [mc27_l0_eq,t1,t9,hlu,hlt,hlt']
  exact hQ _ _ F hF (by simp [t8]) hI.up
theorem call27 (m:Nat) (ho:∀ args w,ov 27 args w=none) (h20:∀ args w,ov 20 args w=none) (M:Nat) (hM:1≤M∧M≤100) (b c fr:Int) (hc:0≤c∧c≤20) (pu:Value) (pods:List Int) (hpn:pods.length≤200) (hpb:∀ z ∈ pods,1≤z∧z≤400) (w:AW) (hl:w.lim≤w.next) (hu:RowsV intC w pu pods) :
  ∃ v w',(run Tryz.prog ov (m + 2)).call 27 [.agg ⟨ruleC (M:Int) b c⟩,pu,.int .i64 fr] w .none=.ok (.ret v) w' .none∧∃ F:List (List Nat),v=.int .i64 (F.length:Int)∧GOk M b c pods F∧Up w w':=by
 refine call_wp text27 (by simp) (ho _ _) ?_
 obtain ⟨w1,hw1⟩:∃ w1:AW,w1=⟨w.heap.put w.next (some (.cells (ruleC (M:Int) b c) 32 false)),w.next + 1,w.lim⟩:=⟨_,rfl⟩
 have n1:w1.next=w.next + 1:=by rw [hw1]
 have l1:w1.lim=w.lim:=by rw [hw1]
 have g1:w1.heap.get w.next=some (.cells [.int .i64 (M:Int),.int .i64 b,.int .i64 c] 32 false):=by rw [hw1]; show (w.heap.put _ _).get _=_; rw [get_put,if_pos rfl]; rfl
 have u1:Up w w1:=by rw [hw1]; exact (Up.refl w).add _
 have hbx:boxA w 32 (.agg ⟨ruleC (M:Int) b c⟩)=.val (.pointer (some ⟨w.next,0,none⟩)) w1:=by rw [hw1]; rfl
 have hln:=fun w'=>len33V (w':=w') hu
 obtain ⟨w2,hw2⟩:∃ w2:AW,w2=⟨w1.heap.put w1.next (some (.cells ((List.replicate pods.length false).flatMap boC) 4 false)),w1.next + 1,w1.lim⟩:=⟨_,rfl⟩
 have n2:w2.next=w.next + 2:=by rw [hw2,n1]
 have hI:In27 w M b c (List.replicate pods.length false) w2:=by
  refine ⟨⟨fun y hy=>?_,by omega,by rw [hw2]; exact l1⟩,by omega,?_,?_⟩
  ·rw [hw2]; show (w1.heap.put _ _).get y=_; rw [get_put,if_neg (by omega)]; exact u1.at hy
  ·rw [hw2]; show (w1.heap.put _ _).get _=_; rw [get_put,if_neg (by omega)]; exact g1
  ·rw [hw2]; show (w1.heap.put _ _).get _=_; rw [n1,get_put,if_pos rfl]
 have hmk:makeSliceA Tryz.prog w1 93 (.int .i64 (pods.length:Int)) (.int .i64 (pods.length:Int))=.val (.slice (some ⟨w.next + 1,0,none⟩) pods.length pods.length) w2:=by rw [hw2,← n1]; exact mk93 pods.length (by omega) w1
 have hU:Us (List.replicate pods.length false) pods.length []:=⟨List.length_replicate,fun k hk=>by rw [List.getElem?_replicate,if_pos hk]; rfl⟩
 clear hbx
 subst hw1
 simp [mc27,hln,hmk]
 refine wp_seqX (wp_blockX (loop27a (fr:=fr) m h20 hM hu hpn hpb hc hl hI hU _ _ ?_ ?_))
 ·simp [Ta]
 ·intro t w' F hF t8 hup
  simp [t8,tupV]
  exact ⟨F,rfl,hF,hup⟩
end
noncomputable def mc7_r4:MC:=.seq (.ops [⟨false,none,some 170,32,.load 32 (.tmp 16)⟩,⟨false,none,some 171,33,.move (.tmp 17)⟩,⟨false,none,some 172,35,.call ⟨.value (.func 16),#[.tmp 170,.tmp 171],#[32,33]⟩⟩,⟨false,none,some 169,35,.move (.tmp 172)⟩,⟨false,none,some 173,34,.extract (.tmp 169) 0⟩,⟨false,none,some 174,22,.extract (.tmp 169) 1⟩,⟨false,none,some 18,34,.assign (.tmp 173)⟩,⟨false,none,some 8,22,.assign (.tmp 174)⟩]) (.seq (.ops [⟨false,none,some 175,22,.move (.tmp 8)⟩,⟨false,none,some 176,4,.binOp .eql 22 (.tmp 175) (.const (.int .i64 0)) 22⟩,⟨false,none,some 177,4,.move (.tmp 176)⟩,⟨false,some (177,true),some 178,34,.move (.tmp 18)⟩,⟨false,some (177,true),some 179,3,.call ⟨.builtin .len,#[.tmp 178],#[34]⟩⟩,⟨false,some (177,true),some 180,34,.move (.tmp 7)⟩,⟨false,some (177,true),some 181,3,.call ⟨.builtin .len,#[.tmp 180],#[34]⟩⟩,⟨false,some (177,true),some 182,4,.binOp .geq 3 (.tmp 179) (.tmp 181) 3⟩,⟨false,none,some 183,4,.pick (.tmp 177) (.tmp 182) (.const (.bool false))⟩,⟨false,none,some 184,4,.move (.tmp 183)⟩,⟨false,some (184,true),some 185,4,.call ⟨.value (.func 15),#[],#[]⟩⟩,⟨false,none,some 186,4,.pick (.tmp 184) (.tmp 185) (.const (.bool false))⟩,⟨false,none,some 6,4,.assign (.tmp 186)⟩]) (.ret))
noncomputable def mc7_r3:MC:=.seq (.seq (.ops [⟨false,none,some 138,33,.move (.tmp 2)⟩,⟨false,none,some 139,3,.call ⟨.value (.func 26),#[.tmp 138,.const (.int .i64 1)],#[33,3]⟩⟩,⟨false,none,some 140,3,.call ⟨.value (.func 20),#[.tmp 139,.const (.int .i64 3)],#[3,3]⟩⟩]) (.block 4 (.seq (.ops [⟨false,none,some 151,4,.binOp .eql 3 (.tmp 140) (.const (.int .i64 0)) 3⟩,⟨false,none,some 150,4,.assign (.tmp 151)⟩]) (.cond (.tmp 150) (.seq (.ops [⟨true,none,some 152,0,.fieldAddr 32 (.tmp 3) 1⟩]) (.seq (.ops [⟨true,none,some 153,3,.load 3 (.tmp 152)⟩]) (.seq (.ops [⟨true,none,some 154,33,.move (.tmp 2)⟩]) (.seq (.ops [⟨false,none,some 155,3,.call ⟨.value (.func 26),#[.tmp 154,.const (.int .i64 2)],#[33,3]⟩⟩]) (.seq (.chk [⟨true,none,some 153,3,.load 3 (.tmp 152)⟩]) (.seq (.ops [⟨false,none,some 156,3,.call ⟨.value (.func 20),#[.tmp 155,.const (.int .i64 9)],#[3,3]⟩⟩]) (.seq (.ops [⟨true,none,some 157,3,.binOp .add 3 (.tmp 153) (.tmp 156) 3⟩]) (.seq (.ops [⟨true,none,some 158,3,.call ⟨.builtin .min,#[.const (.int .i64 400),.tmp 157],#[3,3]⟩⟩]) (.seq (.ops [⟨true,none,some 159,0,.fieldAddr 32 (.tmp 16) 1⟩]) (.seq (.chk [⟨true,none,some 153,3,.load 3 (.tmp 152)⟩]) (.seq (.ops [⟨false,none,none,0,.store 3 (.tmp 159) (.tmp 158)⟩]) (.chk [])))))))))))) (.seq (.ops [⟨false,none,some 161,4,.binOp .eql 3 (.tmp 140) (.const (.int .i64 1)) 3⟩,⟨false,none,some 160,4,.assign (.tmp 161)⟩]) (.cond (.tmp 160) (.seq (.ops [⟨true,none,some 162,33,.move (.tmp 2)⟩]) (.seq (.ops [⟨true,none,some 164,0,.fieldAddr 32 (.tmp 3) 2⟩]) (.seq (.ops [⟨true,none,some 165,3,.load 3 (.tmp 164)⟩]) (.seq (.ops [⟨true,none,some 166,3,.binOp .add 3 (.tmp 165) (.const (.int .i64 1)) 3⟩]) (.seq (.ops [⟨false,none,some 163,3,.call ⟨.value (.func 26),#[.tmp 162,.const (.int .i64 2)],#[33,3]⟩⟩]) (.seq (.chk [⟨true,none,some 165,3,.load 3 (.tmp 164)⟩]) (.seq (.ops [⟨false,none,some 167,3,.call ⟨.value (.func 20),#[.tmp 163,.tmp 166],#[3,3]⟩⟩]) (.seq (.ops [⟨true,none,some 168,0,.fieldAddr 32 (.tmp 16) 2⟩]) (.seq (.ops [⟨false,none,none,0,.store 3 (.tmp 168) (.tmp 167)⟩]) (.chk [])))))))))) (.seq (.ops [⟨false,none,some 141,33,.move (.tmp 1)⟩,⟨false,none,some 142,3,.call ⟨.builtin .len,#[.tmp 141],#[33]⟩⟩,⟨false,none,some 143,4,.binOp .lss 3 (.tmp 142) (.const (.int .i64 200)) 3⟩]) (.cond (.tmp 143) (.ops [⟨false,none,some 144,33,.move (.tmp 1)⟩,⟨false,none,some 145,33,.move (.tmp 2)⟩,⟨false,none,some 146,3,.call ⟨.value (.func 26),#[.tmp 145,.const (.int .i64 2)],#[33,3]⟩⟩,⟨false,none,some 147,3,.call ⟨.value (.func 20),#[.tmp 146,.const (.int .i64 400)],#[3,3]⟩⟩,⟨false,none,some 148,3,.binOp .add 3 (.const (.int .i64 1)) (.tmp 147) 3⟩,⟨false,none,some 149,33,.call ⟨.value (.func 28),#[.tmp 144,.tmp 148],#[33,3]⟩⟩,⟨false,none,some 17,33,.assign (.tmp 149)⟩]) (.skip))))))))) mc7_r4
noncomputable def mc7_r2:MC:=.seq (.ops [⟨false,none,some 136,32,.load 32 (.tmp 3)⟩,⟨false,none,some 137,33,.move (.tmp 1)⟩,⟨false,none,some 16,0,.alloc 32⟩,⟨false,none,none,0,.store 32 (.tmp 16) (.tmp 136)⟩,⟨false,none,some 17,33,.assign (.tmp 137)⟩]) mc7_r3
noncomputable def mc7_r1:MC:=.seq (.seq (.seq (.ops [⟨true,none,some 128,32,.load 32 (.tmp 3)⟩]) (.seq (.ops [⟨true,none,some 129,33,.move (.tmp 1)⟩]) (.seq (.ops [⟨true,none,some 130,33,.move (.tmp 2)⟩]) (.seq (.ops [⟨true,none,some 133,34,.move (.tmp 7)⟩]) (.seq (.ops [⟨true,none,some 134,3,.call ⟨.builtin .len,#[.tmp 133],#[34]⟩⟩]) (.seq (.ops [⟨false,none,some 131,3,.call ⟨.value (.func 26),#[.tmp 130,.const (.int .i64 0)],#[33,3]⟩⟩]) (.seq (.chk [⟨true,none,some 134,3,.call ⟨.builtin .len,#[.tmp 133],#[34]⟩⟩,⟨true,none,some 128,32,.load 32 (.tmp 3)⟩]) (.seq (.ops [⟨false,none,some 132,3,.call ⟨.value (.func 27),#[.tmp 128,.tmp 129,.tmp 131],#[32,33,3]⟩⟩]) (.seq (.ops [⟨true,none,some 135,4,.binOp .gtr 3 (.tmp 132) (.tmp 134) 3⟩]) (.chk [⟨true,none,some 134,3,.call ⟨.builtin .len,#[.tmp 133],#[34]⟩⟩])))))))))) (.cond (.tmp 135) (.seq (.ops [⟨false,none,some 6,4,.assign (.const (.bool false))⟩]) (.ret)) (.skip))) mc7_r2
theorem mc7_eq:mc7=.seq (.ops [⟨false,none,some 3,0,.box 32 (.tmp 0)⟩,⟨false,none,some 6,4,.assign (.const (.bool false))⟩]) (.seq (.ops [⟨false,none,some 20,32,.load 32 (.tmp 3)⟩,⟨false,none,some 21,33,.move (.tmp 1)⟩,⟨false,none,some 22,35,.call ⟨.value (.func 16),#[.tmp 20,.tmp 21],#[32,33]⟩⟩,⟨false,none,some 19,35,.move (.tmp 22)⟩,⟨false,none,some 23,34,.extract (.tmp 19) 0⟩,⟨false,none,some 24,22,.extract (.tmp 19) 1⟩,⟨false,none,some 7,34,.assign (.tmp 23)⟩,⟨false,none,some 8,22,.assign (.tmp 24)⟩]) (.seq (.seq (.ops [⟨false,none,some 25,22,.move (.tmp 8)⟩,⟨false,none,some 26,4,.binOp .neq 22 (.tmp 25) (.const (.int .i64 0)) 22⟩,⟨false,none,some 27,4,.move (.tmp 26)⟩,⟨false,some (27,false),some 28,33,.move (.tmp 1)⟩,⟨false,some (27,false),some 29,3,.call ⟨.builtin .len,#[.tmp 28],#[33]⟩⟩,⟨false,some (27,false),some 30,4,.binOp .gtr 3 (.tmp 29) (.const (.int .i64 200)) 3⟩,⟨false,none,some 31,4,.pick (.tmp 27) (.const (.bool true)) (.tmp 30)⟩,⟨false,none,some 32,4,.move (.tmp 31)⟩,⟨false,some (32,false),some 33,0,.fieldAddr 32 (.tmp 3) 0⟩,⟨false,some (32,false),some 34,3,.load 3 (.tmp 33)⟩,⟨false,some (32,false),some 35,4,.call ⟨.value (.func 23),#[.tmp 34,.const (.int .i64 1),.const (.int .i64 100)],#[3,3,3]⟩⟩,⟨false,some (32,false),some 36,4,.unOp .not 4 (.tmp 35)⟩,⟨false,none,some 37,4,.pick (.tmp 32) (.const (.bool true)) (.tmp 36)⟩]) (.cond (.tmp 37) (.seq (.ops [⟨false,none,some 38,22,.move (.tmp 8)⟩,⟨false,none,some 39,4,.binOp .neq 22 (.tmp 38) (.const (.int .i64 0)) 22⟩,⟨false,none,some 40,4,.move (.tmp 39)⟩,⟨false,some (40,true),some 41,34,.move (.tmp 7)⟩,⟨false,some (40,true),some 42,3,.call ⟨.builtin .len,#[.tmp 41],#[34]⟩⟩,⟨false,some (40,true),some 43,4,.binOp .eql 3 (.tmp 42) (.const (.int .i64 0)) 3⟩,⟨false,none,some 44,4,.pick (.tmp 40) (.tmp 43) (.const (.bool false))⟩,⟨false,none,some 45,4,.move (.tmp 44)⟩,⟨false,some (45,true),some 46,4,.call ⟨.value (.func 15),#[],#[]⟩⟩,⟨false,none,some 47,4,.pick (.tmp 45) (.tmp 46) (.const (.bool false))⟩,⟨false,none,some 6,4,.assign (.tmp 47)⟩]) (.ret)) (.skip))) (.seq (.ops [⟨false,none,some 9,33,.assign (.const (.slice none 0 0))⟩]) (.seq (.seq (.ops [⟨false,none,some 10,3,.assign (.const (.int .i64 0))⟩]) (.block 0 (.loop mc7_l0))) mc7_r1)))):=rfl
structure Has7 (ov:Ov):Prop where
 h4:Has4 ov
 o20:∀ args w,ov 20 args w=none
 o26:∀ args w,ov 26 args w=none
 o27:∀ args w,ov 27 args w=none
 o28:∀ args w,ov 28 args w=none
theorem rule_mk {M:Nat} {b c:Int} (hM:1≤M∧M≤100) (hb:0≤b∧b≤400) (hc:0≤c∧c≤20) {pods:List Int} (hpn:pods.length≤200) (hpb:∀ z ∈ pods,1≤z∧z≤400):(ruleB (M:Int) b c && podsOk pods)=true:=by
 have h1:(1:Int)≤(M:Int):=by omega
 have h2:(M:Int)≤100:=by omega
 have h3:(pods.all fun z=>decide (1≤z) && decide (z≤400))=true:=List.all_eq_true.2 fun z hz=>by have:=hpb z hz; simp [this.1,this.2]
 unfold ruleB podsOk
 rw [decide_eq_true h1,decide_eq_true h2,decide_eq_true hb.1,decide_eq_true hb.2,decide_eq_true hc.1,decide_eq_true hc.2,decide_eq_true hpn,h3]
 rfl
section
variable {ov:Ov}
theorem tail7d (m:Nat) (h:Has7 ov) {M:Nat} (hM:1≤M∧M≤100) {b c:Int} (hb:0≤b∧b≤400) (hc:0≤c∧c≤20) {pods:List Int} (hpn:pods.length≤200) (hpb:∀ z ∈ pods,1≤z∧z≤400) {v17 v2:Value} {acc:List El} {w0 w:AW} (hl0:w0.lim≤w0.next) (hLd:LaidW w0) (hup:Up w0 w) {Y:Nat} (hY:Y < w.next) (gY:w.heap.get Y=some (.cells [.int .i64 (M:Int),.int .i64 b,.int .i64 c] 32 false)) (hp:RowsV intC w v17 pods) (hv:RowsV elC w0 v2 acc) {F:List (List Pd)} (hF:Fam M (nearP M b c) (zI pods pods.length) F) (hFn:acc.length=F.length)
  (Q:Ex→Tm→AW→Prop) (t:Tm) (t7:tget t 7=v2) (t16:tget t 16=.pointer (some ⟨Y,0,none⟩)) (t17:tget t 17=v17) (hQ:∀ t w,tget t 6=.bool true→Q .ret t w):wp (exM Tryz.prog (run Tryz.prog ov (m + 210)) mc7_r4 t w) Q:=by
 have hn:=hup.next
 have hlm:=hup.lim
 have hok:=rule_mk hM hb hc hpn hpb
 obtain ⟨_,w2,c16,v1,acc',rfl,hra,hyes,_,hok1,u2⟩:=call16 m h.h4 (M:Int) b c v17 pods w (by omega) hp
 obtain ⟨M',L,hM',hMb,hLp,hLs,hrun,hae⟩:=hyes hok
 have e:M'=M:=by omega
 subst e
 have hle:acc.length≤acc'.length:=by
  have:=bun_best hM.1 (srt_le hLs) (hLp.nodup_iff.2 (zI_nodup pods)) (famMono hF (fun _ _ h=>h) fun x hx=>hLp.mem_iff.2 hx)
  rw [← hrun,List.length_map] at this
  omega
 have hpe:podE (M':Int) b c pods=0:=by unfold podE; rw [hok]; rfl
 rw [hpe] at c16
 simp only [ruleC] at c16
 have hle':(acc.length:Int)≤(acc'.length:Int):=by omega
 have hln:=fun w'=>len34V (w':=w') hv
 have hln2:=fun w'=>len34V (w':=w') hra
 have r15:=ruleQ h.h4.hq ((hLd.up hup).up u2) (m + 209)
 have huj:notJunk v17=some v17:=by obtain ⟨x,y,rfl⟩:=hp.len; rfl
 have hvj:notJunk v2=some v2:=by obtain ⟨x,y,rfl⟩:=hv.len; rfl
 simp [mc7_r4,t7,t16,t17,gY,huj,hvj,c16,hok1,hln,hln2,hle,hle',r15]
 exact hQ _ _ (by simp)
theorem tail7c (m:Nat) (h:Has7 ov) {M:Nat} (hM:1≤M∧M≤100) {b c:Int} (hb:0≤b∧b≤400) (hc:0≤c∧c≤20) {pods bits:List Int} (hpn:pods.length≤200) (hpb:∀ z ∈ pods,1≤z∧z≤400) (hbl:bits.length≤2 ^ 60) {pu ub v2:Value} {acc:List El} {w0 w:AW} (hl0:w0.lim≤w0.next) (hLd:LaidW w0) (hup:Up w0 w) {X Y:Nat} (hX:X < w0.next) (gX:w.heap.get X=some (.cells [.int .i64 (M:Int),.int .i64 b,.int .i64 c] 32 false)) (hY0:w0.next≤Y) (hY:Y < w.next) (gY:w.heap.get Y=some (.cells [.int .i64 (M:Int),.int .i64 b,.int .i64 c] 32 false)) (hp:RowsV intC w0 pu pods) (hbt:RowsV intC w0 ub bits) (hv:RowsV elC w0 v2 acc) {F:List (List Pd)} (hF:Fam M (nearP M b c) (zI pods pods.length) F) (hFn:acc.length=F.length)
  (Q:Ex→Tm→AW→Prop) (t:Tm) (t1:tget t 1=pu) (t2:tget t 2=ub) (t3:tget t 3=.pointer (some ⟨X,0,none⟩)) (t7:tget t 7=v2) (t16:tget t 16=.pointer (some ⟨Y,0,none⟩)) (t17:tget t 17=pu) (hQ:∀ t w,tget t 6=.bool true→Q .ret t w):wp (exM Tryz.prog (run Tryz.prog ov (m + 210)) mc7_r3 t w) Q:=by
 have hn:=hup.next
 have hlm:=hup.lim
 have ra:=run26 h.o26 h.o20 (m + 208) ub bits hbl 1 w (hbt.up hup)
 have rb:=run26 h.o26 h.o20 (m + 208) ub bits hbl 2 w (hbt.up hup)
 have r3:=run20j h.o20 (m + 209) (nthJ bits 1) 3 (by decide) w
 obtain ⟨z0,z1⟩:=wrJ_bd (n:=nthJ bits 1) (s:=3) (by decide)
 have hlp:=fun w'=>len33V (w':=w') hp
 have huj:notJunk pu=some pu:=by obtain ⟨x,y,rfl⟩:=hp.len; rfl
 by_cases hz0:wrJ (nthJ bits 1) 3=0
 ·rw [hz0] at r3
  have r9:=run20j h.o20 (m + 209) (nthJ bits 2) 9 (by decide) w
  obtain ⟨y0,y1⟩:=wrJ_bd (n:=nthJ bits 2) (s:=9) (by decide)
  obtain ⟨y,hy⟩:∃ y,y=wrJ (nthJ bits 2) 9:=⟨_,rfl⟩
  rw [← hy] at r9 y0 y1
  have hw:IntKind.wrap .i64 (b + y)=b + y:=wrap64_in (by omega) (by omega)
  have hmn:b≤min 400 (b + y):=Int.le_min.2 ⟨hb.2,by omega⟩
  have hmx:min 400 (b + y)≤400:=Int.min_le_left _ _
  have hYl:w.lim≤Y:=by omega
  simp [mc7_r3,t1,t2,t3,t16,gX,gY,ra,rb,r3,r9,hw,hYl]
  refine tail7d m h hM (b:=min 400 (b + y)) (by omega) hc hpn hpb (w0:=w0) (w:=⟨w.heap.put Y (some (.cells [.int .i64 (M:Int),.int .i64 (min 400 (b + y)),.int .i64 c] 32 false)),w.next,w.lim⟩) (acc:=acc) hl0 hLd ⟨fun x hx=>?_,hn,hlm⟩ (Y:=Y) hY ?_ (v17:=pu) (v2:=v2) ?_ hv (F:=F) (famMono hF (fun x y h=>h.imp id fun h=>by omega) fun _ h=>h) hFn Q _ ?_ ?_ ?_ hQ
  ·show (w.heap.put _ _).get x=_
   rw [get_put,if_neg (by omega)]; exact hup.at hx
  ·show (w.heap.put _ _).get _=_
   rw [get_put,if_pos rfl]
  ·refine hp.up ⟨fun x hx=>?_,hn,hlm⟩
   show (w.heap.put _ _).get x=_
   rw [get_put,if_neg (by omega)]; exact hup.at hx
  ·simp [t7]
  ·simp [t16]
  ·simp [t17]
 ·by_cases hz1:wrJ (nthJ bits 1) 3=1
  ·rw [hz1] at r3
   have r9:=run20j h.o20 (m + 209) (nthJ bits 2) (c + 1) (by omega) w
   obtain ⟨y0,y1⟩:=wrJ_bd (n:=nthJ bits 2) (s:=c + 1) (by omega)
   obtain ⟨y,hy⟩:∃ y,y=wrJ (nthJ bits 2) (c + 1):=⟨_,rfl⟩
   rw [← hy] at r9 y0 y1
   have hw:IntKind.wrap .i64 (c + 1)=c + 1:=wrap64_in (by omega) (by omega)
   have hYl:w.lim≤Y:=by omega
   simp [mc7_r3,t1,t2,t3,t16,gX,gY,ra,rb,r3,r9,hw,hYl]
   refine tail7d m h hM (b:=b) (c:=y) hb (by omega) hpn hpb (w0:=w0) (w:=⟨w.heap.put Y (some (.cells [.int .i64 (M:Int),.int .i64 b,.int .i64 y] 32 false)),w.next,w.lim⟩) (acc:=acc) hl0 hLd ⟨fun x hx=>?_,hn,hlm⟩ (Y:=Y) hY ?_ (v17:=pu) (v2:=v2) ?_ hv (F:=F) (famMono hF (fun x y h=>h.imp id fun h=>by omega) fun _ h=>h) hFn Q _ ?_ ?_ ?_ hQ
   ·show (w.heap.put _ _).get x=_
    rw [get_put,if_neg (by omega)]; exact hup.at hx
   ·show (w.heap.put _ _).get _=_
    rw [get_put,if_pos rfl]
   ·refine hp.up ⟨fun x hx=>?_,hn,hlm⟩
    show (w.heap.put _ _).get x=_
    rw [get_put,if_neg (by omega)]; exact hup.at hx
   ·simp [t7]
   ·simp [t16]
   ·simp [t17]
  ·obtain ⟨z,hz⟩:∃ z,z=wrJ (nthJ bits 1) 3:=⟨_,rfl⟩
   rw [← hz] at r3 hz0 hz1
   by_cases hlt:pods.length < 200
   ·have hlt':(pods.length:Int) < 200:=by omega
    have r9:=run20j h.o20 (m + 209) (nthJ bits 2) 400 (by decide) w
    obtain ⟨y0,y1⟩:=wrJ_bd (n:=nthJ bits 2) (s:=400) (by decide)
    obtain ⟨y,hy⟩:∃ y,y=wrJ (nthJ bits 2) 400:=⟨_,rfl⟩
    rw [← hy] at r9 y0 y1
    have hw:IntKind.wrap .i64 (1 + y)=1 + y:=wrap64_in (by omega) (by omega)
    obtain ⟨x28,w2,c28,hr2,hx2,u2⟩:=call28 (m + 209) h.o28 pu pods (1 + y) w (hp.up hup) (by omega) (by omega)
    have gY2:=(u2.at hY).trans gY
    have hn2:=u2.next
    simp [mc7_r3,t1,t2,ra,rb,r3,hz0,hz1,hlp,hlt,hlt',huj,r9,hw,c28,hx2]
    refine tail7d m h hM (b:=b) (c:=c) hb hc (pods:=pods++[1 + y]) (by rw [List.length_append]; simp; omega) (fun x hx=>?_) (w0:=w0) (w:=w2) (acc:=acc) hl0 hLd (hup.trans u2) (Y:=Y) (by omega) gY2 (v17:=x28) (v2:=v2) hr2 hv (F:=F) (famMono hF (fun x y h=>h) fun _ h=>zI_more h) hFn Q _ ?_ ?_ ?_ hQ
    ·rcases List.mem_append.1 hx with e | e
     ·exact hpb x e
     ·rw [List.mem_singleton.1 e]; omega
    ·simp [t7]
    ·simp [t16]
    ·simp
   ·have hlt':¬ (pods.length:Int) < 200:=by omega
    simp [mc7_r3,t1,t2,ra,r3,hz0,hz1,hlp,hlt,hlt']
    refine tail7d m h hM (b:=b) (c:=c) hb hc hpn hpb (w0:=w0) (w:=w) (acc:=acc) hl0 hLd hup (Y:=Y) hY gY (v17:=pu) (v2:=v2) (hp.up hup) hv (F:=F) hF hFn Q _ ?_ ?_ ?_ hQ
    ·simp [t7]
    ·simp [t16]
    ·simp [t17]
theorem tail7a (m:Nat) (h:Has7 ov) {M:Nat} (hM:1≤M∧M≤100) {b c:Int} (hb:0≤b∧b≤400) (hc:0≤c∧c≤20) {pods bits:List Int} (hpn:pods.length≤200) (hpb:∀ z ∈ pods,1≤z∧z≤400) (hbl:bits.length≤2 ^ 60) {pu ub v2:Value} {acc:List El} {L:List Pd} (hLp:L.Perm (zI pods pods.length)) (hLs:Srt (fun x y=>pdK x y < 0) L 0 L.length) (hrun:acc.map (fun e=>e.2.2)=runG M (bunB b c) (L.length + 1) L) {w:AW} (hl:w.lim≤w.next) (hLd:LaidW w) {X:Nat} (hX:X < w.next) (gX:w.heap.get X=some (.cells [.int .i64 (M:Int),.int .i64 b,.int .i64 c] 32 false)) (hp:RowsV intC w pu pods) (hbt:RowsV intC w ub bits) (hv:RowsV elC w v2 acc)
  (Q:Ex→Tm→AW→Prop) (t:Tm) (t1:tget t 1=pu) (t2:tget t 2=ub) (t3:tget t 3=.pointer (some ⟨X,0,none⟩)) (t7:tget t 7=v2) (hQ:∀ t w,tget t 6=.bool true→Q .ret t w):wp (exM Tryz.prog (run Tryz.prog ov (m + 210)) mc7_r1 t w) Q:=by
 have hs:=srt_le hLs
 have hnd:L.Nodup:=hLp.nodup_iff.2 (zI_nodup pods)
 have ra:=run26 h.o26 h.o20 (m + 208) ub bits hbl 0 w hbt
 obtain ⟨_,w2,c27,F,rfl,hF,u2⟩:=call27 (m + 208) h.o27 h.o20 M hM b c (nthJ bits 0) hc pu pods hpn hpb w hl hp
 have hle:F.length≤acc.length:=by
  have:=bun_best hM.1 hs hnd (famMono hF.fam (fun _ _ h=>h) fun x hx=>hLp.mem_iff.2 hx)
  rw [← hrun,List.length_map,List.length_map] at this
  exact this
 have hng:¬ (acc.length:Int) < (F.length:Int):=by omega
 have hng':¬ acc.length < F.length:=by omega
 have hln:=fun w'=>len34V (w':=w') hv
 have huj:notJunk pu=some pu:=by obtain ⟨x,y,rfl⟩:=hp.len; rfl
 simp only [ruleC] at c27
 have hsame:sameVal 5 (.agg ⟨[.int .i64 (M:Int),.int .i64 b,.int .i64 c]⟩) (.agg ⟨[.int .i64 (M:Int),.int .i64 b,.int .i64 c]⟩)=true:=same_agg _ (by
  intro v hv
  simp at hv
  rcases hv with rfl | rfl | rfl <;> exact sameN_int 3 .i64 _)
 simp [mc7_r1,t1,t2,t3,t7,gX,huj,ra,c27,hln,hsame,hng,hng']
 have hn:=u2.next
 have hlm:=u2.lim
 have gX2:=(u2.at hX).trans gX
 have hlw:w2.lim≤w2.next:=by omega
 obtain ⟨w3,hw3⟩:∃ w3:AW,w3=⟨(w2.heap.put w2.next (some (.cells [.int .i64 0,.int .i64 0,.int .i64 0] 32 false))).put w2.next (some (.cells [.int .i64 (M:Int),.int .i64 b,.int .i64 c] 32 false)),w2.next + 1,w2.lim⟩:=⟨_,rfl⟩
 have u3:Up w2 w3:=⟨fun x hx=>by rw [hw3]; show ((w2.heap.put _ _).put _ _).get x=_; rw [get_put,if_neg (by omega),get_put,if_neg (by omega)],by rw [hw3]; exact Nat.le_succ _,by rw [hw3]⟩
 have n3:w3.next=w2.next + 1:=by rw [hw3]
 have gY:w3.heap.get w2.next=some (.cells [.int .i64 (M:Int),.int .i64 b,.int .i64 c] 32 false):=by rw [hw3]; show ((w2.heap.put _ _).put _ _).get _=_; rw [get_put,if_pos rfl]
 have gX3:=(u3.at (show X < w2.next by omega)).trans gX2
 have hF0:Fam M (nearP M b c) (zI pods pods.length) (acc.map fun e=>e.2.2):=by
  rw [hrun]
  exact famMono (fam_run hs hnd _) (fun _ _ h=>h) fun x hx=>hLp.mem_iff.1 hx
 simp [mc7_r2,t1,t3,gX2,huj,hlw,cellsOf_agg]
 subst hw3
 refine tail7c m h hM hb hc hpn hpb hbl (w0:=w2) (by omega) (hLd.up u2) u3 (X:=X) (Y:=w2.next) (by omega) gX3 (Nat.le_refl _) (by rw [n3]; exact Nat.lt_succ_self _) gY (hp.up u2) (hbt.up u2) (hv.up u2) hF0 (List.length_map _).symm Q _ ?_ ?_ ?_ ?_ ?_ ?_ hQ
 ·simp [t1]
 ·simp [t2]
 ·simp [t3]
 ·simp [t7]
 ·simp
 ·simp
theorem run7 (m:Nat) (ho:∀ args w,ov 7 args w=none) (h:Has7 ov) (a b c:Int) (u ub:Value) (pods bits:List Int) (w:AW) (hl:w.lim≤w.next) (hL:LaidW w) (hu:RowsV intC w u pods) (hbt:RowsV intC w ub bits) (hbl:bits.length≤2 ^ 60) :
  ∃ x w',(run Tryz.prog ov (m + 211)).call 7 [.agg ⟨ruleC a b c⟩,u,ub] w .none=.ok (.ret x) w' .none∧x=.bool true:=by
 refine call_wp text7 (by simp) (ho _ _) ?_
 obtain ⟨w1,hw1⟩:∃ w1:AW,w1=⟨w.heap.put w.next (some (.cells (ruleC a b c) 32 false)),w.next + 1,w.lim⟩:=⟨_,rfl⟩
 have u1:Up w w1:=by rw [hw1]; exact (Up.refl w).add _
 have n1:w1.next=w.next + 1:=by rw [hw1]
 have l1:w1.lim=w.lim:=by rw [hw1]
 have g1:w1.heap.get w.next=some (.cells [.int .i64 a,.int .i64 b,.int .i64 c] 32 false):=by rw [hw1]; show (w.heap.put _ _).get _=_; rw [get_put,if_pos rfl]; rfl
 have huj:notJunk u=some u:=by obtain ⟨x,y,rfl⟩:=hu.len; rfl
 obtain ⟨_,w2,c16,v1,acc,rfl,hra,hyes,hno,hok1,u2⟩:=call16 m h.h4 a b c u pods w1 (by omega) (hu.up u1)
 have u12:=u1.trans u2
 have hu2:=hu.up u12
 have hb2:=hbt.up u12
 have g2:w2.heap.get w.next=some (.cells [.int .i64 a,.int .i64 b,.int .i64 c] 32 false):=(u2.at (by omega)).trans g1
 have hl2:w2.lim≤w2.next:=by have:=u2.next; have:=u2.lim; omega
 have hlen:=fun w'=>len34V (w':=w') hra
 have hlp:=fun w'=>len33V (w':=w') hu
 simp only [ruleC] at c16 hw1
 cases hok:(ruleB a b c && podsOk pods) with
 | false =>
  have hp:podE a b c pods=81:=by unfold podE; rw [hok]; rfl
  rw [hp] at c16
  rw [hno hok] at hlen
  have r15:=ruleQ h.h4.hq (hL.up u12) (m + 209)
  subst hw1
  simp [mc7_eq,ruleC,huj,c16,hok1,hlen,r15,tupV]
 | true =>
  have hp:podE a b c pods=0:=by unfold podE; rw [hok]; rfl
  rw [hp] at c16
  obtain ⟨hr,hk⟩:=Bool.and_eq_true_iff.1 hok
  obtain ⟨⟨a1,a2⟩,hb,hc⟩:=rule_all hr
  obtain ⟨p1,p2⟩:=pods_all hk
  obtain ⟨M,L,hM,hMb,hLp,hLs,hrun,hae⟩:=hyes hok
  have hLn:L.length=pods.length:=by rw [hLp.length_eq,zI_len]
  have hal:acc.length=(runG M (bunB b c) (L.length + 1) L).length:=by rw [← hrun,List.length_map]
  have hal2:acc.length≤200:=by rw [hal]; have:=runG_len (ok:=bunB b c) hMb.1 (L.length + 1) L; omega
  have hS:=sort_ok hLp hLs hrun (fun e he=>(hae e he).2) p1
  have hAB:=row_ab hLp hLs hrun fun e he=>(hae e he).2
  have r23:=fun w=>run23 h.h4.o23 (m + 209) a 1 100 w
  rw [hM] at g2
  have hpl:¬ (200:Int) < (pods.length:Int):=by omega
  have hpl':¬ 200 < pods.length:=by omega
  have r23':(decide (1≤a) && decide (a≤100))=true:=by simp [a1,a2]
  rw [r23'] at r23
  have g2':=g2
  rw [← hM] at g2'
  subst hw1
  simp [mc7_eq,ruleC,huj,c16,hok1,hlp,hpl,hpl',g2',r23]
  refine wp_seqX (wp_blockX (loop7a (m + 208) h.h4.o25 h.h4.o24 h.h4.o23 h.o26 h.o20 hb hc p1 p2 hl2 (by have:=u2.next; omega) g2 hMb.2 hu2 hb2 hbl hra rfl hS hal2 (fun e he=>(hae e he).1) hAB _ _ ?_ ?_ ?_ ?_ ?_ ?_ ?_))
  ·simp
  ·simp
  ·simp
  ·simp
  ·simp
  ·simp
  ·intro t w3 u3 s1 s2 s3 s7
   have n3:=u3.next
   have m3:=u3.lim
   have g3:=(u3.at (show w.next < w2.next by have:=u2.next; omega)).trans g2
   exact tail7a m h hMb hb hc p1 p2 hbl hLp hLs hrun (by omega) ((hL.up u12).up u3) (by have:=u2.next; omega) g3 (hu2.up u3) (hb2.up u3) (hra.up u3) _ t s1 s2 s3 s7 fun t w s6=>by simp [s6,tupV]
end
set_option maxRecDepth 1000000 in
theorem works_true:resIs (.bool true) ((run Tryz.prog noOv 1000).call 15 [] (startA 9 laidL) .none)=true:=by kernel_rfl
theorem mixed:Tryz.prog.follows .mixedOrders=true:=by kernel_rfl
theorem globals9:Tryz.prog.globals.size=9:=by kernel_rfl
theorem no_count:NoCount Tryz.prog:=NoCount.of (by kernel_rfl)
noncomputable def oW:Ov:=memoOv 15 [] laidL (.bool true) noOv
theorem okW':OvOk Tryz.prog oW:=memo_ok no_count mixed ov_none works_true (by kernel_rfl) (by kernel_rfl) (by rw [globals9]; exact Nat.le_refl _) (by kernel_rfl) ov_none
theorem oW_none {f:Nat} (hf:f ≠ 15) (args:List Value) (w:AW):oW f args w=none:=by
 have:Nat.beq f 15=false:=by rw [← Bool.not_eq_true]; intro h; exact hf (Nat.eq_of_beq_eq_true h)
 simp [oW,memoOv,this,noOv]
theorem oW_has:HasQ oW:=fun w hw=>by
 simp [oW,memoOv,hw,sameL5,sameVal.sameVals]
theorem HasQ.skip {f:Nat} {F:PureF} {rest:Ov} (hf:15 ≠ f) (h:HasQ rest):HasQ (ovP f F rest):=fun w hw=>by simp [ovP,hf,h w hw]
theorem ovP_none {f g:Nat} {F:PureF} {rest:Ov} (hne:g ≠ f) (h:∀ args w,rest g args w=none) (args:List Value) (w:AW):ovP f F rest g args w=none:=by simp [ovP,hne,h]
noncomputable def ovL:List (Nat × PureF)→Ov
 | []=>oW
 | x::l=>ovP x.1 x.2 (ovL l)
def keyB (g:Nat):List (Nat × PureF)→Bool
 | []=>Nat.beq g 15
 | x::l=>Nat.beq g x.1 || keyB g l
def lookF (g:Nat):List (Nat × PureF)→Option PureF
 | []=>none
 | x::l=>bif Nat.beq g x.1 then some x.2 else lookF g l
theorem beq_no {a b:Nat} (h:Nat.beq a b=false):a ≠ b:=fun e=>by rw [e,Nat.beq_refl] at h; cases h
theorem chN {g:Nat}:∀ {l:List (Nat × PureF)},keyB g l=false→∀ args w,ovL l g args w=none
 | [],h=>oW_none (beq_no h)
 | x::l,h=>by
  simp only [keyB,Bool.or_eq_false_iff] at h
  exact ovP_none (beq_no h.1) (chN h.2)
theorem chH {g:Nat} {F:PureF}:∀ {l:List (Nat × PureF)},lookF g l=some F→HasP (ovL l) g F
 | [],h=>by cases h
 | x::l,h=>by
  simp only [lookF] at h
  cases hb:Nat.beq g x.1 with
  | true =>
   rw [hb] at h
   cases h
   have e:=Nat.eq_of_beq_eq_true hb
   subst e
   exact .here
  | false =>
   rw [hb] at h
   exact HasP.skip (beq_no hb) (chH h)
def memB (g:Nat):List (Nat × PureF)→Bool
 | []=>false
 | x::l=>Nat.beq g x.1 || memB g l
theorem chW:∀ {l:List (Nat × PureF)},memB 15 l=false→HasQ (ovL l)
 | [],_=>oW_has
 | x::l,h=>by
  simp only [memB,Bool.or_eq_false_iff] at h
  exact HasQ.skip (beq_no h.1) (chW h.2)
noncomputable def cl159:List (Nat × PureF):=(159,S159.F)::[]
noncomputable def o159:Ov:=ovL cl159
theorem ok159:OvOk Tryz.prog (ovP 159 S159.F (ovL [])):=S159.ok no_count mixed okW' fun args w v hl h=>by
 obtain ⟨a,b,rfl,rfl⟩:=h
 obtain ⟨v',w',hc,e⟩:=run159 (ov:=(ovL [])) (chN rfl) (chN rfl) a b w
 exact ⟨rfl,3,v',w',_,hc,e⟩
noncomputable def cl80:List (Nat × PureF):=(80,S80.F)::cl159
noncomputable def o80:Ov:=ovL cl80
theorem ok80:OvOk Tryz.prog (ovP 80 S80.F o159):=S80.ok no_count mixed ok159 fun args w v hl h=>by
 obtain ⟨p,q,rfl,rfl⟩:=h
 obtain ⟨v',w',hc,e⟩:=run80 (ov:=o159) (chN rfl) (chN rfl) (chN rfl) (chN rfl) p q w hl
 exact ⟨rfl,4,v',w',_,hc,e⟩
noncomputable def cl53:List (Nat × PureF):=(53,S53.F)::cl80
noncomputable def o53:Ov:=ovL cl53
theorem ok53:OvOk Tryz.prog (ovP 53 S53.F o80):=S53.ok no_count mixed ok80 fun args w v hl h=>by
 obtain ⟨a,b,c,rfl,rfl⟩:=h
 obtain ⟨v',w',hc,e⟩:=run53 (ov:=o80) (chN rfl) (chN rfl) a b c w hl
 exact ⟨rfl,2,v',w',_,hc,e⟩
noncomputable def cl77:List (Nat × PureF):=(77,S77.F)::cl53
noncomputable def o77:Ov:=ovL cl77
theorem ok77:OvOk Tryz.prog (ovP 77 S77.F o53):=S77.ok no_count mixed ok53 fun args w v hl h=>by
 obtain ⟨a,b,c,u,l,rfl,hu,hne,⟨hll,hb,h1,h2⟩,rfl⟩:=h
 obtain ⟨v',w',hc,e⟩:=run77 (ov:=o53) (chN rfl) a b c u l w hl hu hne hll hb ⟨h1,h2⟩
 exact ⟨rfl,2,v',w',_,hc,e⟩
theorem topI:OsI o77:=⟨chN rfl,chN rfl,chN rfl,chN rfl,chN rfl,chN rfl,chN rfl,chN rfl,chN rfl,chN rfl,chN rfl,chN rfl,chN rfl,chN rfl,chN rfl,chN rfl,chN rfl⟩
theorem topD:OsD o77:=⟨chN rfl,chN rfl,chN rfl,chN rfl,chN rfl,chN rfl,chN rfl,chN rfl,chN rfl,chN rfl,chN rfl,chN rfl,chN rfl,chN rfl,chN rfl,chN rfl,chN rfl⟩
theorem top55:Has55 o77:=⟨chN rfl,chN rfl,chN rfl,chN rfl,chN rfl,topI,topD,chH rfl,chH rfl,chH rfl⟩
theorem topHas4:Has4 o77:=⟨top55,chN rfl,chN rfl,chN rfl,chN rfl,chN rfl,chN rfl,chN rfl,chN rfl,chN rfl,chN rfl,chH rfl,chW rfl⟩
theorem topHas7:Has7 o77:=⟨topHas4,chN rfl,chN rfl,chN rfl,chN rfl⟩
open Go Go.Sh Go.ChangeShapes
theorem start0:(startH laidL).get 0=some (.cells (signL.map fun z=>Value.int .u8 z) 96 true):=by
 show ((((startH []).put 3 (some (.cells [unk] 119 true))).put 1 (some (.cells (pow10.map fun z=>Value.int .u64 z) 225 true))).put 0 (some (.cells (signL.map fun z=>Value.int .u8 z) 96 true))).get 0=_
 rw [get_put,if_pos rfl]
theorem start1:(startH laidL).get 1=some (.cells (pow10.map fun z=>Value.int .u64 z) 225 true):=by
 show ((((startH []).put 3 (some (.cells [unk] 119 true))).put 1 (some (.cells (pow10.map fun z=>Value.int .u64 z) 225 true))).put 0 (some (.cells (signL.map fun z=>Value.int .u8 z) 96 true))).get 1=_
 rw [get_put,if_neg (by decide),get_put,if_pos rfl]
theorem start3:(startH laidL).get 3=some (.cells [unk] 119 true):=by
 show ((((startH []).put 3 (some (.cells [unk] 119 true))).put 1 (some (.cells (pow10.map fun z=>Value.int .u64 z) 225 true))).put 0 (some (.cells (signL.map fun z=>Value.int .u8 z) 96 true))).get 3=_
 rw [get_put,if_neg (by decide),get_put,if_neg (by decide),get_put,if_pos rfl]
theorem ty32:tyOk Tryz.prog 6 32=true:=by kernel_rfl
theorem ty33:tyOk Tryz.prog 6 33=true:=by kernel_rfl
theorem u3:Tryz.prog.underlying 3=some (.int .i64):=by kernel_rfl
theorem u32:Tryz.prog.underlying 32=some (.struct (fieldsOf Tryz.prog 32)):=by kernel_rfl
theorem u33:Tryz.prog.underlying 33=some (.slice 3):=by kernel_rfl
theorem f32:(fieldsOf Tryz.prog 32).toList.map (fun f=>(f.type,f.offset))=[(3,0),(3,1),(3,2)]:=by kernel_rfl
theorem c3:Tryz.prog.cellsOf 3=1:=by kernel_rfl
theorem c32:Tryz.prog.cellsOf 32=3:=by kernel_rfl
theorem rule_arg {A:AW} {m:Value} (h:ArgT Tryz.prog A.heap A.next 32 m):∃ a b c:Int,m=.agg ⟨ruleC a b c⟩:=by
 unfold ArgT at h
 rw [u32] at h
 obtain ⟨c,rfl,h⟩:=h
 obtain ⟨hl,hf⟩:=h.toStruct u32
 rw [f32] at hf
 rw [c32] at hl
 obtain ⟨a,ha,_⟩:=(hf (3,0) (by simp)).toInt u3
 obtain ⟨b,hb,_⟩:=(hf (3,1) (by simp)).toInt u3
 obtain ⟨d,hd,_⟩:=(hf (3,2) (by simp)).toInt u3
 rw [c3] at ha hb hd
 match c,hl with
 | [x0,x1,x2],_ =>
  simp at ha hb hd
  exact ⟨a,b,d,by rw [ha,hb,hd]; rfl⟩
theorem ints_arg {A:AW} {m:Value} (h:ArgT Tryz.prog A.heap A.next 33 m):∃ l,RowsV intC A m l:=by
 unfold ArgT at h
 rw [u33] at h
 obtain ⟨v,l,hv,hr⟩:=rows_of_WT (lim:=A.lim) u33 c3 intC_length (fun cs h=>by
  obtain ⟨z,hz,_⟩:=h.toInt u3
  exact ⟨z,hz⟩) h
 cases hv
 exact ⟨l,hr⟩
theorem by3:Tryz.prog.bytesOf 3=8:=by kernel_rfl
theorem start_true (A:AW) (ms:List Value) (hl:A.lim=A.next) (hG:Tryz.prog.globals.size≤A.next) (hs:∀ b,b < Tryz.prog.globals.size→A.heap.get b=(startH laidL).get b) (hms:ArgsT Tryz.prog A.heap A.next [32,33,33] ms) (hz:∀ (j:Nat) t e a k c,([32,33,33]:List TypeId)[j]?=some t→Tryz.prog.underlying t=some (.slice e)→ms[j]?=some (.slice a k c)→k * Tryz.prog.bytesOf e≤reachBytes) :
  ∃ A' x',(run Tryz.prog o77 211).call 7 ms A .none=.ok (.ret (.bool true)) A' x':=by
 rw [globals9] at hG hs
 match ms,hms with
 | [m,u,v],hm =>
  obtain ⟨a,b,c,rfl⟩:=rule_arg hm.1
  obtain ⟨pods,hu⟩:=ints_arg hm.2.1
  obtain ⟨bits,hb⟩:=ints_arg hm.2.2.1
  obtain ⟨xa,xc,hv⟩:=hb.len
  have hbl:bits.length≤2 ^ 60:=by
   have h:=hz 2 33 3 xa bits.length xc rfl u33 (by rw [hv]; rfl)
   rw [by3] at h
   have e:reachBytes≤2 ^ 60:=by decide
   omega
  obtain ⟨_,w',hc,rfl⟩:=run7 0 (chN rfl) topHas7 a b c u v pods bits A (Nat.le_of_eq hl) ⟨⟨true,by rw [hs 0 (by decide),start0]⟩,⟨true,by rw [hs 1 (by decide),start1]⟩,⟨true,by rw [hs 3 (by decide),start3]⟩,hG⟩ hu hb hbl
  exact ⟨w',_,hc⟩
end Go.Proofs.YthihnhgdbfcabaaGreatDoor.walk
