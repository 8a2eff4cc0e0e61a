/- Part of a proof: see the text with the theorem. -/
import Derived.Test.YtnjknghdpobcmaaGreatDoorZDb
set_option linter.all false
namespace Go.Proofs.YtnjknghdpobcmaaGreatDoor.walk
open Go Go.Sh
set_option maxRecDepth 100000
abbrev S73:PSpec:=S99
abbrev S62:PSpec:=S89
set_option maxHeartbeats 2000000 in
theorem run62 {ov:Ov} (ho:∀ args w,ov 62 args w=none) (h73:HasP ov 73 S73.F) (h49:HasP ov 49 S49.F) (n:Nt) (w:AW):∃ v w',(run Tryz.prog ov 2).call 62 [.agg ⟨ntC n⟩] w .none=.ok (.ret v) w' .none∧v=.bool (noteB n):=by
 refine call_wp text62 (by simp) (ho _ _) ?_
 obtain ⟨k,by_,seq,to_,claim,from_,until_,depth,of_⟩:=n
 have r73:∀ (s:Bs) (w:AW),(run Tryz.prog ov 1).call 73 [.string ⟨⟨s⟩⟩] w .none=.ok (.ret (.bool (wordB s))) w .none:=fun s w=>S73.call1 h73 ⟨⟨⟨s⟩⟩,rfl,rfl⟩
 have r49:=fun n a b w=>rule49 h49 n a b w
 cases c1:wordB by_ with
 | false=>simp [mc62,ntC,r73,c1,noteB,tupV]
 | true =>
  cases c2:inI 1 seq 1000 with
  | false=>simp [mc62,ntC,r73,r49,c1,c2,noteB,tupV]
  | true =>
   cases c3:inI 0 from_ 30000 with
   | false=>simp [mc62,ntC,r73,r49,c1,c2,c3,noteB,tupV]
   | true =>
    by_cases k1:k=1
    ·subst k1
     cases c4:wordB to_ with
     | false=>simp [mc62,ntC,r73,r49,c1,c2,c3,c4,noteB,tupV]
     | true =>
      by_cases c6:to_=by_
      ·simp [mc62,ntC,r73,r49,c1,c2,c3,c4,c6,eq_str,noteB,tupV]
       try (rw [c6] at c4; simp [c4])
      ·cases c5:wordB claim with
       | false=>simp [mc62,ntC,r73,r49,c1,c2,c3,c4,c5,c6,eq_str,noteB,tupV]
       | true =>
        cases c7:inI from_ until_ 30000 with
        | false=>simp [mc62,ntC,r73,r49,c1,c2,c3,c4,c5,c6,c7,eq_str,noteB,tupV]
        | true =>
         cases c8:inI 0 depth 5 with
         | false=>simp [mc62,ntC,r73,r49,c1,c2,c3,c4,c5,c6,c7,c8,eq_str,noteB,tupV]
         | true=>simp [mc62,ntC,r73,r49,c1,c2,c3,c4,c5,c6,c7,c8,eq_str,noteB,tupV]
    ·by_cases k2:k=2
     ·subst k2
      cases c4:inI 1 of_ 1000 with
      | false=>simp [mc62,ntC,r73,r49,c1,c2,c3,c4,eq_str,noteB,tupV]
      | true =>
       by_cases c5:to_=[]
       ·by_cases c6:claim=[]
        ·by_cases c7:until_=0
         ·simp [mc62,ntC,r73,r49,c1,c2,c3,c4,c5,c6,c7,eq_str,noteB,tupV]
         ·simp [mc62,ntC,r73,r49,c1,c2,c3,c4,c5,c6,c7,eq_str,noteB,tupV]
        ·simp [mc62,ntC,r73,r49,c1,c2,c3,c4,c5,c6,eq_str,noteB,tupV]
       ·simp [mc62,ntC,r73,r49,c1,c2,c3,c4,c5,eq_str,noteB,tupV]
     ·simp [mc62,ntC,r73,r49,c1,c2,c3,k1,k2,noteB,tupV]
abbrev S18:PSpec:=S17
def chB (L:List Nt) (r:Nat):Bool:=decide (L.length≤40) && (L.take r).all noteB
theorem run18 {ov:Ov} (ho:∀ args w,ov 18 args w=none) (h62:HasP ov 62 S62.F) (u:Value) (L:List Nt) (w:AW) (hv:RowsV ntC w u L):∃ v w',(run Tryz.prog ov 2).call 18 [u] w .none=.ok (.ret v) w' .none∧v=.int .i64 (ckE L):=by
 refine call_wp text18 (by simp) (ho _ _) ?_
 have hl:=fun w'=>len22V (w':=w') hv
 have e40:decide ((L.length:Int)≤40)=decide (L.length≤40):=by
  by_cases h:L.length≤40
  ·rw [decide_eq_true h,decide_eq_true (by omega)]
  ·rw [decide_eq_false h,decide_eq_false (by omega)]
 simp [mc18,hl]
 refine wp_seqX (wp_blockX (wp_rounds (fun r t w'=>w'=w∧r≤100∧tget t 0=u∧tget t 3=.bool (chB L r)∧tget t 4=.int .i64 (r:Nat)) 200 (by decide) ⟨rfl,by omega,by simp,by simp [chB,e40],by simp⟩ ?_))
 rintro r t w1 ⟨hw,hr,t0,t3,t4⟩
 rw [hw]
 clear hw w1
 obtain ⟨zr,hzr⟩:∃ z:Int,z=(r:Int):=⟨_,rfl⟩
 obtain ⟨zl,hzl⟩:∃ z:Int,z=(L.length:Int):=⟨_,rfl⟩
 rw [← hzr] at t4
 have hl:=fun w'=>hl w'
 rw [← hzl] at hl
 cases hc:chB L r with
 | false =>
  rw [hc] at t3
  have h2:notesB L=false:=by
   unfold chB at hc
   unfold notesB
   cases h40:decide (L.length≤40) with
   | false=>rfl
   | true =>
    rw [h40,Bool.true_and] at hc
    rw [Bool.true_and]
    rw [← Bool.not_eq_true] at hc ⊢
    intro h
    exact hc (List.all_eq_true.2 fun x hx=>List.all_eq_true.1 h x (List.mem_of_mem_take hx))
  simp [mc18_l0,t0,t3,t4,tupV,ckE,h2]
 | true =>
  rw [hc] at t3
  have hc':=hc
  unfold chB at hc'
  simp only [Bool.and_eq_true,decide_eq_true_eq] at hc'
  by_cases hlt:r < L.length
  ·have hlt':zr < zl:=by omega
   obtain ⟨b,hb⟩:=at_get (L:=L) (i:=r) hlt
   obtain ⟨bl,off,sq,cc,rfl,hra⟩:=hv.at_ r hlt
   have hld:=hra.rd (m:=9) ntC_length hb
   have hia:=fun w=>ia22 w ⟨bl,off,sq⟩ L.length cc .i64 r hlt
   rw [← hzr] at hia
   have r62:=fun w=>S62.call1 (P:=Tryz.prog) h62 (args:=[.agg ⟨ntC b⟩]) (w:=w) ⟨b,rfl,rfl⟩
   have hw:IntKind.wrap .i64 (zr + 1)=((r + 1:Nat):Int):=by rw [w6i (by omega) (by omega)]; omega
   have e:chB L (r + 1)=noteB b:=by
    unfold chB
    rw [all_take hb,hc'.2,decide_eq_true hc'.1]; simp
   obtain ⟨cb,hcb⟩:∃ cb,cb=ntC b:=⟨_,rfl⟩
   rw [← hcb] at hld r62
   simp [mc18_l0,t0,t3,t4,hl,hlt',hia,hld,r62,hw,e]
   try omega
  ·have hge:¬ zr < zl:=by omega
   have h2:notesB L=true:=by
    unfold notesB
    rw [decide_eq_true hc'.1,Bool.true_and]
    have:=hc'.2
    rw [List.take_of_length_le (by omega)] at this
    exact this
   simp [mc18_l0,t0,t3,t4,hl,hge,tupV,ckE,h2]
def c4:Nt→Nt→Int:=lexC (fun a b=>cmpI a.from_ b.from_) (lexC (fun a b=>cmpI a.until_ b.until_) (lexC (fun a b=>cmpI a.depth b.depth) (fun a b=>cmpI a.of_ b.of_)))
theorem cmpI_ne {a b:Int} (h:a ≠ b):cmpI a b ≠ 0:=fun e=>h (cmpI_eq.1 e)
theorem cmpI_lt {a b:Int}:decide (cmpI a b < 0)=decide (a < b):=by
 unfold cmpI
 by_cases h:a < b
 ·simp [h]
 ·by_cases h2:b < a
  ·simp [h,h2]
  ·simp [h,h2]
theorem cmpI_self (a:Int):cmpI a a=0:=cmpI_eq.2 rfl
theorem call88 {ov:Ov} (m:Nat) (ho:∀ args w,ov 88 args w=none) (a b:Nt) (p q:Nat) (w:AW)
  (hp:w.heap.get p=some (.cells [.int .i64 a.from_,.int .i64 a.until_,.int .i64 a.depth,.int .i64 a.of_] 3 false)) (hq:w.heap.get q=some (.cells [.int .i64 b.from_,.int .i64 b.until_,.int .i64 b.depth,.int .i64 b.of_] 3 false)) :
  ∃ x w',(run Tryz.prog ov (m + 1)).call 88 [.slice (some ⟨p,0,some 2⟩) 4 4,.slice (some ⟨q,0,some 2⟩) 4 4] w .none=.ok (.ret x) w' .none∧x=.bool (decide (c4 a b < 0)):=by
 refine call_wp text88 (by simp) (ho _ _) ?_
 simp [mc88]
 have hmin:=fun (ts:Array TypeId) (ty:TypeId)=>least2 (P:=Tryz.prog) ts ty .i64 4 4 w
 simp at hmin
 refine wp_seqX (wp_blockX (wp_rounds (fun r t w'=>w'=w∧r≤4∧tget t 0=.slice (some ⟨p,0,some 2⟩) 4 4∧tget t 1=.slice (some ⟨q,0,some 2⟩) 4 4∧tget t 5=.int .i64 (r:Nat)∧(1≤r→a.from_=b.from_)∧(2≤r→a.until_=b.until_)∧(3≤r→a.depth=b.depth)∧(4≤r→a.of_=b.of_)) 8 (by decide) (by simp) ?_))
 rintro r t w1 ⟨hw,hr,t0,t1,t5,h1,h2,h3,h4⟩
 rw [hw]
 clear hw w1
 have k1:IntKind.wrap .i64 1=1:=by decide
 have k2:IntKind.wrap .i64 2=2:=by decide
 have k3:IntKind.wrap .i64 3=3:=by decide
 have k4:IntKind.wrap .i64 4=4:=by decide
 have i0:=fun B=>indexAddr_slice (P:=Tryz.prog) (w:=w) (s:=43) (e:=3) (sz:=1) (by kernel_rfl) (by kernel_rfl) ⟨B,0,some 2⟩ 4 4 .i64 0 (by decide)
 have i1:=fun B=>indexAddr_slice (P:=Tryz.prog) (w:=w) (s:=43) (e:=3) (sz:=1) (by kernel_rfl) (by kernel_rfl) ⟨B,0,some 2⟩ 4 4 .i64 1 (by decide)
 have i2:=fun B=>indexAddr_slice (P:=Tryz.prog) (w:=w) (s:=43) (e:=3) (sz:=1) (by kernel_rfl) (by kernel_rfl) ⟨B,0,some 2⟩ 4 4 .i64 2 (by decide)
 have i3:=fun B=>indexAddr_slice (P:=Tryz.prog) (w:=w) (s:=43) (e:=3) (sz:=1) (by kernel_rfl) (by kernel_rfl) ⟨B,0,some 2⟩ 4 4 .i64 3 (by decide)
 simp at i0 i1 i2 i3
 match r,hr with
 | 0,_ =>
  simp at t5
  by_cases e:a.from_=b.from_
  ·simp [mc88_l0,t0,t1,t5,hmin,i0,hp,hq,e,k1]
  ·simp [mc88_l0,t0,t1,t5,hmin,i0,hp,hq,e,tupV,c4,lexC,cmpI_ne e,cmpI_lt]
 | 1,_ =>
  simp at t5
  have e1:=h1 (by decide)
  by_cases e:a.until_=b.until_
  ·simp [mc88_l0,t0,t1,t5,hmin,i1,hp,hq,e,k2,e1]
  ·simp [mc88_l0,t0,t1,t5,hmin,i1,hp,hq,e,tupV,c4,lexC,cmpI_ne e,cmpI_lt,e1,cmpI_self]
 | 2,_ =>
  simp at t5
  have e1:=h1 (by decide)
  have e2:=h2 (by decide)
  by_cases e:a.depth=b.depth
  ·simp [mc88_l0,t0,t1,t5,hmin,i2,hp,hq,e,k3,e1,e2]
  ·simp [mc88_l0,t0,t1,t5,hmin,i2,hp,hq,e,tupV,c4,lexC,cmpI_ne e,cmpI_lt,e1,e2,cmpI_self]
 | 3,_ =>
  simp at t5
  have e1:=h1 (by decide)
  have e2:=h2 (by decide)
  have e3:=h3 (by decide)
  by_cases e:a.of_=b.of_
  ·simp [mc88_l0,t0,t1,t5,hmin,i3,hp,hq,e,k4,e1,e2,e3]
  ·simp [mc88_l0,t0,t1,t5,hmin,i3,hp,hq,e,tupV,c4,lexC,cmpI_ne e,cmpI_lt,e1,e2,e3,cmpI_self]
 | 4,_ =>
  simp at t5
  have e1:=h1 (by decide)
  have e2:=h2 (by decide)
  have e3:=h3 (by decide)
  have e4:=h4 (by decide)
  simp [mc88_l0,t0,t1,t5,hmin,tupV,c4,lexC,e1,e2,e3,e4,cmpI_self]
 | r + 5,h=>omega
def S46:PSpec where
 R args _ v:=∃ a b:Nt,args=[.agg ⟨ntC a⟩,.agg ⟨ntC b⟩]∧v=.bool (decide (cmpN a b < 0))
 uniq:=by rintro _ _ _ _ ⟨a,b,rfl,rfl⟩ ⟨a',b',h,rfl⟩; obtain ⟨rfl,rfl⟩:=args2 h; rfl
 shut h:=h
theorem cmpB_ne {a b:Bs} (h:a ≠ b):cmpB a b ≠ 0:=fun e=>h (cmpB_eq0.1 e)
theorem cmpB_self (a:Bs):cmpB a a=0:=cmpB_eq0.2 rfl
theorem run46 {ov:Ov} (ho:∀ args w,ov 46 args w=none) (ho2:∀ args w,ov 88 args w=none) (a b:Nt) (w:AW):∃ v w',(run Tryz.prog ov 3).call 46 [.agg ⟨ntC a⟩,.agg ⟨ntC b⟩] w .none=.ok (.ret v) w' .none∧v=.bool (decide (cmpN a b < 0)):=by
 refine call_wp text46 (by simp) (ho _ _) ?_
 have c4e:a.by_=b.by_→a.seq=b.seq→a.kind=b.kind→a.to_=b.to_→a.claim=b.claim→cmpN a b=c4 a b:=fun h1 h2 h3 h4 h5=>by
  simp [cmpN,c4,lexC,h1,h2,h3,h4,h5,cmpB_self,cmpI_self]
 by_cases h1:a.by_=b.by_
 ·by_cases h2:a.seq=b.seq
  ·by_cases h3:a.kind=b.kind
   ·by_cases h4:a.to_=b.to_
    ·by_cases h5:a.claim=b.claim
     ·rw [c4e h1 h2 h3 h4 h5]
      obtain ⟨wB,hwB⟩:∃ wB:AW,wB=⟨(((w.heap.put w.next (some (.cells (ntC a) 62 false))).put (w.next + 1) (some (.cells (ntC b) 62 false))).put (w.next + 1 + 1) (some (.cells [.int .i64 a.from_,.int .i64 a.until_,.int .i64 a.depth,.int .i64 a.of_] 3 false))).put (w.next + 1 + 1 + 1) (some (.cells [.int .i64 b.from_,.int .i64 b.until_,.int .i64 b.depth,.int .i64 b.of_] 3 false)),w.next + 1 + 1 + 1 + 1,w.lim⟩:=⟨_,rfl⟩
      obtain ⟨_,w',c1,rfl⟩:=call88 (ov:=ov) 1 ho2 a b (w.next + 1 + 1) (w.next + 1 + 1 + 1) wB (by rw [hwB]; simp) (by rw [hwB]; simp)
      rw [hwB] at c1
      simp only [ntC] at c1
      simp [mc46,ntC,eq_str,h1,h2,h3,h4,h5,c1,tupV] at *
      simp [c1,tupV]
     ·simp [mc46,ntC,eq_str,h1,h2,h3,h4,h5,tupV,cmpN,lexC,cmpB_self,cmpI_self,cmpB_ne h5]
    ·simp [mc46,ntC,eq_str,h1,h2,h3,h4,tupV,cmpN,lexC,cmpB_self,cmpI_self,cmpB_ne h4]
   ·simp [mc46,ntC,eq_str,h1,h2,h3,tupV,cmpN,lexC,cmpB_self,cmpI_self,cmpI_ne h3,cmpI_lt]
  ·simp [mc46,ntC,eq_str,h1,h2,tupV,cmpN,lexC,cmpB_self,cmpI_self,cmpI_ne h2,cmpI_lt]
 ·simp [mc46,ntC,eq_str,h1,tupV,cmpN,lexC,cmpB_ne h1]
end Go.Proofs.YtnjknghdpobcmaaGreatDoor.walk
namespace Go.Sh
open Go
section
variable {α:Type} {P:Program} {st e:TypeId} {sz:Nat} {f:α→List Value}
structure AppT (P:Program) (st e:TypeId) (sz:Nat) (f:α→List Value):Prop where
 h0:isList P st=true
 h1:elemA P st=some e
 h2:szOf P e=some sz
 h3:smallT P e=true
 hf:∀ a,(f a).length=sz
 hs:∀ a,singles (f a)=true
 hz:0 < sz
def AccL (f:α→List Value) (e:TypeId) (n0:Nat) (w:AW) (v:Value) (l:List α) (B:Nat):Prop :=
 (l=[]∧v=.slice none 0 0)∨(l=[]∧∃ b,v=.slice (some ⟨b,0,some 2⟩) 0 0)∨(l ≠ []∧v=.slice (some ⟨B,0,none⟩) l.length l.length∧w.heap.get B=some (.cells (l.flatMap f) e false)∧n0≤B∧B < w.next)
theorem AccL.keep {n0:Nat} {w w':AW} {v:Value} {l:List α} {B:Nat} (h:AccL f e n0 w v l B) (k:l ≠ []→n0≤B→B < w.next→w'.heap.get B=w.heap.get B) (hn:w.next≤w'.next):AccL f e n0 w' v l B:=by
 rcases h with h | h | ⟨h1,h2,h3,h4,h5⟩
 ·exact .inl h
 ·exact .inr (.inl h)
 ·exact .inr (.inr ⟨h1,h2,by rw [k h1 h4 h5]; exact h3,h4,by omega⟩)
theorem AccL.rows {n0:Nat} {w:AW} {v:Value} {l:List α} {B:Nat} (h:AccL f e n0 w v l B):RowsV f w v l:=by
 rcases h with ⟨h,rfl⟩ | ⟨h,b,rfl⟩ | ⟨h1,rfl,h3,h4,h5⟩
 ·exact .inl ⟨h,none,0,rfl⟩
 ·exact .inl ⟨h,_,0,rfl⟩
 ·exact .inr ⟨B,0,none,_,rfl,⟨[],[],e,false,by rw [h3,List.nil_append,List.append_nil],rfl⟩,h5⟩
theorem AccL.ok {n0:Nat} {w:AW} {v:Value} {l:List α} {B:Nat} (h:AccL f e n0 w v l B):notJunk v=some v:=by
 obtain ⟨a,c,rfl⟩:=h.rows.len
 rfl
theorem AccL.app (T:AppT P st e sz f) {n0:Nat} {w:AW} {v x:Value} {l m:List α} {B:Nat} (h:AccL f e n0 w v l B) (hx:RowsV f w x m) (hl:w.lim≤n0) (hn:n0≤w.next) (hlen:l.length + m.length≤1000) :
  ∃ v' w' B',append1 P w [st,st] [v,x]=.val v' w'∧AccL f e n0 w' v' (l++m) B'∧(∀ b,b < w.next→(l ≠ []→b ≠ B)→w'.heap.get b=w.heap.get b)∧w.next≤w'.next∧w'.lim=w.lim∧(l++m ≠ []→(l ≠ []∧B'=B)∨w.next≤B'):=by
 by_cases hm:m=[]
 ·subst hm
  obtain ⟨a,c,rfl⟩:=hx.len
  refine ⟨v,w,B,?_,by rw [List.append_nil]; exact h,fun _ _ _=>rfl,Nat.le_refl _,rfl,fun k=>.inl ⟨by simpa using k,rfl⟩⟩
  obtain ⟨a',c',rfl⟩:=h.rows.len
  exact append_none T.h0 T.h1 T.h2 T.h3 w a' a _ c c' (by omega)
 ·have hpos:0 < m.length:=List.length_pos_iff.2 hm
  obtain ⟨h5,h4⟩:=src_rows T.hf T.hz hx hm
  have hfl:(m.flatMap f).length=m.length * sz:=flat_length T.hf m
  rcases h with ⟨rfl,rfl⟩ | ⟨rfl,b,rfl⟩ | ⟨h1,rfl,h3,h6,h7⟩
  ·refine ⟨_,_,w.next,append_nil T.h0 T.h1 T.h2 T.h3 h4 h5 hfl hpos (by omega),.inr (.inr ⟨by simpa using hm,by simp,by simp,hn,Nat.lt_succ_self _⟩),fun b hb _=>?_,Nat.le_succ _,rfl,fun _=>.inr (Nat.le_refl _)⟩
   show (w.heap.put w.next _).get b=_
   rw [get_put,if_neg (by omega)]
  ·refine ⟨_,_,w.next,append_lit T.h0 T.h1 T.h2 T.h3 h4 h5 hfl hpos (by omega),.inr (.inr ⟨by simpa using hm,by simp,by simp,hn,Nat.lt_succ_self _⟩),fun b hb _=>?_,Nat.le_succ _,rfl,fun _=>.inr (Nat.le_refl _)⟩
   show (w.heap.put w.next _).get b=_
   rw [get_put,if_neg (by omega)]
  ·refine ⟨_,_,w.next,append_full T.h0 T.h1 T.h2 T.h3 (n:=l.length) h4 h5 hfl (flat_singles T.hs _) hpos (by omega) h3 (flat_length T.hf l) (by omega),.inr (.inr ⟨by simp [h1],by simp,by simp,hn,Nat.lt_succ_self _⟩),fun b hb hne=>?_,Nat.le_succ _,rfl,fun _=>.inr (Nat.le_refl _)⟩
   have:=hne h1
   show ((w.heap.put B none).put w.next _).get b=_
   rw [get_put,if_neg (by omega),get_put,if_neg (by omega)]
end
theorem insU_at {α:Type} [DecidableEq α] {c:α→α→Int} {x:α}:∀ {l:List α} {k:Nat},(∀ j,j < k→∃ y,l[j]?=some y∧c y x < 0)→(∀ y,l[k]?=some y→¬ c y x < 0)→k≤l.length→insU c x l=if l[k]?=some x then l else l.take k++x::l.drop k
 | [],k,_,_,hk=>by
  have:k=0:=by simpa using hk
  subst this
  simp [insU]
 | y::l,0,_,h2,_=>by
  have:=h2 y (by simp)
  unfold insU
  rw [if_neg this]
  by_cases e:y=x
  ·simp [e]
  ·simp [e]
 | y::l,k + 1,h1,h2,hk=>by
  obtain ⟨y',hy,hc⟩:=h1 0 (by omega)
  simp at hy
  subst hy
  unfold insU
  rw [if_pos hc,insU_at (l:=l) (k:=k) (fun j hj=>by have:=h1 (j + 1) (by omega); simpa using this) (fun z hz=>h2 z (by simpa using hz)) (by simpa using hk)]
  simp only [List.getElem?_cons_succ]
  split
  ·rfl
  ·simp
end Go.Sh
namespace Go.Proofs.YtnjknghdpobcmaaGreatDoor.walk
open Go Go.Sh
set_option maxRecDepth 100000
theorem appN:AppT Tryz.prog 22 62 9 ntC:=⟨by kernel_rfl,by kernel_rfl,by kernel_rfl,by kernel_rfl,ntC_length,ntC_singles,by decide⟩
theorem head_nil (w:AW):sliceA Tryz.prog w 22 (.slice none 0 0) none (some (.int .i64 0)) none=.val (.slice none 0 0) w:=by kernel_rfl
theorem tail_nil (w:AW):sliceA Tryz.prog w 22 (.slice none 0 0) (some (.int .i64 0)) none none=.val (.slice none 0 0) w:=by kernel_rfl
def OutL (n0:Nat) (w:AW) (v:Value) (l:List Nt) (B:Nat):Prop:=AccL ntC 62 n0 w v l B∧(l=[]→v=.slice none 0 0)
theorem OutL.head {n0:Nat} {w:AW} {v:Value} {l:List Nt} {B:Nat} (h:OutL n0 w v l B) {k:Nat} (hk:k≤l.length):∃ u,(∀ w':AW,(l ≠ []→w'.heap.get B=w.heap.get B)→sliceA Tryz.prog w' 22 v none (some (.int .i64 (k:Int))) none=.val u w')∧RowsV ntC w u (l.take k)∧sameVal 5 u u=true:=by
 by_cases hl:l=[]
 ·subst hl
  have:=h.2 rfl
  subst this
  have:k=0:=by simpa using hk
  subst this
  exact ⟨_,fun w' _=>head_nil w',.inl ⟨rfl,none,0,rfl⟩,sameN_slice 4 _ _ _⟩
 ·rcases h.1 with ⟨e,_⟩ | ⟨e,_⟩ | ⟨h1,rfl,h3,h4,h5⟩
  ·exact absurd e hl
  ·exact absurd e hl
  ·refine ⟨.slice (some ⟨B,0,none⟩) k l.length,fun w' hw=>?_,.inr ⟨B,0,none,l.length,by rw [List.length_take,Nat.min_eq_left hk],⟨[],(l.drop k).flatMap ntC,62,false,?_,rfl⟩,h5⟩,sameN_slice 4 _ _ _⟩
   ·have:=slice_head (P:=Tryz.prog) (st:=22) (e:=62) (sz:=9) (by kernel_rfl) (by kernel_rfl) (w:=w') (a:=⟨B,0,none⟩) (n:=l.length) (c:=l.length) (k:=k) (by rw [hw hl]; exact h3) hk
    simpa using this
   ·rw [h3,List.nil_append,← List.flatMap_append,List.take_append_drop]
theorem OutL.tail {n0:Nat} {w:AW} {v:Value} {l:List Nt} {B:Nat} (h:OutL n0 w v l B) {k:Nat} (hk:k≤l.length):∃ u,(∀ w':AW,(l ≠ []→w'.heap.get B=w.heap.get B)→sliceA Tryz.prog w' 22 v (some (.int .i64 (k:Int))) none none=.val u w')∧RowsV ntC w u (l.drop k)∧sameVal 5 u u=true:=by
 by_cases hl:l=[]
 ·subst hl
  have:=h.2 rfl
  subst this
  have:k=0:=by simpa using hk
  subst this
  exact ⟨_,fun w' _=>tail_nil w',.inl ⟨rfl,none,0,rfl⟩,sameN_slice 4 _ _ _⟩
 ·rcases h.1 with ⟨e,_⟩ | ⟨e,_⟩ | ⟨h1,rfl,h3,h4,h5⟩
  ·exact absurd e hl
  ·exact absurd e hl
  ·refine ⟨.slice (some ⟨B,k * 9,none⟩) (l.length - k) (l.length - k),fun w' hw=>?_,.inr ⟨B,k * 9,none,l.length - k,by rw [List.length_drop],⟨(l.take k).flatMap ntC,[],62,false,?_,?_⟩,h5⟩,sameN_slice 4 _ _ _⟩
   ·have:=slice_tail (P:=Tryz.prog) (st:=22) (e:=62) (sz:=9) (by kernel_rfl) (by kernel_rfl) (w:=w') (a:=⟨B,0,none⟩) (n:=l.length) (c:=l.length) (lo:=k) (by rw [hw hl]; exact h3) hk
    simpa using this
   ·rw [h3,List.append_nil,← List.flatMap_append,List.take_append_drop]
   ·rw [flat_length ntC_length,List.length_take,Nat.min_eq_left hk]
theorem loop61i {ov:Ov} (m:Nat) (h46:HasP ov 46 S46.F) (v vo:Value) (L out:List Nt) (i:Nat) (x:Nt) (hx:L[i]?=some x) (n0 B:Nat) (w:AW) (hv:RowsV ntC w v L) (ho:OutL n0 w vo out B) (hlen:out.length≤1000) (hL:L.length≤1000) (Q:Ex→Tm→AW→Prop) (t:Tm)
  (t0:tget t 0=v) (t3:tget t 3=vo) (t4:tget t 4=.int .i64 (i:Nat)) (t5:tget t 5=.int .i64 0)
  (hQ:∀ t k,k≤out.length→(∀ j,j < k→∃ y,out[j]?=some y∧cmpN y x < 0)→(∀ y,out[k]?=some y→¬ cmpN y x < 0)→tget t 0=v→tget t 3=vo→tget t 4=.int .i64 (i:Nat)→tget t 5=.int .i64 (k:Nat)→Q (.exit 2) t w) :
  wp (exM Tryz.prog (run Tryz.prog ov (m + 1)) (.loop mc61_l1) t w) Q:=by
 refine wp_rounds (fun r t w'=>w'=w∧r≤out.length∧(∀ j,j < r→∃ y,out[j]?=some y∧cmpN y x < 0)∧tget t 0=v∧tget t 3=vo∧tget t 4=.int .i64 (i:Nat)∧tget t 5=.int .i64 (r:Nat)) 2000 (by decide) ⟨rfl,by omega,fun j hj=>absurd hj (by omega),t0,t3,t4,t5⟩ ?_
 clear t0 t3 t4 t5
 rintro r t w1 ⟨hw,hr,hlt,t0,t3,t4,t5⟩
 rw [hw]
 clear hw w1
 obtain ⟨zr,hzr⟩:∃ z:Int,z=(r:Int):=⟨_,rfl⟩
 obtain ⟨zi,hzi⟩:∃ z:Int,z=(i:Int):=⟨_,rfl⟩
 obtain ⟨zo,hzo⟩:∃ z:Int,z=(out.length:Int):=⟨_,rfl⟩
 have hlo:∀ w':AW,lenB Tryz.prog w' 22 vo=.val (.int .i64 zo) w':=fun w'=>by rw [hzo]; exact len22V ho.1.rows
 have hil:=at_lt hx
 obtain ⟨b2,off2,sq2,cc2,e2,hra2⟩:=hv.at_ i hil
 have hld2:=hra2.rd (m:=9) ntC_length hx
 have hia2:=fun w=>ia22 w ⟨b2,off2,sq2⟩ L.length cc2 .i64 i hil
 rw [← hzi] at hia2
 have t5':=t5
 rw [← hzr] at t5'
 have t4':=t4
 rw [← hzi] at t4'
 have hw:IntKind.wrap .i64 (zr + 1)=((r + 1:Nat):Int):=by rw [w6i (by omega) (by omega)]; omega
 by_cases hro:r < out.length
 ·have hro':zr < zo:=by omega
  obtain ⟨y,hy⟩:=at_get (L:=out) (i:=r) hro
  obtain ⟨b1,off1,sq1,cc1,e1,hra1⟩:=ho.1.rows.at_ r hro
  have hld1:=hra1.rd (m:=9) ntC_length hy
  have hia1:=fun w=>ia22 w ⟨b1,off1,sq1⟩ out.length cc1 .i64 r hro
  rw [← hzr] at hia1
  have r46:=fun w=>S46.call (P:=Tryz.prog) (m:=m) h46 (args:=[.agg ⟨ntC y⟩,.agg ⟨ntC x⟩]) (w:=w) ⟨y,x,rfl,rfl⟩
  obtain ⟨cx,hcx⟩:∃ cx,cx=ntC x:=⟨_,rfl⟩
  obtain ⟨cy,hcy⟩:∃ cy,cy=ntC y:=⟨_,rfl⟩
  rw [← hcx] at hld2 r46
  rw [← hcy] at hld1 r46
  subst e1 e2
  by_cases hc:cmpN y x < 0
  ·simp [mc61_l1,t0,t3,t4',t5',hlo,hro',hia1,hia2,hld1,hld2,r46,hc,hw]
   refine ⟨by omega,by omega,fun j hj=>?_,by omega⟩
   by_cases hj':j < r
   ·exact hlt j hj'
   ·have:j=r:=by omega
    subst this
    exact ⟨y,hy,hc⟩
  ·simp [mc61_l1,t0,t3,t4',t5',hlo,hro',hia1,hia2,hld1,hld2,r46,hc]
   exact hQ _ r (by omega) hlt (fun z hz=>by rw [hy] at hz; cases hz; exact hc) (by simp [t0]) (by simp [t3]) (by simp [t4]) (by simp [t5])
 ·have hro':¬ zr < zo:=by omega
  simp [mc61_l1,t0,t3,t4',t5',hlo,hro']
  exact hQ _ r hr hlt (fun z hz=>by have:=at_lt hz; omega) (by simp [t0]) (by simp [t3]) (by simp [t4]) (by simp [t5])
theorem sm_nt (x:Nt):sameVal 5 (.agg ⟨[.int .i64 x.kind,.string ⟨⟨x.by_⟩⟩,.int .i64 x.seq,.string ⟨⟨x.to_⟩⟩,.string ⟨⟨x.claim⟩⟩,.int .i64 x.from_,.int .i64 x.until_,.int .i64 x.depth,.int .i64 x.of_]⟩) (.agg ⟨[.int .i64 x.kind,.string ⟨⟨x.by_⟩⟩,.int .i64 x.seq,.string ⟨⟨x.to_⟩⟩,.string ⟨⟨x.claim⟩⟩,.int .i64 x.from_,.int .i64 x.until_,.int .i64 x.depth,.int .i64 x.of_]⟩)=true:=same_agg _ (by
 intro v hv
 simp at hv
 rcases hv with rfl | rfl | rfl | rfl | rfl | rfl | rfl | rfl | rfl
 all_goals first | exact sameN_int 3 _ _ | exact sameN_string 3 _)
def ordT (L:List Nt) (r:Nat):List Nt:=(L.take r).foldl (fun out x=>insU cmpN x out) []
theorem ordT_step {L:List Nt} {r:Nat} {x:Nt} (hx:L[r]?=some x):ordT L (r + 1)=insU cmpN x (ordT L r):=by
 unfold ordT
 rw [List.take_add_one,hx,List.foldl_append]
 rfl
theorem ordT_len (L:List Nt) (r:Nat):(ordT L r).length≤r:=by
 have:=ordU_len cmpN (L.take r) []
 unfold ordT
 have h2:(L.take r).length≤r:=by rw [List.length_take]; omega
 simp at this
 omega
theorem three {n0:Nat} {w:AW} {vo u1 u2:Value} {out:List Nt} {B k:Nat} {x:Nt} (hl:w.lim≤n0) (hn:n0≤w.next) (ho:OutL n0 w vo out B) (hk:k≤out.length) (hlen:out.length≤900) (hu1:RowsV ntC w u1 (out.take k)) (hu2:RowsV ntC w u2 (out.drop k)) :
  ∃ v1 wC v2 wD v3 wE B3,append1 Tryz.prog ⟨(w.heap.put w.next (some (.cells [] 62 false))).put (w.next + 1) (some (.cells (ntC x) 62 false)),w.next + 1 + 1,w.lim⟩ [22,22] [.slice (some ⟨w.next,0,some 2⟩) 0 0,u1]=.val v1 wC ∧
   append1 Tryz.prog wC [22,22] [v1,.slice (some ⟨w.next + 1,0,some 2⟩) 1 1]=.val v2 wD∧append1 Tryz.prog wD [22,22] [v2,u2]=.val v3 wE∧OutL n0 wE v3 (out.take k++x::out.drop k) B3 ∧
   (∀ b,b < w.next→wC.heap.get b=w.heap.get b)∧(∀ b,b < w.next→wD.heap.get b=w.heap.get b)∧(∀ b,b < w.next→wE.heap.get b=w.heap.get b)∧w.next≤wE.next∧wE.lim=w.lim:=by
 obtain ⟨wB,hwB⟩:∃ wB:AW,wB=⟨(w.heap.put w.next (some (.cells [] 62 false))).put (w.next + 1) (some (.cells (ntC x) 62 false)),w.next + 1 + 1,w.lim⟩:=⟨_,rfl⟩
 rw [← hwB]
 have nB:wB.next=w.next + 1 + 1:=by rw [hwB]
 have lB:wB.lim=w.lim:=by rw [hwB]
 have oB:∀ b,b < w.next→wB.heap.get b=w.heap.get b:=fun b hb=>by
  rw [hwB]
  show ((w.heap.put w.next _).put (w.next + 1) _).get b=_
  rw [get_put,if_neg (by omega),get_put,if_neg (by omega)]
 have gB:wB.heap.get (w.next + 1)=some (.cells (ntC x) 62 false):=by rw [hwB]; simp
 have lt:(out.take k).length=k:=by rw [List.length_take]; omega
 have ld:(out.drop k).length=out.length - k:=by rw [List.length_drop]
 obtain ⟨v1,wC,B1,a1,h1,k1,n1,l1,b1⟩:=AccL.app appN (n0:=n0) (w:=wB) (v:=.slice (some ⟨w.next,0,some 2⟩) 0 0) (l:=[]) (B:=0) (.inr (.inl ⟨rfl,_,rfl⟩)) (hu1.old (fun b hb=>oB b hb) (by omega)) (by omega) (by omega) (by simp; omega)
 have oC:∀ b,b < wB.next→wC.heap.get b=wB.heap.get b:=fun b hb=>k1 b hb (fun h=>absurd rfl h)
 rw [List.nil_append] at h1 b1
 obtain ⟨v2,wD,B2,a2,h2,k2,n2,l2,b2⟩:=AccL.app appN (n0:=n0) (w:=wC) (m:=[x]) (x:=.slice (some ⟨w.next + 1,0,some 2⟩) 1 1) h1 (.inr ⟨w.next + 1,0,some 2,1,rfl,⟨[],[],62,false,by rw [oC _ (by omega),gB]; simp,rfl⟩,by omega⟩) (by omega) (by omega) (by simp; omega)
 have oD:∀ b,b < w.next→wD.heap.get b=w.heap.get b:=fun b hb=>by
  rw [k2 b (by omega) (fun hne=>by rcases b1 hne with h | h; exact absurd rfl h.1; omega),oC b (by omega),oB b hb]
 obtain ⟨v3,wE,B3,a3,h3,k3,n3,l3,b3⟩:=AccL.app appN (n0:=n0) (w:=wD) (m:=out.drop k) (x:=u2) h2 (hu2.old (fun b hb=>oD b hb) (by omega)) (by omega) (by omega) (by simp; omega)
 refine ⟨v1,wC,v2,wD,v3,wE,B3,a1,a2,a3,⟨by simpa using h3,fun e=>by simp at e⟩,fun b hb=>by rw [oC b (by omega),oB b hb],oD,fun b hb=>?_,by omega,by omega⟩
 rw [k3 b (by omega) (fun hne=>?_),oD b hb]
 rcases b2 hne with h | h
 ·rcases b1 h.1 with h' | h'
  ·exact absurd rfl h'.1
  ·omega
 ·omega
set_option maxHeartbeats 4000000 in
theorem loop61 {ov:Ov} (m:Nat) (h46:HasP ov 46 S46.F) (v:Value) (L:List Nt) (w0 w:AW) (hl:w0.lim≤w0.next) (hv:RowsV ntC w0 v L) (hL:L.length≤200) (hu:Up w0 w) (Q:Ex→Tm→AW→Prop) (t:Tm)
  (t0:tget t 0=v) (t3:tget t 3=.slice none 0 0) (t4:tget t 4=.int .i64 0)
  (hQ:∀ t w' B,Up w0 w'→OutL w0.next w' (tget t 3) (ordU cmpN L) B→Q (.exit 0) t w'):wp (exM Tryz.prog (run Tryz.prog ov (m + 1)) (.loop mc61_l0) t w) Q:=by
 refine wp_rounds (fun r t w=>r≤L.length∧Up w0 w∧(∃ B,OutL w0.next w (tget t 3) (ordT L r) B)∧tget t 0=v∧tget t 4=.int .i64 (r:Nat)) 300 (by decide) ⟨by omega,hu,⟨0,.inl ⟨rfl,t3⟩,fun _=>t3⟩,t0,t4⟩ ?_
 clear t0 t3 t4 hu
 rintro r t w ⟨hr,hu,⟨B,ho⟩,t0,t4⟩
 have n1:=hu.next
 have m1:=hu.lim
 obtain ⟨vo,hvo⟩:∃ v,v=tget t 3:=⟨_,rfl⟩
 rw [← hvo] at ho
 have t3:=hvo.symm
 have hvw:=hv.up hu
 obtain ⟨zr,hzr⟩:∃ z:Int,z=(r:Int):=⟨_,rfl⟩
 obtain ⟨zl,hzl⟩:∃ z:Int,z=(L.length:Int):=⟨_,rfl⟩
 have hll:∀ w':AW,lenB Tryz.prog w' 22 v=.val (.int .i64 zl) w':=fun w'=>by rw [hzl]; exact len22V hv
 have t4':=t4
 rw [← hzr] at t4'
 have holen:=ordT_len L r
 by_cases hlt:r < L.length
 ·have hlt':zr < zl:=by omega
  obtain ⟨x,hx⟩:=at_get (L:=L) (i:=r) hlt
  have hstep:=ordT_step hx
  have hw:IntKind.wrap .i64 (zr + 1)=((r + 1:Nat):Int):=by rw [w6i (by omega) (by omega)]; omega
  simp [mc61_l0,t0,t4',hll,hlt']
  refine wp_seqX (wp_blockX (wp_seqX (wp_blockX (loop61i m h46 v vo L (ordT L r) r x hx w0.next B w hvw ho (by omega) (by omega) _ _ ?_ ?_ ?_ ?_ ?_))))
  ·simp [t0]
  ·simp [t3]
  ·simp [t4]
  ·simp
  intro t k hk hlt1 hnot t0 t3 t4 t5
  have t4':=t4
  rw [← hzr] at t4'
  obtain ⟨zk,hzk⟩:∃ z:Int,z=(k:Int):=⟨_,rfl⟩
  obtain ⟨zo,hzo⟩:∃ z:Int,z=((ordT L r).length:Int):=⟨_,rfl⟩
  have hlo:∀ w':AW,lenB Tryz.prog w' 22 vo=.val (.int .i64 zo) w':=fun w'=>by rw [hzo]; exact len22V ho.1.rows
  have hins:=insU_at hlt1 hnot hk
  rw [← hstep] at hins
  obtain ⟨b2,off2,sq2,cc2,e2,hra2⟩:=hvw.at_ r hlt
  have hld2:=hra2.rd (m:=9) ntC_length hx
  have hb2:=hra2.2
  have hne2:b2 ≠ w.next:=by omega
  have hne2':b2 ≠ w.next + 1:=by omega
  have hia2:=fun w=>ia22 w ⟨b2,off2,sq2⟩ L.length cc2 .i64 r hlt
  rw [← hzr] at hia2
  rw [← hzk] at t5
  obtain ⟨u1,s1,hr1,sm1⟩:=ho.head hk
  obtain ⟨u2,s2,hr2,sm2⟩:=ho.tail hk
  rw [← hzk] at s1 s2
  obtain ⟨v1,wC,v2,wD,v3,wE,B3,a1,a2,a3,hout,oC,oD,oE,nE,lE⟩:=three (x:=x) (by omega) n1 ho hk (by omega) hr1 hr2
  have hB:ordT L r ≠ []→B < w.next:=fun hne=>by
   rcases ho.1 with ⟨e,_⟩ | ⟨e,_⟩ | ⟨_,_,_,_,h5⟩
   ·exact absurd e hne
   ·exact absurd e hne
   ·exact h5
  have hBn1:ordT L r ≠ []→B ≠ w.next:=fun hne=>by have:=hB hne; omega
  have hBn2:ordT L r ≠ []→B ≠ w.next + 1:=fun hne=>by have:=hB hne; omega
  have gC:=oC b2 hb2
  have gD:=oD b2 hb2
  have sC2:=s2 wC (fun hne=>oC B (hB hne))
  have sD2:=s2 wD (fun hne=>oD B (hB hne))
  have hA1:=s1 ⟨w.heap.put w.next (some (.cells [] 62 false)),w.next + 1,w.lim⟩ (fun hne=>by
   have:=hBn1 hne
   show (w.heap.put w.next _).get B=_
   rw [get_put,if_neg this])
  have wB1:=s1 ⟨(w.heap.put w.next (some (.cells [] 62 false))).put (w.next + 1) (some (.cells (ntC x) 62 false)),w.next + 1 + 1,w.lim⟩ (fun hne=>by
   have:=hBn1 hne
   have:=hBn2 hne
   show ((w.heap.put w.next _).put (w.next + 1) _).get B=_
   rw [get_put,if_neg (by assumption),get_put,if_neg (by assumption)])
  have wB2:=s2 ⟨(w.heap.put w.next (some (.cells [] 62 false))).put (w.next + 1) (some (.cells (ntC x) 62 false)),w.next + 1 + 1,w.lim⟩ (fun hne=>by
   have:=hBn1 hne
   have:=hBn2 hne
   show ((w.heap.put w.next _).put (w.next + 1) _).get B=_
   rw [get_put,if_neg (by assumption),get_put,if_neg (by assumption)])
  have hUE:Up w0 wE:=⟨fun b hb=>by rw [oE b (by omega)]; exact hu.at hb,by omega,by omega⟩
  have nj3:=hout.1.ok
  have smx:=sm_nt x
  have hwl:(w.heap.put w.next (some (.cells [] 62 false))).get w.next=some (.cells [] 62 false):=by simp
  by_cases hko:k < (ordT L r).length
  ·have hko':zk < zo:=by omega
   obtain ⟨y,hy⟩:=at_get (L:=ordT L r) (i:=k) hko
   obtain ⟨b1,off1,sq1,cc1,e1,hra1⟩:=ho.1.rows.at_ k hko
   have hld1:=hra1.rd (m:=9) ntC_length hy
   have hia1:=fun w=>ia22 w ⟨b1,off1,sq1⟩ (ordT L r).length cc1 .i64 k hko
   rw [← hzk] at hia1
   have hq:=eq_nt y x
   by_cases hyx:y=x
   ·rw [if_pos (by rw [hy,hyx])] at hins
    obtain ⟨cx,hcx⟩:∃ cx,cx=ntC x:=⟨_,rfl⟩
    obtain ⟨cy,hcy⟩:∃ cy,cy=ntC y:=⟨_,rfl⟩
    rw [← hcx] at hld2 hq
    rw [← hcy] at hld1 hq
    simp only [hyx,decide_true] at hq
    rw [e1] at t3
    rw [e2] at t0
    rw [e1] at hlo
    simp [t0,t3,t4',t5,hlo,hko',hia1,hia2,hld1,hld2,hq,hw, -eqFlat_agg]
    refine ⟨by omega,by omega,hu,⟨B,by rw [hins,← e1]; exact ho⟩,e2.symm⟩
   ·rw [if_neg (by rw [hy]; exact fun h=>hyx (Option.some.inj h))] at hins
    rw [← hins] at hout
    obtain ⟨cy,hcy⟩:∃ cy,cy=ntC y:=⟨_,rfl⟩
    rw [← hcy] at hld1 hq
    simp only [hyx,decide_false] at hq
    simp only [ntC] at hld2 a1 hq wB1 wB2 hA1
    rw [e2] at t0
    rw [e1] at t3 hlo sC2 sD2 wB1 wB2 hA1
    simp [t0,t3,t4',t5,hlo,hko',hia1,hia2,hld1,hld2,hq,hw,hne2,hne2',hA1,wB1,wB2,sC2,sD2,gC,gD,sm1,sm2,smx,a1,a2,a3,nj3, -eqFlat_agg]
    exact ⟨by omega,by omega,hUE,⟨B3,hout⟩,e2.symm⟩
  ·have hko':¬ zk < zo:=by omega
   rw [if_neg (by rw [List.getElem?_eq_none (by omega)]; exact fun h=>by cases h)] at hins
   rw [← hins] at hout
   simp only [ntC] at hld2 a1 wB1 wB2 hA1
   rw [e2] at t0
   simp [t0,t3,t4',t5,hlo,hko',hia2,hld2,hw,hne2,hne2',hA1,wB1,wB2,sC2,sD2,gC,gD,sm1,sm2,smx,a1,a2,a3,nj3, -eqFlat_agg]
   exact ⟨by omega,by omega,hUE,⟨B3,hout⟩,e2.symm⟩
 ·have hlt':¬ zr < zl:=by omega
  simp [mc61_l0,t0,t4',hll,hlt']
  have e:ordT L r=ordU cmpN L:=by unfold ordT ordU; rw [List.take_of_length_le (by omega)]
  rw [e] at ho
  exact hQ _ _ B hu (by simpa [hvo] using ho)
theorem call61 {ov:Ov} (m:Nat) (ho:∀ args w,ov 61 args w=none) (h46:HasP ov 46 S46.F) (v:Value) (L:List Nt) (w:AW) (hl:w.lim≤w.next) (hv:RowsV ntC w v L) (hL:L.length≤200) :
  ∃ x w',(run Tryz.prog ov (m + 2)).call 61 [v] w .none=.ok (.ret x) w' .none∧Up w w'∧RowsV ntC w' x (ordU cmpN L):=by
 refine call_wp text61 (by simp) (ho _ _) ?_
 simp [mc61]
 refine wp_seqX (wp_blockX (loop61 m h46 v L w w hl hv hL (Up.refl w) _ _ ?_ ?_ ?_ ?_))
 ·simp
 ·simp
 ·simp
 ·intro t w' B hu ho
  have nj:=ho.1.ok
  obtain ⟨a,c,e⟩:=ho.1.rows.len
  have hr:=ho.1.rows
  simp [nj,tupV]
  exact ⟨hu,hr⟩
theorem call15 {ov:Ov} (m:Nat) (ho:∀ args w,ov 15 args w=none) (ho61:∀ args w,ov 61 args w=none) (h18:HasP ov 18 S18.F) (h46:HasP ov 46 S46.F) (va vb:Value) (A B:List Nt) (w:AW) (hl:w.lim≤w.next) (ha:RowsV ntC w va A) (hb:RowsV ntC w vb B) :
  ∃ x w',(run Tryz.prog ov (m + 3)).call 15 [va,vb] w .none=.ok (.ret x) w' .none∧Up w w'∧∃ lv,x=.tuple ⟨[lv,.int .i64 (mgE A B)]⟩∧RowsV ntC w' lv (mgL A B):=by
 refine call_wp text15 (by simp) (ho _ _) ?_
 have c1:=S18.call (P:=Tryz.prog) (m:=m + 1) h18 (args:=[va]) (w:=w) ⟨va,A,rfl,ha,rfl⟩
 have c2:=S18.call (P:=Tryz.prog) (m:=m + 1) h18 (args:=[vb]) (w:=w) ⟨vb,B,rfl,hb,rfl⟩
 by_cases hA:notesB A=true
 ·have eA:ckE A=0:=by unfold ckE; rw [if_pos hA]
  rw [eA] at c1
  by_cases hB:notesB B=true
  ·have eB:ckE B=0:=by unfold ckE; rw [if_pos hB]
   rw [eB] at c2
   have lA:A.length≤40:=by
    have h:=hA
    unfold notesB at h
    simp only [Bool.and_eq_true,decide_eq_true_eq] at h
    exact h.1
   have lB:B.length≤40:=by
    have h:=hB
    unfold notesB at h
    simp only [Bool.and_eq_true,decide_eq_true_eq] at h
    exact h.1
   have hu1:Up w ⟨w.heap.put w.next (some (.cells [] 62 false)),w.next + 1,w.lim⟩:=(Up.refl w).add _
   obtain ⟨v1,w1,B1,a1,h1,k1,n1,l1,b1⟩:=AccL.app appN (n0:=w.next) (w:=⟨w.heap.put w.next (some (.cells [] 62 false)),w.next + 1,w.lim⟩) (v:=.slice (some ⟨w.next,0,some 2⟩) 0 0) (l:=[]) (B:=0) (.inr (.inl ⟨rfl,_,rfl⟩)) (ha.up hu1) hl (Nat.le_succ _) (by simp; omega)
   rw [List.nil_append] at h1 b1
   simp only at n1 l1
   have o1:∀ b,b < w.next→w1.heap.get b=w.heap.get b:=fun b hb=>by
    rw [k1 b (by show b < w.next + 1; omega) (fun h=>absurd rfl h)]
    show (w.heap.put w.next _).get b=_
    rw [get_put,if_neg (by omega)]
   obtain ⟨v2,w2,B2,a2,h2,k2,n2,l2,b2⟩:=AccL.app appN (n0:=w.next) (w:=w1) h1 (hb.old (fun b hb=>o1 b hb) (by omega)) (by omega) (by omega) (by omega)
   have o2:∀ b,b < w.next→w2.heap.get b=w.heap.get b:=fun b hb=>by
    rw [k2 b (by omega) (fun hne=>by rcases b1 hne with h | h; exact absurd rfl h.1; simp only at h; omega),o1 b hb]
   have hu2:Up w w2:=⟨fun b hb=>o2 b hb,by omega,by omega⟩
   obtain ⟨x3,w3,c3,hu3,hr3⟩:=call61 (ov:=ov) m ho61 h46 v2 (A++B) w2 (by omega) h2.rows (by rw [List.length_append]; omega)
   obtain ⟨a3,k3,e3⟩:=hr3.len
   obtain ⟨z,hz⟩:∃ z:Int,z=((ordU cmpN (A++B)).length:Int):=⟨_,rfl⟩
   subst e3
   by_cases hgt:40 < (ordU cmpN (A++B)).length
   ·have hgt':40 < z:=by omega
    simp [mc15,c1,c2,a1,a2,c3,← hz,hgt',tupV,notJunk,mgE,mgL,hA,hB,hgt]
    exact ⟨hu2.trans hu3,.inl ⟨rfl,none,0,rfl⟩⟩
   ·have hgt':¬ 40 < z:=by omega
    simp [mc15,c1,c2,a1,a2,c3,← hz,hgt',tupV,notJunk,mgE,mgL,hA,hB,hgt]
    exact ⟨hu2.trans hu3,hr3⟩
  ·have eB:ckE B=100:=by unfold ckE; rw [if_neg hB]
   rw [eB] at c2
   simp [mc15,c1,c2,tupV,notJunk,mgE,mgL,hA,hB]
   exact ⟨Up.refl w,.inl ⟨rfl,none,0,rfl⟩⟩
 ·have eA:ckE A=100:=by unfold ckE; rw [if_neg hA]
  rw [eA] at c1
  simp [mc15,c1,tupV,notJunk,mgE,mgL,hA]
  exact ⟨Up.refl w,.inl ⟨rfl,none,0,rfl⟩⟩
end Go.Proofs.YtnjknghdpobcmaaGreatDoor.walk
