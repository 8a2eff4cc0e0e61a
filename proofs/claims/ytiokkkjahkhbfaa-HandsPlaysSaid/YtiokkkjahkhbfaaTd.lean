/- Part of a proof: see the text with the theorem. -/
import Derived.Test.YtiokkkjahkhbfaaTc
import Derived.Test.YtiokkkjahkhbfaaTb
set_option linter.all false
namespace Go.Proofs.Ytiokkkjahkhbfaa.walk
open Go Go.Sh
set_option maxRecDepth 100000
theorem same_sea {w:AW} {vv hv fv:Value} {vs:List HVn} {hs:List HHd} {fs:List (List (Int × Int))} (h:SeaV w vv hv fv vs hs fs):sameVal 5 (.agg ⟨[vv,hv,fv]⟩) (.agg ⟨[vv,hv,fv]⟩)=true:=by
 obtain ⟨a,b,e1⟩:=h.v.len
 obtain ⟨c,d,e2⟩:=h.h.len
 obtain ⟨e,f,e3⟩:=h.f.len
 rw [e1,e2,e3]
 refine same_agg _ (by
  intro v hv
  simp only [List.mem_cons,List.not_mem_nil,or_false] at hv
  rcases hv with rfl | rfl | rfl <;> exact sameN_slice 3 _ _ _)
def S83:PSpec where
 R args w v:=∃ (vv hv fv pv:Value) (vs:List HVn) (hs:List HHd) (fs:List (List (Int × Int))) (l:List HJb),args=[.agg ⟨[vv,hv,fv]⟩,pv]∧SeaV w vv hv fv vs hs fs∧RowsV jbC w pv l∧seaB vs hs fs=true∧v=.bool (planB vs hs fs.length l)
 uniq:=by
  rintro _ _ _ _ ⟨a,b,c,d,x,y,z,l,rfl,h1,h2,_,rfl⟩ ⟨a',b',c',d',x',y',z',l',e,k1,k2,_,rfl⟩
  cases e
  obtain ⟨rfl,rfl,rfl⟩:=h1.uniq k1
  rw [h2.uniq (m:=5) jbC_length jbC_inj k2]
 shut:=by rintro _ _ _ ⟨a,b,c,d,x,y,z,l,e,h1,h2⟩; exact ⟨a,b,c,d,x,y,z,l,e,⟨h1.v,h1.h,h1.f⟩,h2⟩
section
variable {ov:Ov}
theorem run83 (ho:∀ args w,ov 83 args w=none) (ho43:∀ args w,ov 43 args w=none) (h72:HasP ov 72 S72.F) (h92:HasP ov 92 S92.F) (h93:∀ args w,ov 93 args w=none) (ho97:∀ args w,ov 97 args w=none) (h98:HasP ov 98 S98.F) (h99:∀ args w,ov 99 args w=none) (h81:HasP ov 81 S81.F)
  (vs:List HVn) (hs:List HHd) (fs:List (List (Int × Int))) (l:List HJb) (vv hv fv pv:Value) (w:AW) (hl:w.lim=w.next) (hS:SeaV w vv hv fv vs hs fs) (hP:RowsV jbC w pv l) (hB:seaB vs hs fs=true) :
  ∃ v w',(run Try.prog ov 3).call 83 [.agg ⟨[vv,hv,fv]⟩,pv] w .none=.ok (.ret v) w' .none∧v=.bool (planB vs hs fs.length l):=by
 refine call_wp text83 (by simp) (ho _ _) ?_
 obtain ⟨b1,b2,b3,b4,b5,b6,b7,b8⟩:=sea_parts hB
 obtain ⟨nv,nh,nf⟩:=hS.nj
 have hl1:=fun w2=>len39V (w':=w2) hP
 have pj:notJunk pv=some pv:=by obtain ⟨x,y,rfl⟩:=hP.len; rfl
 by_cases hbig:2048 < l.length
 ·have hbig':(2048:Int) < (l.length:Int):=by omega
  have e:planB vs hs fs.length l=false:=by
   unfold planB; rw [decide_eq_false (by omega)]; rfl
  simp [mc83,cellsOf_agg,nv,nh,nf,pj,hl1,hbig,hbig',e,tupV]
 have hbig':¬ (2048:Int) < (l.length:Int):=by omega
 have hlen:l.length≤2048:=by omega
 obtain ⟨w1,hw1⟩:∃ w1:AW,w1=⟨w.heap.put w.next (some (.cells [vv,hv,fv] 26 false)),w.next + 1,w.lim⟩:=⟨_,rfl⟩
 have u1:Up w w1:=by rw [hw1]; exact (Up.refl w).add _
 have n1:w1.next=w.next + 1:=by rw [hw1]
 have gX1:w1.heap.get w.next=some (.cells [vv,hv,fv] 26 false):=by rw [hw1]; simp
 obtain ⟨v5,w2,c43,r5,u2⟩:=call43 (ov:=ov) 1 ho43 vs hs fs b3 vv hv fv w1 (by rw [u1.lim]; omega) (hS.up u1)
 have gX2:=(u2.at (show w.next < w1.next by omega)).trans gX1
 have hn2:=u2.next
 obtain ⟨v6,w3,c97,km,L,rfl,hML,hkl,hkn,hF,u3⟩:=call97 (ov:=ov) 1 ho97 vs hs fs b3 b5 vv hv fv w2 (by rw [u2.lim,u1.lim]; omega) (hS.up (u1.trans u2))
 have j5:notJunk v5=some v5:=by obtain ⟨x,y,rfl⟩:=r5.len; rfl
 have ss:=same_sea hS
 have hS2:=hS.up (u1.trans u2)
 have hP2:=hP.up (u1.trans u2)
 have e0:planB vs hs fs.length l=planG vs hs fs.length [] l:=by
  unfold planB; rw [decide_eq_true hlen]; rfl
 rw [hw1] at c43
 simp [mc83,cellsOf_agg,nv,nh,nf,pj,hl1,hbig,hbig',c43,j5,gX2,ss,c97]
 rw [e0]
 refine wp_seqX (wp_blockX (wp_rounds (fun i t w'=>Pw w2 km hs fs.length (l.take i) w'∧UseOk hs (l.take i)∧planG vs hs fs.length (l.take i) (l.drop i)=planG vs hs fs.length [] l∧tget t 1=pv∧tget t 2=.pointer (some ⟨w.next,0,none⟩)∧tget t 5=v5∧tget t 6=.map (some km)∧tget t 16=pv∧tget t 17=.int .i64 (l.length:Nat)∧tget t 18=.int .i64 (i:Nat)∧i≤l.length) 3000 (by decide) ?_ ?_))
 ·refine ⟨⟨u3,hkn,L,hML,by simpa using hF.ab⟩,UseOk.nil fun x hx=>?_,by simp,by simp,by simp,by simp,by simp,by simp,by simp,by simp,Nat.zero_le _⟩
  have:=b7 x hx
  simp only [hhB,inH,Bool.and_eq_true,decide_eq_true_eq] at this
  omega
 ·rintro i t w' ⟨hPw,hU,he,t1,t2,t5,t6,t16,t17,t18,hi⟩
  by_cases hlt:i < l.length
  ·obtain ⟨x,hx⟩:=lt_get hlt
   have hw1':IntKind.wrap .i64 ((i:Int) + 1)=(i:Int) + 1:=wrap64_in (by omega) (by omega)
   obtain ⟨p,hia,hld,_,hpb⟩:=getR un39 sz67 jbC_length (hP2.up hPw.up) rfl hx
   have hle:w'.lim≤w'.next:=by rw [hPw.up.lim,u2.lim,u1.lim]; have:=hPw.up.next; omega
   have u4:Up w' ⟨(w'.heap.put w'.next (some (.cells [.int .i64 0,.int .i64 0,.int .i64 0,.int .i64 0,.int .i64 0] 67 false))).put w'.next (some (.cells (jbC x) 67 false)),w'.next + 1,w'.lim⟩:=((Up.refl w').add _).put (Nat.le_refl _) (Nat.le_refl _)
   have key:=part83a (ov:=ov) (wS:=w2) (pv:=pv) (l:=l) 0 h92 h93 hP2 i x hx hlen _ (hPw.up.trans u4) (by show w'.lim≤w'.next + 1; omega) w'.next (by simp) (by show w'.next < w'.next + 1; omega)
   rw [drop_cons hx] at he
   have he:(jstB vs hs fs.length (l.take i) x && planG vs hs fs.length (l.take i++[x]) (l.drop (i + 1)))=planG vs hs fs.length [] l:=he
   rw [jst_eq] at he
   have hkn':=hPw.kn
   obtain ⟨x1,x2,x3,x4,x5⟩:=x
   have hld':=hld
   simp only [jbC] at hld' key u4
   simp [mc83_l0_eq,t16,t17,t18,hlt,hia,hld',hle]
   refine wp_seqX (wp_blockX (key _ _ ?_ ?_ ?_ (.pointer (some ⟨w.next,0,none⟩)) v5 (.map (some km)) pv (.int .i64 (l.length:Nat)) (.int .i64 (i:Nat)) ?_ ?_ ?_ ?_ ?_ ?_ ?_ ?_))
   ·simp [t1]
   ·simp
   ·simp
   ·simp [t2]
   ·simp [t5]
   ·simp [t6]
   ·simp [t16]
   ·simp [t17]
   ·simp [t18]
   ·intro t w4 e t4
    rw [e] at he
    simp [t4,tupV,← he]
   ·intro t w4 e u5 s1 s2 s5 s6 s8 s16 s17 s18
    refine part83b (ov:=ov) (vs:=vs) (hs:=hs) (fs:=fs) (wS:=w2) (X:=w.next) (km:=km) 0 h98 h72 h99 h81 hS2 r5 (by omega) gX2 hB hkl (by rw [u2.lim,u1.lim]; omega) (l.take i) ⟨x1,x2,x3,x4,x5⟩ hU w4 (hPw.grow (u4.trans u5)) w'.next ?_ ?_ ?_ pv pv (.int .i64 (l.length:Nat)) (.int .i64 (i:Nat)) t s1 s2 s5 s6 s8 s16 s17 s18 _ ?_ ?_
    ·rw [u5.at (show w'.next < w'.next + 1 by omega)]; simp [jbC]
    ·have:=u5.next; have:w'.next + 1≤w4.next:=this; omega
    ·omega
    ·intro t w5 e2 t4
     rw [e2] at he
     simp at he
     simp [t4,tupV,← he]
    ·intro t w5 e2 hPw5 r1 r2 r5' r6 r16 r17 r18
     have hj:jstB vs hs fs.length (l.take i) ⟨x1,x2,x3,x4,x5⟩=true:=by rw [jst_eq,e,e2]; rfl
     rw [e,e2] at he
     simp [r1,r2,r5',r6,r16,r17,r18,hw1']
     rw [take_push hx]
     exact ⟨by omega,hPw5,hU.push hj,by simpa using he,by omega⟩
  ·have hi':i=l.length:=by omega
   have:planG vs hs fs.length [] l=true:=by rw [← he,List.drop_eq_nil_of_le (by omega)]; rfl
   simp [mc83_l0_eq,t17,t18,hi',this,tupV]
end
end Go.Proofs.Ytiokkkjahkhbfaa.walk
namespace Go.Sh
open Go
def hrL (p:List HJb):List Int:=(List.range 288).map fun k=>hrS p ((k / 48:Nat):Int) ((k % 4:Nat):Int) ((k / 4 % 12:Nat):Int)
def dyL (p:List HJb):List Int:=(List.range 24).map fun k=>dayS p ((k / 4:Nat):Int) ((k % 4:Nat):Int)
theorem hrL_length (p:List HJb):(hrL p).length=288:=by simp [hrL]
theorem dyL_length (p:List HJb):(dyL p).length=24:=by simp [dyL]
theorem hrL_at (p:List HJb) {m o h:Nat} (hm:m < 6) (ho:o < 12) (hh:h < 4):(hrL p)[m * 48 + o * 4 + h]?=some (hrS p m h o):=by
 unfold hrL
 rw [List.getElem?_map,List.getElem?_range (by omega)]
 simp only [Option.map_some]
 rw [show (m * 48 + o * 4 + h) / 48=m by omega,show (m * 48 + o * 4 + h) % 4=h by omega,show (m * 48 + o * 4 + h) / 4 % 12=o by omega]
theorem dyL_at (p:List HJb) {m h:Nat} (hm:m < 6) (hh:h < 4):(dyL p)[m * 4 + h]?=some (dayS p m h):=by
 unfold dyL
 rw [List.getElem?_map,List.getElem?_range (by omega)]
 simp only [Option.map_some]
 rw [show (m * 4 + h) / 4=m by omega,show (m * 4 + h) % 4=h by omega]
theorem hrL_push (p:List HJb) (j:HJb) {m o h:Nat} (hm:m < 6) (ho:o < 12) (hh:h < 4) (e1:j.mo=m) (e2:j.ha=h) (e3:j.ho=o):(hrL p).set (m * 48 + o * 4 + h) (hrS p m h o + j.ma)=hrL (p++[j]):=by
 apply List.ext_getElem?
 intro k
 rw [List.getElem?_set,hrL_length]
 by_cases hk:k < 288
 ·unfold hrL
  rw [List.getElem?_map,List.getElem?_map,List.getElem?_range hk]
  simp only [Option.map_some,hrS_push]
  by_cases e:m * 48 + o * 4 + h=k
  ·rw [if_pos e,if_pos (by omega),if_pos (by omega)]
   rw [show k / 48=m by omega,show k % 4=h by omega,show k / 4 % 12=o by omega]
  ·rw [if_neg e,if_neg (by omega),Int.add_zero]
 ·rw [if_neg (by omega),List.getElem?_eq_none (by rw [hrL_length]; omega),List.getElem?_eq_none (by rw [hrL_length]; omega)]
theorem dyL_push (p:List HJb) (j:HJb) {m h:Nat} (hm:m < 6) (hh:h < 4) (e1:j.mo=m) (e2:j.ha=h):(dyL p).set (m * 4 + h) (dayS p m h + j.ma)=dyL (p++[j]):=by
 apply List.ext_getElem?
 intro k
 rw [List.getElem?_set,dyL_length]
 by_cases hk:k < 24
 ·unfold dyL
  rw [List.getElem?_map,List.getElem?_map,List.getElem?_range hk]
  simp only [Option.map_some,dayS_push]
  by_cases e:m * 4 + h=k
  ·rw [if_pos e,if_pos (by omega),if_pos (by omega)]
   rw [show k / 4=m by omega,show k % 4=h by omega]
  ·rw [if_neg e,if_neg (by omega),Int.add_zero]
 ·rw [if_neg (by omega),List.getElem?_eq_none (by rw [dyL_length]; omega),List.getElem?_eq_none (by rw [dyL_length]; omega)]
theorem hrL_nil:hrL []=List.replicate 288 0:=by
 unfold hrL
 apply List.ext_getElem?
 intro k
 by_cases hk:k < 288
 ·rw [List.getElem?_map,List.getElem?_range hk,List.getElem?_replicate,if_pos hk]; rfl
 ·rw [List.getElem?_eq_none (by rw [List.length_map,List.length_range]; omega),List.getElem?_eq_none (by rw [List.length_replicate]; omega)]
theorem dyL_nil:dyL []=List.replicate 24 0:=by
 unfold dyL
 apply List.ext_getElem?
 intro k
 by_cases hk:k < 24
 ·rw [List.getElem?_map,List.getElem?_range hk,List.getElem?_replicate,if_pos hk]; rfl
 ·rw [List.getElem?_eq_none (by simp; omega),List.getElem?_eq_none (by simp; omega)]
theorem int_at {l:List Int} {k:Nat} {z:Int} (h:l[k]?=some z):(l.flatMap intC)[k]?=some (.int .i64 z):=by
 have e:l.flatMap intC=l.map fun z=>Value.int .i64 z:=by
  clear h
  induction l with
  | nil=>rfl
  | cons a l ih=>rw [List.flatMap_cons,ih]; rfl
 rw [e,List.getElem?_map,h]; rfl
theorem int_set (l:List Int) (k:Nat) (z:Int) (h:k < l.length):(l.flatMap intC).take k++(.int .i64 z::(l.flatMap intC).drop (k + 1))=(l.set k z).flatMap intC:=by
 have:=flat_set intC_length l k z h
 simp only [Nat.mul_one] at this
 exact this
theorem int_len (l:List Int):(l.flatMap intC).length=l.length:=by simpa using flat_length intC_length l
end Go.Sh
namespace Go.Proofs.Ytiokkkjahkhbfaa.walk
open Go Go.Sh
set_option maxRecDepth 100000
theorem arr114:arrN Try.prog 114=some (6,113):=by kernel_rfl
theorem arr113:arrN Try.prog 113=some (12,74):=by kernel_rfl
theorem arr115:arrN Try.prog 115=some (6,74):=by kernel_rfl
theorem arr74:arrN Try.prog 74=some (4,3):=by kernel_rfl
theorem sz113:szOf Try.prog 113=some 48:=by kernel_rfl
theorem sz74:szOf Try.prog 74=some 4:=by kernel_rfl
theorem ia114 (w:AW) (a:Addr) {i:Nat} (hi:i < 6):indexAddrA Try.prog w 114 (.pointer (some a)) (.int .i64 (i:Int))=.val (.pointer (some (a.add (i * 48)))) w:=ia_arr arr114 sz113 rfl w a _ hi
theorem ia113 (w:AW) (a:Addr) {i:Nat} (hi:i < 12):indexAddrA Try.prog w 113 (.pointer (some a)) (.int .i64 (i:Int))=.val (.pointer (some (a.add (i * 4)))) w:=ia_arr arr113 sz74 rfl w a _ hi
theorem ia115 (w:AW) (a:Addr) {i:Nat} (hi:i < 6):indexAddrA Try.prog w 115 (.pointer (some a)) (.int .i64 (i:Int))=.val (.pointer (some (a.add (i * 4)))) w:=ia_arr arr115 sz74 rfl w a _ hi
theorem ia74 (w:AW) (a:Addr) {i:Nat} (hi:i < 4):indexAddrA Try.prog w 74 (.pointer (some a)) (.int .i64 (i:Int))=.val (.pointer (some (a.add (i * 1)))) w:=ia_arr arr74 sz3 rfl w a _ hi
noncomputable def mc29_l0_b3:MC:=.seq (.ops [⟨false,none,some 69,0,.fieldAddr 26 (.tmp 2) 1⟩,⟨false,none,some 70,23,.load 23 (.tmp 69)⟩,⟨false,none,some 71,0,.fieldAddr 67 (.tmp 8) 2⟩,⟨false,none,some 72,3,.load 3 (.tmp 71)⟩,⟨false,none,some 73,0,.indexAddr 23 (.tmp 70) (.tmp 72)⟩,⟨false,none,some 74,77,.load 77 (.tmp 73)⟩,⟨false,none,some 9,0,.alloc 77⟩,⟨false,none,none,0,.store 77 (.tmp 9) (.tmp 74)⟩]) (.seq (.ops [⟨true,none,some 75,0,.fieldAddr 67 (.tmp 8) 0⟩,⟨true,none,some 76,3,.load 3 (.tmp 75)⟩,⟨true,none,some 77,0,.fieldAddr 67 (.tmp 8) 1⟩,⟨true,none,some 78,3,.load 3 (.tmp 77)⟩,⟨true,none,some 79,0,.fieldAddr 67 (.tmp 8) 2⟩,⟨true,none,some 80,3,.load 3 (.tmp 79)⟩,⟨true,none,some 81,0,.indexAddr 114 (.tmp 5) (.tmp 76)⟩,⟨true,none,some 82,0,.indexAddr 113 (.tmp 81) (.tmp 78)⟩,⟨true,none,some 83,0,.indexAddr 74 (.tmp 82) (.tmp 80)⟩,⟨true,none,some 84,3,.load 3 (.tmp 83)⟩,⟨true,none,some 85,0,.fieldAddr 77 (.tmp 9) 3⟩,⟨true,none,some 86,3,.load 3 (.tmp 85)⟩,⟨true,none,some 87,4,.binOp .gtr 3 (.tmp 84) (.tmp 86) 3⟩,⟨true,none,some 88,4,.move (.tmp 87)⟩,⟨true,some (88,false),some 89,0,.fieldAddr 67 (.tmp 8) 0⟩,⟨true,some (88,false),some 90,3,.load 3 (.tmp 89)⟩,⟨true,some (88,false),some 91,0,.fieldAddr 67 (.tmp 8) 2⟩,⟨true,some (88,false),some 92,3,.load 3 (.tmp 91)⟩,⟨true,some (88,false),some 93,0,.indexAddr 115 (.tmp 6) (.tmp 90)⟩,⟨true,some (88,false),some 94,0,.indexAddr 74 (.tmp 93) (.tmp 92)⟩,⟨true,some (88,false),some 95,3,.load 3 (.tmp 94)⟩,⟨true,some (88,false),some 96,0,.fieldAddr 77 (.tmp 9) 4⟩,⟨true,some (88,false),some 97,3,.load 3 (.tmp 96)⟩,⟨true,some (88,false),some 98,4,.binOp .gtr 3 (.tmp 95) (.tmp 97) 3⟩,⟨true,none,some 99,4,.pick (.tmp 88) (.const (.bool true)) (.tmp 98)⟩]) (.cond (.tmp 99) (.seq (.ops [⟨false,none,some 4,4,.assign (.const (.bool false))⟩]) (.ret)) (.skip)))
noncomputable def mc29_l0_b2:MC:=.seq (.ops [⟨true,none,some 41,0,.fieldAddr 67 (.tmp 8) 0⟩,⟨true,none,some 42,3,.load 3 (.tmp 41)⟩,⟨true,none,some 43,0,.fieldAddr 67 (.tmp 8) 1⟩,⟨true,none,some 44,3,.load 3 (.tmp 43)⟩,⟨true,none,some 45,0,.fieldAddr 67 (.tmp 8) 2⟩,⟨true,none,some 46,3,.load 3 (.tmp 45)⟩,⟨true,none,some 47,0,.indexAddr 114 (.tmp 5) (.tmp 42)⟩,⟨true,none,some 48,0,.indexAddr 113 (.tmp 47) (.tmp 44)⟩,⟨true,none,some 49,0,.indexAddr 74 (.tmp 48) (.tmp 46)⟩,⟨true,none,some 50,3,.load 3 (.tmp 49)⟩,⟨true,none,some 51,0,.fieldAddr 67 (.tmp 8) 4⟩,⟨true,none,some 52,3,.load 3 (.tmp 51)⟩,⟨true,none,some 53,3,.binOp .add 3 (.tmp 50) (.tmp 52) 3⟩,⟨true,none,some 54,0,.indexAddr 114 (.tmp 5) (.tmp 42)⟩,⟨true,none,some 55,0,.indexAddr 113 (.tmp 54) (.tmp 44)⟩,⟨true,none,some 56,0,.indexAddr 74 (.tmp 55) (.tmp 46)⟩,⟨false,none,none,0,.store 3 (.tmp 56) (.tmp 53)⟩]) (.seq (.ops [⟨true,none,some 57,0,.fieldAddr 67 (.tmp 8) 0⟩,⟨true,none,some 58,3,.load 3 (.tmp 57)⟩,⟨true,none,some 59,0,.fieldAddr 67 (.tmp 8) 2⟩,⟨true,none,some 60,3,.load 3 (.tmp 59)⟩,⟨true,none,some 61,0,.indexAddr 115 (.tmp 6) (.tmp 58)⟩,⟨true,none,some 62,0,.indexAddr 74 (.tmp 61) (.tmp 60)⟩,⟨true,none,some 63,3,.load 3 (.tmp 62)⟩,⟨true,none,some 64,0,.fieldAddr 67 (.tmp 8) 4⟩,⟨true,none,some 65,3,.load 3 (.tmp 64)⟩,⟨true,none,some 66,3,.binOp .add 3 (.tmp 63) (.tmp 65) 3⟩,⟨true,none,some 67,0,.indexAddr 115 (.tmp 6) (.tmp 58)⟩,⟨true,none,some 68,0,.indexAddr 74 (.tmp 67) (.tmp 60)⟩,⟨false,none,none,0,.store 3 (.tmp 68) (.tmp 66)⟩]) mc29_l0_b3)
noncomputable def mc29_l0_b1:MC:=.seq (.seq (.ops [⟨true,none,some 23,26,.load 26 (.tmp 2)⟩,⟨true,none,some 24,67,.load 67 (.tmp 8)⟩,⟨false,none,some 25,4,.call ⟨.value (.func 66),#[.tmp 23,.tmp 24],#[26,67]⟩⟩,⟨true,none,some 26,4,.unOp .not 4 (.tmp 25)⟩,⟨true,none,some 27,4,.move (.tmp 26)⟩,⟨true,some (27,false),some 28,3,.move (.tmp 7)⟩,⟨true,some (27,false),some 29,4,.binOp .gtr 3 (.tmp 28) (.const (.int .i64 0)) 3⟩,⟨true,some (27,false),some 30,4,.move (.tmp 29)⟩,⟨true,some (30,true),some 31,39,.move (.tmp 1)⟩,⟨true,some (30,true),some 32,3,.move (.tmp 7)⟩,⟨true,some (30,true),some 33,3,.binOp .sub 3 (.tmp 32) (.const (.int .i64 1)) 3⟩,⟨true,some (30,true),some 34,0,.indexAddr 39 (.tmp 31) (.tmp 33)⟩,⟨true,some (30,true),some 35,67,.load 67 (.tmp 34)⟩,⟨true,some (30,true),some 36,67,.load 67 (.tmp 8)⟩,⟨false,some (30,true),some 37,4,.call ⟨.value (.func 67),#[.tmp 35,.tmp 36],#[67,67]⟩⟩,⟨true,some (30,true),some 38,4,.unOp .not 4 (.tmp 37)⟩,⟨true,some (27,false),some 39,4,.pick (.tmp 30) (.tmp 38) (.const (.bool false))⟩,⟨true,none,some 40,4,.pick (.tmp 27) (.const (.bool true)) (.tmp 39)⟩]) (.cond (.tmp 40) (.seq (.ops [⟨false,none,some 4,4,.assign (.const (.bool false))⟩]) (.ret)) (.skip))) mc29_l0_b2
theorem mc29_l0_eq:mc29_l0=.seq (.seq (.ops [⟨false,none,some 13,3,.move (.tmp 7)⟩,⟨false,none,some 14,39,.move (.tmp 1)⟩,⟨false,none,some 15,3,.call ⟨.builtin .len,#[.tmp 14],#[39]⟩⟩,⟨false,none,some 16,4,.binOp .lss 3 (.tmp 13) (.tmp 15) 3⟩]) (.cond (.tmp 16) (.skip) (.exit 0))) (.seq (.block 1 (.seq (.ops [⟨false,none,some 19,39,.move (.tmp 1)⟩,⟨false,none,some 20,3,.move (.tmp 7)⟩,⟨false,none,some 21,0,.indexAddr 39 (.tmp 19) (.tmp 20)⟩,⟨false,none,some 22,67,.load 67 (.tmp 21)⟩,⟨false,none,some 8,0,.alloc 67⟩,⟨false,none,none,0,.store 67 (.tmp 8) (.tmp 22)⟩]) mc29_l0_b1)) (.ops [⟨false,none,some 17,3,.move (.tmp 7)⟩,⟨false,none,some 18,3,.binOp .add 3 (.tmp 17) (.const (.int .i64 1)) 3⟩,⟨false,none,some 7,3,.assign (.tmp 18)⟩])):=rfl
section
variable {ov:Ov}
set_option maxHeartbeats 1000000 in
theorem part29b (M:Nat) (p:List HJb) (m o h k:Nat) (ma:Int) (hm:m < 6) (ho:o < 12) (hh:h < 4) (hma:1≤ma∧ma≤1000) (b1:0≤hrS p m h o∧hrS p m h o≤1000) (b2:0≤dayS p m h∧dayS p m h≤1000) (J H D:Nat) (hJH:¬ J=H) (hJD:¬ J=D) (hHD:¬ H=D) (w:AW) (gJ:w.heap.get J=some (.cells (jbC ⟨m,o,h,k,ma⟩) 67 false)) (gH:w.heap.get H=some (.cells ((hrL p).flatMap intC) 114 false)) (gD:w.heap.get D=some (.cells ((dyL p).flatMap intC) 115 false)) (lH:w.lim≤H) (lD:w.lim≤D)
  (v1 v2 v7:Value) (t:Tm) (t1:tget t 1=v1) (t2:tget t 2=v2) (t5:tget t 5=.pointer (some ⟨H,0,none⟩)) (t6:tget t 6=.pointer (some ⟨D,0,none⟩)) (t7:tget t 7=v7) (t8:tget t 8=.pointer (some ⟨J,0,none⟩)) (Q:Ex→Tm→AW→Prop)
  (hQ:∀ t w',w'.heap.get H=some (.cells ((hrL (p++[⟨m,o,h,k,ma⟩])).flatMap intC) 114 false)→w'.heap.get D=some (.cells ((dyL (p++[⟨m,o,h,k,ma⟩])).flatMap intC) 115 false)→(∀ b,b ≠ H→b ≠ D→w'.heap.get b=w.heap.get b)→w'.next=w.next→w'.lim=w.lim→tget t 1=v1→tget t 2=v2→tget t 5=.pointer (some ⟨H,0,none⟩)→tget t 6=.pointer (some ⟨D,0,none⟩)→tget t 7=v7→tget t 8=.pointer (some ⟨J,0,none⟩)→wp (exM Try.prog (run Try.prog ov M) mc29_l0_b3 t w') Q):wp (exM Try.prog (run Try.prog ov M) mc29_l0_b2 t w) Q:=by
 have i1:=fun w a=>ia114 w a hm
 have i2:=fun w a=>ia113 w a ho
 have i3:=fun w a=>ia74 w a hh
 have i4:=fun w a=>ia115 w a hm
 have a1:=int_at (hrL_at p hm ho hh)
 have a2:=int_at (dyL_at p hm hh)
 have f1:m * 48 + o * 4 + h + 1≤((hrL p).flatMap intC).length:=by rw [int_len,hrL_length]; omega
 have f2:m * 4 + h + 1≤((dyL p).flatMap intC).length:=by rw [int_len,dyL_length]; omega
 have s1:=int_set (hrL p) (m * 48 + o * 4 + h) (hrS p m h o + ma) (by rw [hrL_length]; omega)
 have s2:=int_set (dyL p) (m * 4 + h) (dayS p m h + ma) (by rw [dyL_length]; omega)
 have p1:=hrL_push p ⟨m,o,h,k,ma⟩ hm ho hh rfl rfl rfl
 have p2:=dyL_push p ⟨m,o,h,k,ma⟩ hm hh rfl rfl
 simp only at p1 p2
 rw [p1] at s1
 rw [p2] at s2
 have w1:IntKind.wrap .i64 (hrS p m h o + ma)=hrS p m h o + ma:=wrap64_in (by omega) (by omega)
 have w2:IntKind.wrap .i64 (dayS p m h + ma)=dayS p m h + ma:=wrap64_in (by omega) (by omega)
 obtain ⟨cs,hcs⟩:∃ cs,cs=(hrL p).flatMap intC:=⟨_,rfl⟩
 obtain ⟨ds,hds⟩:∃ ds,ds=(dyL p).flatMap intC:=⟨_,rfl⟩
 rw [← hcs] at a1 f1 s1 gH
 rw [← hds] at a2 f2 s2 gD
 clear hcs hds p1 p2
 have hHJ:¬ H=J:=fun e=>hJH e.symm
 have hDJ:¬ D=J:=fun e=>hJD e.symm
 have hDH:¬ D=H:=fun e=>hHD e.symm
 simp only [jbC] at gJ
 simp [mc29_l0_b2,t5,t6,t8,gJ,gH,gD,hJH,hJD,hHD,hHJ,hDJ,hDH,i1,i2,i3,i4,a1,a2,f1,f2,lH,lD,w1,w2]
 refine hQ _ _ ?_ ?_ ?_ ?_ ?_ ?_ ?_ ?_ ?_ ?_ ?_
 ·simp [hHD,s1]
 ·simp [s2]
 ·intro b hb1 hb2; simp [hb1,hb2]
 ·rfl
 ·rfl
 ·simp [t1]
 ·simp [t2]
 ·simp [t5]
 ·simp [t6]
 ·simp [t7]
 ·simp [t8]
end
section
variable {ov:Ov} {vs:List HVn} {hs:List HHd} {fs:List (List (Int × Int))} {vv hv fv pv:Value}
set_option maxHeartbeats 1000000 in
theorem part29c (M:Nat) (p':List HJb) (m o h k:Nat) (ma:Int) (hm:m < 6) (ho:o < 12) (hh:h < 4) (x:HHd) (hx:hs[h]?=some x) (J H D X:Nat) (w:AW) (hle:w.lim≤w.next) (hS:SeaV w vv hv fv vs hs fs) (gX:w.heap.get X=some (.cells [vv,hv,fv] 26 false)) (gJ:w.heap.get J=some (.cells (jbC ⟨m,o,h,k,ma⟩) 67 false)) (gH:w.heap.get H=some (.cells ((hrL p').flatMap intC) 114 false)) (gD:w.heap.get D=some (.cells ((dyL p').flatMap intC) 115 false)) (nJ:J < w.next) (nH:H < w.next) (nD:D < w.next) (nX:X < w.next)
  (v1 v7:Value) (t:Tm) (t1:tget t 1=v1) (t2:tget t 2=.pointer (some ⟨X,0,none⟩)) (t5:tget t 5=.pointer (some ⟨H,0,none⟩)) (t6:tget t 6=.pointer (some ⟨D,0,none⟩)) (t7:tget t 7=v7) (t8:tget t 8=.pointer (some ⟨J,0,none⟩)) (Q:Ex→Tm→AW→Prop)
  (hbad:∀ t w,(x.ra < hrS p' m h o∨x.da < dayS p' m h)→tget t 4=.bool false→Q .ret t w)
  (hgood:∀ t w',¬ (x.ra < hrS p' m h o∨x.da < dayS p' m h)→Up w w'→tget t 1=v1→tget t 2=.pointer (some ⟨X,0,none⟩)→tget t 5=.pointer (some ⟨H,0,none⟩)→tget t 6=.pointer (some ⟨D,0,none⟩)→tget t 7=v7→Q .normal t w'):wp (exM Try.prog (run Try.prog ov M) mc29_l0_b3 t w) Q:=by
 have i1:=fun w a=>ia114 w a hm
 have i2:=fun w a=>ia113 w a ho
 have i3:=fun w a=>ia74 w a hh
 have i4:=fun w a=>ia115 w a hm
 have a1:=int_at (hrL_at p' hm ho hh)
 have a2:=int_at (dyL_at p' hm hh)
 obtain ⟨cs,hcs⟩:∃ cs,cs=(hrL p').flatMap intC:=⟨_,rfl⟩
 obtain ⟨ds,hds⟩:∃ ds,ds=(dyL p').flatMap intC:=⟨_,rfl⟩
 rw [← hcs] at a1 gH
 rw [← hds] at a2 gD
 clear hcs hds
 obtain ⟨nv,nh,nf⟩:=hS.nj
 obtain ⟨q,iq,lq,_,nq⟩:=getR un23 sz77 hhC_length hS.h rfl hx
 have eJ:¬ J=w.next:=by omega
 have eH:¬ H=w.next:=by omega
 have eD:¬ D=w.next:=by omega
 have eX:¬ X=w.next:=by omega
 have u1:Up w ⟨(w.heap.put w.next (some (.cells [.int .i64 0,.int .i64 0,.int .i64 0,.int .i64 0,.int .i64 0] 77 false))).put w.next (some (.cells (hhC x) 77 false)),w.next + 1,w.lim⟩:=((Up.refl w).add _).put (Nat.le_refl _) (Nat.le_refl _)
 obtain ⟨x0,x1,x2,x3,x4⟩:=x
 simp only [jbC] at gJ
 simp only [hhC] at lq u1
 simp only at hbad hgood
 by_cases k1:x3 < hrS p' m h o
 ·simp [mc29_l0_b3,t2,t5,t6,t8,gX,gJ,gH,gD,eJ,eH,eD,eX,nv,nh,nf,iq,lq,hle,i1,i2,i3,i4,a1,a2,k1]
  exact hbad _ _ (.inl k1) (by simp)
 ·by_cases k2:x4 < dayS p' m h
  ·simp [mc29_l0_b3,t2,t5,t6,t8,gX,gJ,gH,gD,eJ,eH,eD,eX,nv,nh,nf,iq,lq,hle,i1,i2,i3,i4,a1,a2,k1,k2]
   exact hbad _ _ (.inr k2) (by simp)
  ·simp [mc29_l0_b3,t2,t5,t6,t8,gX,gJ,gH,gD,eJ,eH,eD,eX,nv,nh,nf,iq,lq,hle,i1,i2,i3,i4,a1,a2,k1,k2]
   exact hgood _ _ (by omega) u1 (by simp [t1]) (by simp [t2]) (by simp [t5]) (by simp [t6]) (by simp [t7])
theorem part29a (M:Nat) (h66:HasP ov 66 S66.F) (h67:HasP ov 67 S67.F) (l:List HJb) (i:Nat) (x:HJb) (hx:l[i]?=some x) (hlen:l.length≤2048) (w:AW) (hP:RowsV jbC w pv l) (hS:SeaV w vv hv fv vs hs fs) (hB:seaB vs hs fs=true) (J X:Nat) (gJ:w.heap.get J=some (.cells (jbC x) 67 false)) (gX:w.heap.get X=some (.cells [vv,hv,fv] 26 false)) (t:Tm) (t1:tget t 1=pv) (t2:tget t 2=.pointer (some ⟨X,0,none⟩)) (t7:tget t 7=.int .i64 (i:Nat)) (t8:tget t 8=.pointer (some ⟨J,0,none⟩)) (v5 v6:Value) (t5:tget t 5=v5) (t6:tget t 6=v6) (Q:Ex→Tm→AW→Prop)
  (hbad:∀ t w,(jobR vs hs fs.length x && ordB (l.take i) x)=false→tget t 4=.bool false→Q .ret t w)
  (hgood:∀ t,(jobR vs hs fs.length x && ordB (l.take i) x)=true→tget t 1=pv→tget t 2=.pointer (some ⟨X,0,none⟩)→tget t 5=v5→tget t 6=v6→tget t 7=.int .i64 (i:Nat)→tget t 8=.pointer (some ⟨J,0,none⟩)→wp (exM Try.prog (run Try.prog ov (M + 1)) mc29_l0_b2 t w) Q):wp (exM Try.prog (run Try.prog ov (M + 1)) mc29_l0_b1 t w) Q:=by
 obtain ⟨b1,b2,b3,b4,b5,b6,b7,b8⟩:=sea_parts hB
 obtain ⟨nv,nh,nf⟩:=hS.nj
 have ss:=same_sea hS
 have r66:=S66.call (P:=Try.prog) h66 (m:=M) (w:=w) ⟨vv,hv,fv,vs,hs,fs,x,rfl,hS,b1,by omega,b5,rfl⟩
 cases k1:jobR vs hs fs.length x with
 | false =>
  rw [k1] at r66 hbad
  obtain ⟨x1,x2,x3,x4,x5⟩:=x
  simp only [jbC] at gJ r66
  simp [mc29_l0_b1,t1,t2,t7,t8,gJ,gX,nv,nh,nf,ss,r66,smi5]
  exact hbad _ _ rfl (by simp)
 | true =>
  rw [k1] at r66 hbad hgood
  rcases Nat.eq_zero_or_pos i with h0 | h0
  ·subst h0
   have e:(true && ordB (l.take 0) x)=true:=by simp [ordB]
   obtain ⟨x1,x2,x3,x4,x5⟩:=x
   simp only [jbC] at gJ r66
   simp [mc29_l0_b1,t1,t2,t7,t8,gJ,gX,nv,nh,nf,ss,r66,smi5]
   exact hgood _ e (by simp [t1]) (by simp [t2]) (by simp [t5]) (by simp [t6]) (by simp [t7]) (by simp [t8])
  ·obtain ⟨n,rfl⟩:∃ n,i=n + 1:=⟨i - 1,by omega⟩
   have hlt:=(List.getElem?_eq_some_iff.1 hx).1
   obtain ⟨y,hy⟩:=lt_get (show n < l.length by omega)
   rw [ord_take hy] at hbad hgood
   obtain ⟨q,iq,lq,_,nq⟩:=getR un39 sz67 jbC_length hP rfl hy
   have r67:=S67.call (P:=Try.prog) h67 (m:=M) (w:=w) ⟨y,x,rfl,rfl⟩
   have hwk:IntKind.wrap .i64 (n:Int)=(n:Int):=wrap64_in (by omega) (by omega)
   have hpos':(0:Int) < (n:Int) + 1:=by omega
   cases k2:ltJ y x with
   | false =>
    rw [k2] at r67 hbad
    obtain ⟨x1,x2,x3,x4,x5⟩:=x
    obtain ⟨y1,y2,y3,y4,y5⟩:=y
    simp only [jbC] at gJ r66 r67 lq
    simp [mc29_l0_b1,t1,t2,t7,t8,gJ,gX,nv,nh,nf,ss,r66,smi5,hpos',hwk,iq,lq,r67]
    exact hbad _ _ rfl (by simp)
   | true =>
    rw [k2] at r67 hgood
    obtain ⟨x1,x2,x3,x4,x5⟩:=x
    obtain ⟨y1,y2,y3,y4,y5⟩:=y
    simp only [jbC] at gJ r66 r67 lq
    simp [mc29_l0_b1,t1,t2,t7,t8,gJ,gX,nv,nh,nf,ss,r66,smi5,hpos',hwk,iq,lq,r67]
    exact hgood _ rfl (by simp [t1]) (by simp [t2]) (by simp [t5]) (by simp [t6]) (by simp [t7]) (by simp [t8])
end
theorem jobR_parts {vs:List HVn} {hs:List HHd} {M:Nat} {j:HJb} (hB:∀ v ∈ vs,vnB v=true) (h:jobR vs hs M j=true):∃ (m o h k:Nat) (ma:Int) (x:HHd) (v:HVn),j=⟨m,o,h,k,ma⟩∧m < M∧o < 12∧hs[h]?=some x∧vs[k]?=some v∧canH x v o k=true∧1≤ma∧ma≤1000∧jobB vs.length hs.length M j=true:=by
 simp only [jobR,Bool.and_eq_true] at h
 obtain ⟨h1,h2⟩:=h
 have k1:=h1
 simp only [jobB,decide_eq_true_eq] at k1
 obtain ⟨x,hx⟩:=lt_get (show j.ha.toNat < hs.length by omega)
 obtain ⟨v,hv⟩:=lt_get (show j.vi.toNat < vs.length by omega)
 rw [hx,hv] at h2
 simp only [Bool.and_eq_true,inH,decide_eq_true_eq] at h2
 obtain ⟨c,d1,d2⟩:=h2
 have ho:=can_hour (vs:=vs) (hB v (List.mem_of_getElem? hv)) c
 obtain ⟨mo,hr,ha,vi,ma⟩:=j
 simp only at *
 refine ⟨mo.toNat,hr.toNat,ha.toNat,vi.toNat,ma,x,v,?_,by omega,by omega,hx,hv,?_,d1,d2,h1⟩
 ·rw [show ((mo.toNat:Nat):Int)=mo by omega,show ((hr.toNat:Nat):Int)=hr by omega,show ((ha.toNat:Nat):Int)=ha by omega,show ((vi.toNat:Nat):Int)=vi by omega]
 ·rw [show ((hr.toNat:Nat):Int)=hr by omega,show ((vi.toNat:Nat):Int)=vi by omega]; exact c
theorem jst_no {vs:List HVn} {hs:List HHd} {M:Nat} {p:List HJb} {j:HJb} (hU:UseOk hs p) (hb:∀ x ∈ hs,x.da≤1000) (h:(jobR vs hs M j && ordB p j)=false):jstB vs hs M p j=false:=by
 cases hj:jstB vs hs M p j with
 | false=>rfl
 | true =>
  obtain ⟨h1,h2,x,v,hx,hv,hc,d1,d2,_⟩:=step_parts hj
  have:=hb x (List.mem_of_getElem? hx)
  have:=hU.dayPos j.mo j.ha
  have e:jobR vs hs M j=true:=by
   unfold jobR
   rw [h2,hx,hv]
   simp only [hc,inH,Bool.true_and,Bool.and_eq_true,decide_eq_true_eq]
   omega
  rw [e,h1] at h
  cases h
theorem jst_yes {vs:List HVn} {hs:List HHd} {M:Nat} {p:List HJb} {m o h k:Nat} {ma:Int} {x:HHd} {v:HVn} (hx:hs[h]?=some x) (hv:vs[k]?=some v) (hc:canH x v o k=true) (h1:1≤ma) (hj:jobB vs.length hs.length M ⟨m,o,h,k,ma⟩=true) (ho:ordB p ⟨m,o,h,k,ma⟩=true) :
  jstB vs hs M p ⟨m,o,h,k,ma⟩=decide (¬ (x.ra < hrS (p++[⟨m,o,h,k,ma⟩]) m h o∨x.da < dayS (p++[⟨m,o,h,k,ma⟩]) m h)):=by
 have e:jstB vs hs M p ⟨m,o,h,k,ma⟩=(decide (1≤ma) && (decide (ma≤x.da - dayS p m h) && decide (ma≤x.ra - hrS p m h o))):=by
  unfold jstB
  rw [ho,hj]
  simp only [Int.toNat_natCast,hx,hv,hc,Bool.true_and]
 rw [e,hrS_push,dayS_push,if_pos ⟨rfl,rfl,rfl⟩,if_pos ⟨rfl,rfl⟩,Bool.eq_iff_iff]
 simp only [Bool.and_eq_true,decide_eq_true_eq]
 omega
section
variable {ov:Ov}
theorem al114L (w:AW):allocA Try.prog w 114=.val (.pointer (some ⟨w.next,0,none⟩)) ⟨w.heap.put w.next (some (.cells ((hrL []).flatMap intC) 114 false)),w.next + 1,w.lim⟩:=by
 rw [hrL_nil,al114]; rfl
theorem al115L (w:AW):allocA Try.prog w 115=.val (.pointer (some ⟨w.next,0,none⟩)) ⟨w.heap.put w.next (some (.cells ((dyL []).flatMap intC) 115 false)),w.next + 1,w.lim⟩:=by
 rw [dyL_nil,al115]; rfl
set_option maxHeartbeats 1000000 in
theorem run29 (ho:∀ args w,ov 29 args w=none) (h66:HasP ov 66 S66.F) (h67:HasP ov 67 S67.F)
  (vs:List HVn) (hs:List HHd) (fs:List (List (Int × Int))) (l:List HJb) (vv hv fv pv:Value) (w:AW) (hl:w.lim=w.next) (hS:SeaV w vv hv fv vs hs fs) (hP:RowsV jbC w pv l) (hB:seaB vs hs fs=true) :
  ∃ v w',(run Try.prog ov 2).call 29 [.agg ⟨[vv,hv,fv]⟩,pv] w .none=.ok (.ret v) w' .none∧v=.bool (planB vs hs fs.length l):=by
 refine call_wp text29 (by simp) (ho _ _) ?_
 obtain ⟨b1,b2,b3,b4,b5,b6,b7,b8⟩:=sea_parts hB
 obtain ⟨nv,nh,nf⟩:=hS.nj
 have hl1:=fun w2=>len39V (w':=w2) hP
 have pj:notJunk pv=some pv:=by obtain ⟨x,y,rfl⟩:=hP.len; rfl
 by_cases hbig:2048 < l.length
 ·have hbig':(2048:Int) < (l.length:Int):=by omega
  have e:planB vs hs fs.length l=false:=by
   unfold planB; rw [decide_eq_false (by omega)]; rfl
  simp [mc29,cellsOf_agg,nv,nh,nf,pj,hl1,hbig,hbig',e,tupV]
 have hbig':¬ (2048:Int) < (l.length:Int):=by omega
 have hlen:l.length≤2048:=by omega
 have e0:planB vs hs fs.length l=planG vs hs fs.length [] l:=by
  unfold planB; rw [decide_eq_true hlen]; rfl
 have hda:∀ x ∈ hs,x.da≤1000∧x.ra≤100∧0≤x.da∧0≤x.ra:=fun x hx=>by
  have:=b7 x hx
  simp only [hhB,inH,Bool.and_eq_true,decide_eq_true_eq] at this
  omega
 simp [-al114, -al115,al114L,al115L,mc29,cellsOf_agg,nv,nh,nf,pj,hl1,hbig,hbig']
 rw [e0]
 refine wp_seqX (wp_blockX (wp_rounds (fun i t w'=>Up w w'∧w.next + 3≤w'.next∧w'.heap.get w.next=some (.cells [vv,hv,fv] 26 false)∧w'.heap.get (w.next + 1)=some (.cells ((hrL (l.take i)).flatMap intC) 114 false)∧w'.heap.get (w.next + 1 + 1)=some (.cells ((dyL (l.take i)).flatMap intC) 115 false)∧UseOk hs (l.take i)∧planG vs hs fs.length (l.take i) (l.drop i)=planG vs hs fs.length [] l∧tget t 1=pv∧tget t 2=.pointer (some ⟨w.next,0,none⟩)∧tget t 5=.pointer (some ⟨w.next + 1,0,none⟩)∧tget t 6=.pointer (some ⟨w.next + 1 + 1,0,none⟩)∧tget t 7=.int .i64 (i:Nat)∧i≤l.length) 3000 (by decide) ?_ ?_))
 ·refine ⟨((((Up.refl w).add _).put (Nat.le_succ _) (Nat.le_succ _)).put (by omega) (Nat.le_succ _)),by show w.next + 3≤w.next + 1 + 1 + 1; omega,by simp,by simp,by simp,UseOk.nil fun x hx=>by have:=hda x hx; omega,by simp,by simp,by simp,by simp,by simp,by simp,Nat.zero_le _⟩
 ·rintro i t w' ⟨hu,hn,gX,gH,gD,hU,he,t1,t2,t5,t6,t7,hi⟩
  have hle:w'.lim≤w'.next:=by rw [hu.lim]; omega
  by_cases hlt:i < l.length
  ·obtain ⟨x,hx⟩:=lt_get hlt
   have hw1':IntKind.wrap .i64 ((i:Int) + 1)=(i:Int) + 1:=wrap64_in (by omega) (by omega)
   obtain ⟨p,hia,hld,_,hpb⟩:=getR un39 sz67 jbC_length (hP.up hu) rfl hx
   obtain ⟨w1,hw1⟩:∃ w1:AW,w1=⟨(w'.heap.put w'.next (some (.cells [.int .i64 0,.int .i64 0,.int .i64 0,.int .i64 0,.int .i64 0] 67 false))).put w'.next (some (.cells (jbC x) 67 false)),w'.next + 1,w'.lim⟩:=⟨_,rfl⟩
   have u4:Up w' w1:=by rw [hw1]; exact ((Up.refl w').add _).put (Nat.le_refl _) (Nat.le_refl _)
   have n1:w1.next=w'.next + 1:=by rw [hw1]
   have gJ:w1.heap.get w'.next=some (.cells (jbC x) 67 false):=by rw [hw1]; simp
   have gX1:=(u4.at (show w.next < w'.next by omega)).trans gX
   have gH1:=(u4.at (show w.next + 1 < w'.next by omega)).trans gH
   have gD1:=(u4.at (show w.next + 1 + 1 < w'.next by omega)).trans gD
   rw [drop_cons hx] at he
   have he:(jstB vs hs fs.length (l.take i) x && planG vs hs fs.length (l.take i++[x]) (l.drop (i + 1)))=planG vs hs fs.length [] l:=he
   have hlt':(i:Int) < (l.length:Int):=by omega
   obtain ⟨y1,y2,y3,y4,y5,hxe⟩:∃ y1 y2 y3 y4 y5:Int,x=⟨y1,y2,y3,y4,y5⟩:=⟨_,_,_,_,_,rfl⟩
   have hld':=hld
   have hw1e:=hw1
   rw [hxe] at hld' hw1e
   simp only [jbC] at hld' hw1e
   simp [mc29_l0_eq,t1,t7,hl1,hlt,hlt',hia,hld',hle]
   rw [← hw1e]
   refine wp_seqX (wp_blockX (part29a (ov:=ov) (pv:=pv) 0 h66 h67 l i x hx hlen w1 (hP.up (hu.trans u4)) (hS.up (hu.trans u4)) hB w'.next w.next gJ gX1 _ ?_ ?_ ?_ ?_ (.pointer (some ⟨w.next + 1,0,none⟩)) (.pointer (some ⟨w.next + 1 + 1,0,none⟩)) ?_ ?_ _ ?_ ?_))
   ·simp [t1]
   ·simp [t2]
   ·simp [t7]
   ·simp
   ·simp [t5]
   ·simp [t6]
   ·intro t w4 e t4
    rw [jst_no hU (fun x hx=>(hda x hx).1) e] at he
    simp [t4,tupV,← he]
   ·intro t e s1 s2 s5 s6 s7 s8
    have e':=e
    simp only [Bool.and_eq_true] at e'
    obtain ⟨m,o,h,k,ma,xh,xv,rfl,hm,ho',hxh,hxv,hc,ma1,ma2,hjb⟩:=jobR_parts b6 e'.1
    have hh4:=(List.getElem?_eq_some_iff.1 hxh).1
    have hxd:=hda xh (List.mem_of_getElem? hxh)
    have d1:=hU.day m h xh hxh
    have d2:=hU.dayPos m h
    have d3:=hU.hr m h o xh hxh
    have d4:=hU.hrPos m h o
    have ej:=jst_yes (p:=l.take i) hxh hxv hc ma1 hjb e'.2
    refine part29b (ov:=ov) 1 (l.take i) m o h k ma (by omega) (by omega) (by omega) ⟨ma1,ma2⟩ ⟨d4,by omega⟩ ⟨d2,by omega⟩ w'.next (w.next + 1) (w.next + 1 + 1) (by omega) (by omega) (by omega) w1 gJ gH1 gD1 (by rw [u4.lim,hu.lim]; omega) (by rw [u4.lim,hu.lim]; omega) pv (.pointer (some ⟨w.next,0,none⟩)) (.int .i64 (i:Nat)) t s1 s2 s5 s6 s7 s8 _ ?_
    intro t w5 gH5 gD5 keep n5 l5 r1 r2 r5 r6 r7 r8
    have u5:Up w w5:=⟨fun b hb=>by rw [keep b (by omega) (by omega)]; exact (hu.trans u4).at hb,by rw [n5]; exact (hu.trans u4).next,by rw [l5]; exact (hu.trans u4).lim⟩
    refine part29c (ov:=ov) 1 (l.take i++[⟨m,o,h,k,ma⟩]) m o h k ma (by omega) (by omega) (by omega) xh hxh w'.next (w.next + 1) (w.next + 1 + 1) w.next w5 (by rw [n5,l5,u4.lim,hu.lim]; omega) (hS.up u5) (by rw [keep _ (by omega) (by omega)]; exact gX1) (by rw [keep _ (by omega) (by omega)]; exact gJ) gH5 gD5 (by omega) (by omega) (by omega) (by omega) pv (.int .i64 (i:Nat)) t r1 r2 r5 r6 r7 r8 _ ?_ ?_
    ·intro t w6 hbad t4
     rw [ej,decide_eq_false (fun hn=>hn hbad)] at he
     simp [t4,tupV,← he]
    ·intro t w6 hg u6 q1 q2 q5 q6 q7
     have hj:jstB vs hs fs.length (l.take i) ⟨m,o,h,k,ma⟩=true:=by rw [ej]; exact decide_eq_true hg
     rw [hj] at he
     have n6:=u6.next
     simp [q1,q2,q5,q6,q7,hw1']
     rw [take_push hx]
     refine ⟨by omega,u5.trans u6,by omega,?_,?_,?_,hU.push hj,by simpa using he,by omega⟩
     ·rw [u6.at (by omega),keep _ (by omega) (by omega)]; exact gX1
     ·rw [u6.at (by omega)]; exact gH5
     ·rw [u6.at (by omega)]; exact gD5
  ·have hi':i=l.length:=by omega
   have:planG vs hs fs.length [] l=true:=by rw [← he,List.drop_eq_nil_of_le (by omega)]; rfl
   simp [mc29_l0_eq,t1,t7,hl1,hi',this,tupV]
end
end Go.Proofs.Ytiokkkjahkhbfaa.walk
namespace Go.Sh
open Go
def arrL (n:Nat) (f:Nat→Int):List Int:=(List.range n).map f
theorem arrL_length (n:Nat) (f:Nat→Int):(arrL n f).length=n:=by simp [arrL]
theorem arrL_at {n:Nat} {f:Nat→Int} {k:Nat} (h:k < n):(arrL n f)[k]?=some (f k):=by
 unfold arrL; rw [List.getElem?_map,List.getElem?_range h]; rfl
theorem arrL_set {n:Nat} {f f':Nat→Int} {i:Nat} {z:Int} (h:∀ k,k < n→f' k=if k=i then z else f k):(arrL n f).set i z=arrL n f':=by
 apply List.ext_getElem?
 intro k
 rw [List.getElem?_set,arrL_length]
 by_cases hk:k < n
 ·rw [arrL_at hk,arrL_at hk,h k hk]
  by_cases e:i=k
  ·rw [if_pos e,if_pos (by omega),if_pos e.symm]
  ·rw [if_neg e,if_neg (Ne.symm e)]
 ·have a:(arrL n f)[k]?=none:=List.getElem?_eq_none (by rw [arrL_length]; omega)
  have b:(arrL n f')[k]?=none:=List.getElem?_eq_none (by rw [arrL_length]; omega)
  rw [a,b]; split <;> (try split) <;> first | rfl | omega
theorem arrL_zero {n:Nat} {f:Nat→Int} (h:∀ k,k < n→f k=0):arrL n f=List.replicate n 0:=by
 apply List.ext_getElem?
 intro k
 by_cases hk:k < n
 ·rw [arrL_at hk,h k hk,List.getElem?_replicate,if_pos hk]
 ·rw [List.getElem?_eq_none (by rw [arrL_length]; omega),List.getElem?_eq_none (by rw [List.length_replicate]; omega)]
def hdL (tr G:List (List Int)):List Int:=arrL 36 fun k=>g2 tr ((k / 6:Nat):Int) ((k % 6:Nat):Int) - g2 G ((k / 6:Nat):Int) ((k % 6:Nat):Int)
def hfL (p:List HJb):List Int:=arrL 36 fun k=>hadF p ((k / 6:Nat):Int) ((k % 6:Nat):Int)
def pfL (p:List HJb):List Int:=arrL 6 fun k=>podF p (k:Int)
theorem hdL_nil (tr:List (List Int)):hdL tr tr=List.replicate 36 0:=arrL_zero fun k _=>by omega
theorem hfL_nil:hfL []=List.replicate 36 0:=arrL_zero fun k _=>by simp [hadF]
theorem pfL_nil:pfL []=List.replicate 6 0:=arrL_zero fun k _=>by simp [podF]
theorem hdL_at (tr G:List (List Int)) {m v:Nat} (hm:m < 6) (hv:v < 6):(hdL tr G)[m * 6 + v]?=some (g2 tr m v - g2 G m v):=by
 unfold hdL
 rw [arrL_at (by omega),show (m * 6 + v) / 6=m by omega,show (m * 6 + v) % 6=v by omega]
theorem hfL_at (p:List HJb) {m v:Nat} (hm:m < 6) (hv:v < 6):(hfL p)[m * 6 + v]?=some (hadF p m v):=by
 unfold hfL
 rw [arrL_at (by omega),show (m * 6 + v) / 6=m by omega,show (m * 6 + v) % 6=v by omega]
theorem pfL_at (p:List HJb) {v:Nat} (hv:v < 6):(pfL p)[v]?=some (podF p v):=arrL_at hv
theorem hdL_push {M V nh:Nat} {vs:List HVn} {tr G:List (List Int)} {P:List Int} (h:GrOk M V vs G P) {j:HJb} (hj:jobB V nh M j=true) (n:Int) {m v:Nat} (hm:m < 6) (hv:v < 6) (e1:j.mo=m) (e2:j.vi=v):(hdL tr G).set (m * 6 + v) (g2 tr m v - g2 G m v + n)=hdL tr (stG G j n):=by
 refine arrL_set fun k hk=>?_
 rw [g2_st h hj]
 by_cases e:k=m * 6 + v
 ·rw [if_pos e,if_pos (by omega),show k / 6=m by omega,show k % 6=v by omega]; omega
 ·rw [if_neg e,if_neg (by omega)]
theorem hfL_push (p:List HJb) (j:HJb) {m v:Nat} (hm:m < 6) (hv:v < 6) (e1:j.mo=m) (e2:j.vi=v):(hfL p).set (m * 6 + v) (hadF p m v + j.ma)=hfL (p++[j]):=by
 refine arrL_set fun k hk=>?_
 rw [hadF_push]
 by_cases e:k=m * 6 + v
 ·rw [if_pos e,if_pos (by omega),show k / 6=m by omega,show k % 6=v by omega]
 ·rw [if_neg e,if_neg (by omega),Int.add_zero]
theorem pfL_push (p:List HJb) (j:HJb) {v:Nat} (hv:v < 6) (e2:j.vi=v):(pfL p).set v (podF p v + j.ma)=pfL (p++[j]):=by
 refine arrL_set fun k hk=>?_
 rw [podF_push]
 by_cases e:k=v
 ·rw [if_pos e,if_pos (by omega),e]
 ·rw [if_neg e,if_neg (by omega),Int.add_zero]
end Go.Sh
namespace Go.Proofs.Ytiokkkjahkhbfaa.walk
open Go Go.Sh
set_option maxRecDepth 100000
def S84:PSpec where
 R args w v:=∃ (x:Value) (L:List Int),args=[x]∧RowsV intC w x L∧L.length≤10∧(∀ z ∈ L,0≤z∧z≤100000)∧v=.int .i64 L.sum
 uniq:=by
  rintro _ _ _ _ ⟨x,L,rfl,h1,_,_,rfl⟩ ⟨_,L',h,h2,_,_,rfl⟩
  cases h
  rw [h1.uniq (m:=1) intC_length intC_inj h2]
 shut h:=h
theorem sum_tk {L:List Int} {i:Nat} {z:Int} (h:L[i]?=some z):(L.take (i + 1)).sum=(L.take i).sum + z:=by
 rw [List.take_add_one,h,List.sum_append]; simp
theorem sum_bd {L:List Int} (h:∀ z ∈ L,0≤z∧z≤100000) (hl:L.length≤10):0≤L.sum∧L.sum≤1000000:=by
 have:∀ L:List Int,(∀ z ∈ L,0≤z∧z≤100000)→0≤L.sum∧L.sum≤100000 * (L.length:Int):=by
  intro L
  induction L with
  | nil=>intro _; simp
  | cons a L ih =>
   intro h
   have h1:=h a (by simp)
   have h2:=ih fun z hz=>h z (by simp [hz])
   rw [List.sum_cons,List.length_cons]
   omega
 have:=this L h
 omega
theorem run84 {ov:Ov} (ho:∀ args w,ov 84 args w=none) (x:Value) (L:List Int) (hL:L.length≤10) (hb:∀ z ∈ L,0≤z∧z≤100000) (w:AW) (hx:RowsV intC w x L):∃ v w',(run Try.prog ov 2).call 84 [x] w .none=.ok (.ret v) w' .none∧v=.int .i64 L.sum:=by
 refine call_wp text84 (by simp) (ho _ _) ?_
 have hl1:=fun w2=>len42V (w':=w2) hx
 simp [mc84,hl1]
 refine wp_seqX (wp_blockX (wp_rounds (fun i t w'=>w'=w∧tget t 3=.int .i64 (L.take i).sum∧tget t 6=x∧tget t 7=.int .i64 (L.length:Nat)∧tget t 8=.int .i64 (i:Nat)∧i≤L.length) 20 (by decide) ⟨rfl,by simp,by simp,by simp,by simp,Nat.zero_le _⟩ ?_))
 rintro i t w' ⟨rfl,t3,t6,t7,t8,hi⟩
 by_cases hlt:i < L.length
 ·obtain ⟨z,hz⟩:=lt_get hlt
  obtain ⟨p,ia,_,ld,_⟩:=getR un42 sz3 intC_length hx rfl hz
  have ld:=ld 0 _ rfl
  simp only [Nat.add_zero] at ld
  have hw1:IntKind.wrap .i64 ((i:Int) + 1)=(i:Int) + 1:=wrap64_in (by omega) (by omega)
  have b1:=sum_bd (L:=L.take i) (fun y hy=>hb y (List.mem_of_mem_take hy)) (by rw [List.length_take]; omega)
  have b2:=hb z (List.mem_of_getElem? hz)
  have hw2:IntKind.wrap .i64 ((L.take i).sum + z)=(L.take i).sum + z:=wrap64_in (by omega) (by omega)
  simp [mc84_l0,t3,t6,t7,t8,hlt,ia,ld,hw1,hw2]
  exact ⟨by omega,(sum_tk hz).symm,hlt⟩
 ·have hi':i=L.length:=by omega
  subst hi'
  rw [List.take_length] at t3
  simp [mc84_l0,t3,t7,t8,tupV]
theorem run37 {ov:Ov} (ho:∀ args w,ov 37 args w=none) (x:Value) (L:List Int) (hL:L.length≤10) (hb:∀ z ∈ L,0≤z∧z≤100000) (w:AW) (hx:RowsV intC w x L):∃ v w',(run Try.prog ov 2).call 37 [x] w .none=.ok (.ret v) w' .none∧v=.int .i64 L.sum:=by
 refine call_wp text37 (by simp) (ho _ _) ?_
 have hl1:=fun w2=>len42V (w':=w2) hx
 simp [mc37]
 refine wp_seqX (wp_blockX (wp_rounds (fun i t w'=>w'=w∧tget t 3=.int .i64 (L.take i).sum∧tget t 0=x∧tget t 4=.int .i64 (i:Nat)∧i≤L.length) 20 (by decide) ⟨rfl,by simp,by simp,by simp,Nat.zero_le _⟩ ?_))
 rintro i t w' ⟨rfl,t3,t0,t4,hi⟩
 by_cases hlt:i < L.length
 ·obtain ⟨z,hz⟩:=lt_get hlt
  obtain ⟨p,ia,_,ld,_⟩:=getR un42 sz3 intC_length hx rfl hz
  have ld:=ld 0 _ rfl
  simp only [Nat.add_zero] at ld
  have hw1:IntKind.wrap .i64 ((i:Int) + 1)=(i:Int) + 1:=wrap64_in (by omega) (by omega)
  have b1:=sum_bd (L:=L.take i) (fun y hy=>hb y (List.mem_of_mem_take hy)) (by rw [List.length_take]; omega)
  have b2:=hb z (List.mem_of_getElem? hz)
  have hw2:IntKind.wrap .i64 ((L.take i).sum + z)=(L.take i).sum + z:=wrap64_in (by omega) (by omega)
  have hlt':(i:Int) < (L.length:Int):=by omega
  simp [mc37_l0,t3,t0,t4,hl1,hlt,hlt',ia,ld,hw1,hw2]
  exact ⟨by omega,(sum_tk hz).symm,hlt⟩
 ·have hi':i=L.length:=by omega
  subst hi'
  rw [List.take_length] at t3
  simp [mc37_l0,t3,t0,t4,hl1,tupV]
theorem list42:isList Try.prog 42=true:=by kernel_rfl
theorem elem42:elemA Try.prog 42=some 3:=by kernel_rfl
theorem small3:smallT Try.prog 3=true:=by kernel_rfl
theorem eqn42 (a:Addr) (n c:Nat) (w:AW):(binW Try.prog .eql 42 true).val (.slice (some a) n c) (.slice none 0 0) w=.val (.bool false) w:=by kernel_rfl
theorem call85 {ov:Ov} (M:Nat) (ho:∀ args w,ov 85 args w=none) (L:List Int) (hL:L.length≤1000) (h0:L ≠ []) (x:Value) (w:AW) (hl:w.lim≤w.next) (hx:RowsV intC w x L) :
  ∃ v w',(run Try.prog ov (M + 1)).call 85 [x] w .none=.ok (.ret v) w' .none∧v=.slice (some ⟨w.next + 1,0,none⟩) L.length L.length∧w'.heap.get (w.next + 1)=some (.cells (L.flatMap intC) 3 false)∧w'.next=w.next + 1 + 1∧Up w w':=by
 refine call_wp text85 (by simp) (ho _ _) ?_
 have u1:Up w ⟨w.heap.put w.next (some (.cells [] 3 false)),w.next + 1,w.lim⟩:=(Up.refl w).add _
 obtain ⟨s1,s2⟩:=src_rows intC_length (by decide) (hx.up u1) h0
 have hlp:0 < L.length:=List.length_pos_iff.2 h0
 have hap:=append_lit (P:=Try.prog) list42 elem42 sz3 small3 (B:=w.next) s2 s1 (flat_length intC_length L) hlp (by omega)
 obtain ⟨b,off,sq,c,rfl,hr⟩:=hx.at_ 0 hlp
 have nj:notJunk (.slice (some ⟨b,off,sq⟩) L.length c)=some (.slice (some ⟨b,off,sq⟩) L.length c):=rfl
 simp only at hap
 simp [mc85,isConst,eqn42,hap,nj,tupV]
 exact u1.add _
def eqE:PSpec where
 R args w v:=∃ (a b:Value) (L:List Int),args=[a,b]∧RowsV intC w a L∧RowsV intC w b L∧L.length≤1000∧v=.bool true
 uniq:=by rintro _ _ _ _ ⟨_,_,_,rfl,_,_,_,rfl⟩ ⟨_,_,_,_,_,_,_,rfl⟩; rfl
 shut h:=h
theorem run23 {ov:Ov} (ho:∀ args w,ov 23 args w=none) (L:List Int) (hlen:L.length≤1000) (u v:Value) (w:AW) (hu:RowsV intC w u L) (hv:RowsV intC w v L):∃ y w',(run Try.prog ov 2).call 23 [u,v] w .none=.ok (.ret y) w' .none∧y=.bool true:=by
 refine call_wp text23 (by simp) (ho _ _) ?_
 have hlu:=fun w2=>len42V (w':=w2) hu
 have hlv:=fun w2=>len42V (w':=w2) hv
 have su:=same_rows hu
 have sv:=same_rows hv
 simp [mc23,hlu,hlv]
 refine wp_seqX (wp_blockX (wp_rounds (fun i t w'=>w'=w∧tget t 0=u∧tget t 1=v∧tget t 5=.bool true∧tget t 6=.int .i64 (i:Nat)∧i≤L.length) 2000 (by decide) ⟨rfl,by simp,by simp,by simp,by simp,Nat.zero_le _⟩ ?_))
 rintro i t w' ⟨rfl,t0,t1,t5,t6,hi⟩
 by_cases hlt:i < L.length
 ·obtain ⟨z,hz⟩:=lt_get hlt
  obtain ⟨p,ia,_,ld,_⟩:=getR un42 sz3 intC_length hu rfl hz
  obtain ⟨q,ib,_,le,_⟩:=getR un42 sz3 intC_length hv rfl hz
  have ld:=ld 0 _ rfl
  have le:=le 0 _ rfl
  simp only [Nat.add_zero] at ld le
  have hw1:IntKind.wrap .i64 ((i:Int) + 1)=(i:Int) + 1:=wrap64_in (by omega) (by omega)
  simp [mc23_l0,t0,t1,t5,t6,hlt,ia,ib,ld,le,hlu,hw1,su,sv]
  exact ⟨by omega,hlt⟩
 ·have hi':i=L.length:=by omega
  subst hi'
  simp [mc23_l0,t0,t5,t6,hlu,tupV]
def nilS:Value:=.slice none 0 0
def slV (V c:Nat):Value:=.slice (some ⟨c,0,none⟩) V V
theorem repl_one (x:Value):∀ n:Nat,repl [x] n=List.replicate n x
 | 0=>rfl
 | n + 1=>by rw [List.replicate_succ,← repl_one x n]; show appL [x] (repl [x] n)=_; rw [appL_eq]; rfl
theorem mk27 (n:Nat) (hn:n≤1000) (w:AW):makeSliceA Try.prog w 27 (.int .i64 (n:Int)) (.int .i64 (n:Int))=.val (.slice (some ⟨w.next,0,none⟩) n n) ⟨w.heap.put w.next (some (.cells (List.replicate n nilS) 42 false)),w.next + 1,w.lim⟩:=by
 rw [make_eq (e:=42) (z:=nilS) (by kernel_rfl) (by kernel_rfl) (by kernel_rfl) n hn w,← repl_one]; rfl
theorem mk42 (n:Nat) (hn:n≤1000) (w:AW):makeSliceA Try.prog w 42 (.int .i64 (n:Int)) (.int .i64 (n:Int))=.val (.slice (some ⟨w.next,0,none⟩) n n) ⟨w.heap.put w.next (some (.cells ((List.replicate n (0:Int)).flatMap intC) 3 false)),w.next + 1,w.lim⟩:=by
 rw [make_eq (e:=3) (z:=.int .i64 0) (by kernel_rfl) (by kernel_rfl) (by kernel_rfl) n hn w,← repl_flat]; rfl
structure GrV (n0:Nat) (w:AW) (V g M:Nat) (cs:List Nat) (G:List (List Int)):Prop where
 gg:w.heap.get g=some (.cells (cs.map (slV V)++List.replicate (M - cs.length) nilS) 42 false)
 at_:∀ (m c:Nat) r,cs[m]?=some c→G[m]?=some r→w.heap.get c=some (.cells (r.flatMap intC) 3 false)∧n0≤c∧c < w.next∧c ≠ g
 inj:∀ (m m' c:Nat),cs[m]?=some c→cs[m']?=some c→m=m'
 glo:n0≤g
 ghi:g < w.next
theorem GrV.up {n0:Nat} {w w':AW} {V g M:Nat} {cs:List Nat} {G:List (List Int)} (hl:cs.length≤G.length) (h:GrV n0 w V g M cs G) (u:Up w w'):GrV n0 w' V g M cs G :=
 ⟨by rw [u.at h.ghi]; exact h.gg,fun m c r hc hr=>by obtain ⟨a,b,d,e⟩:=h.at_ m c r hc hr; exact ⟨by rw [u.at d]; exact a,b,Nat.lt_of_lt_of_le d u.next,e⟩,h.inj,h.glo,Nat.lt_of_lt_of_le h.ghi u.next⟩
theorem GrV.lt {n0:Nat} {w:AW} {V g M:Nat} {cs:List Nat} {G:List (List Int)} (hl:cs.length≤G.length) (h:GrV n0 w V g M cs G) {m c:Nat} (hc:cs[m]?=some c):c < w.next:=by
 obtain ⟨r,hr⟩:=lt_get (show m < G.length by have:=(List.getElem?_eq_some_iff.1 hc).1; omega)
 exact (h.at_ m c r hc hr).2.2.1
section
variable {ov:Ov} {tv:Value} {tr:List (List Int)} {w0:AW}
theorem loop58a (K:Nat) (h85:∀ args w,ov 85 args w=none) (hT:Rows2 intC w0 tv tr) (V g:Nat) (hV:1≤V∧V≤6) (hM:tr.length≤6) (hrl:∀ r ∈ tr,r.length=V) (hg:w0.next≤g) (hl0:w0.lim≤w0.next) (w:AW) (hu:Up w0 w) (gg:w.heap.get g=some (.cells (List.replicate tr.length nilS) 42 false)) (hgn:g < w.next) (X:Nat) (ox:AObj) (gX:w.heap.get X=some ox) (hXg:¬ X=g) (hXn:X < w.next)
  (v1 v2 v3:Value) (t:Tm) (t1:tget t 1=v1) (t2:tget t 2=v2) (t3:tget t 3=v3) (t7:tget t 7=.int .i64 0) (t8:tget t 8=.slice (some ⟨g,0,none⟩) tr.length tr.length) (t19:tget t 19=tv) (t20:tget t 20=.int .i64 (tr.length:Nat)) (t21:tget t 21=.int .i64 0) (Q:Ex→Tm→AW→Prop)
  (hQ:∀ t w cs,Up w0 w→cs.length=tr.length→GrV w0.next w V g tr.length cs tr→w.heap.get X=some ox→X < w.next→tget t 1=v1→tget t 2=v2→tget t 3=v3→tget t 7=.int .i64 0→tget t 8=.slice (some ⟨g,0,none⟩) tr.length tr.length→Q (.exit 0) t w):wp (exM Try.prog (run Try.prog ov (K + 1)) (.loop mc58_l0) t w) Q:=by
 refine wp_rounds (fun i t w=>(∃ cs,cs.length=i∧GrV w0.next w V g tr.length cs tr)∧Up w0 w∧w.heap.get X=some ox∧X < w.next∧tget t 1=v1∧tget t 2=v2∧tget t 3=v3∧tget t 7=.int .i64 0∧tget t 8=.slice (some ⟨g,0,none⟩) tr.length tr.length∧tget t 19=tv∧tget t 20=.int .i64 (tr.length:Nat)∧tget t 21=.int .i64 (i:Nat)∧i≤tr.length) 20 (by decide) ⟨⟨[],rfl,⟨by simpa using gg,fun m c r hc _=>by simp at hc,fun m m' c hc _=>by simp at hc,hg,hgn⟩⟩,hu,gX,hXn,t1,t2,t3,t7,t8,t19,t20,by simpa using t21,Nat.zero_le _⟩ ?_
 clear t1 t2 t3 t7 t8 t19 t20 t21 gg hgn gX hXn hu t w
 rintro i t w ⟨⟨cs,hcl,hG⟩,hu,gX,hXn,t1,t2,t3,t7,t8,t19,t20,t21,hi⟩
 by_cases hlt:i < tr.length
 ·obtain ⟨r,hr⟩:=lt_get hlt
  have hrV:=hrl r (List.mem_of_getElem? hr)
  obtain ⟨p,ra,rc,hia,hld,hpb,hrow⟩:=Rows2.get un27 sz42 (hT.up hu) rfl hr
  have hw1:IntKind.wrap .i64 ((i:Int) + 1)=(i:Int) + 1:=wrap64_in (by omega) (by omega)
  have hle:w.lim≤w.next:=by rw [hu.lim]; have:=hu.next; omega
  obtain ⟨_,w2,c85,rfl,hc2,n2,u2⟩:=call85 (ov:=ov) K h85 r (by omega) (by intro e; rw [e] at hrV; simp at hrV; omega) _ w hle hrow
  have hG2:=hG.up (by omega) u2
  have gX2:=(u2.at hXn).trans gX
  have hia2:=fun w'=>ia27 w' ⟨g,0,none⟩ tr.length tr.length .i64 i hlt
  have gg2:=hG2.gg
  have hcl2:(cs.map (slV V)++List.replicate (tr.length - cs.length) nilS).length=tr.length:=by simp; omega
  have hfit:i + 1≤(cs.map (slV V)++List.replicate (tr.length - cs.length) nilS).length:=by omega
  have hlg:w2.lim≤g:=by rw [u2.lim,hu.lim]; omega
  have hset:(cs.map (slV V)++List.replicate (tr.length - cs.length) nilS).take i++(slV V (w.next + 1)::(cs.map (slV V)++List.replicate (tr.length - cs.length) nilS).drop (i + 1))=(cs++[w.next + 1]).map (slV V)++List.replicate (tr.length - (cs++[w.next + 1]).length) nilS:=by
   obtain ⟨k,hk⟩:∃ k,tr.length - cs.length=k + 1:=⟨tr.length - cs.length - 1,by omega⟩
   have e1:i=(cs.map (slV V)).length:=by rw [List.length_map,hcl]
   have e2:tr.length - (cs++[w.next + 1]).length=k:=by rw [List.length_append]; simp; omega
   rw [e2,hk,List.replicate_succ,e1,List.take_left,← List.drop_drop,List.drop_left,List.map_append,List.append_assoc]
   rfl
  obtain ⟨os,hos⟩:∃ os,os=cs.map (slV V)++List.replicate (tr.length - cs.length) nilS:=⟨_,rfl⟩
  rw [← hos] at hset hfit gg2
  have es:slV V (w.next + 1)=.slice (some ⟨w.next + 1,0,none⟩) V V:=rfl
  rw [es] at hset
  rw [hrV] at c85
  have hgw:¬ w.next + 1=g:=by have:=hG.ghi; omega
  simp [mc58_l0,t8,t19,t20,t21,hlt,hia,hld,hrV,c85,hia2,gg2,hfit,hlg,hw1]
  refine ⟨by omega,⟨cs++[w.next + 1],by simp; omega,⟨?_,?_,?_,hG2.glo,hG2.ghi⟩⟩,?_,?_,by omega,t1,t2,t3,t7,by omega⟩
  ·simp [hset]
  ·intro m c r' hc hr'
   show (w2.heap.put g _).get c=_∧_
   by_cases hm:m < cs.length
   ·rw [List.getElem?_append_left hm] at hc
    obtain ⟨a,b,d,e⟩:=hG2.at_ m c r' hc hr'
    exact ⟨by rw [get_put,if_neg e]; exact a,b,d,e⟩
   ·have hm2:m=i:=by
     have:=(List.getElem?_eq_some_iff.1 hc).1
     simp at this; omega
    subst hm2
    rw [List.getElem?_append_right (by omega),hcl] at hc
    simp at hc
    subst hc
    rw [hr] at hr'; cases hr'
    exact ⟨by rw [get_put,if_neg hgw]; exact hc2,by have:=hu.next; omega,by show w.next + 1 < w2.next; omega,hgw⟩
  ·intro m m' c hc hc'
   have hlt1:=(List.getElem?_eq_some_iff.1 hc).1
   have hlt2:=(List.getElem?_eq_some_iff.1 hc').1
   simp at hlt1 hlt2
   by_cases hm:m < cs.length <;> by_cases hm':m' < cs.length
   ·rw [List.getElem?_append_left hm] at hc
    rw [List.getElem?_append_left hm'] at hc'
    exact hG.inj m m' c hc hc'
   ·rw [List.getElem?_append_left hm] at hc
    rw [List.getElem?_append_right (by omega)] at hc'
    have:m' - cs.length=0:=by omega
    rw [this] at hc'
    simp at hc'
    have:=hG.lt (by omega) hc
    omega
   ·rw [List.getElem?_append_left hm'] at hc'
    rw [List.getElem?_append_right (by omega)] at hc
    have:m - cs.length=0:=by omega
    rw [this] at hc
    simp at hc
    have:=hG.lt (by omega) hc'
    omega
   ·omega
  ·exact (hu.trans u2).put (by have:=hu.next; omega) (Nat.le_refl _)
  ·rw [if_neg hXg]; exact gX2
 ·have hi':i=tr.length:=by omega
  simp [mc58_l0,t20,t21,hi']
  exact hQ _ _ cs hu (by omega) hG gX hXn (by simp [t1]) (by simp [t2]) (by simp [t3]) (by simp [t7]) (by simp [t8])
end
end Go.Proofs.Ytiokkkjahkhbfaa.walk
namespace Go.Sh
open Go
def P0 (V:Nat):List Int:=List.replicate V 0
theorem plS_snoc (vs:List HVn):∀ (l:List HJb) (G:List (List Int)) (P:List Int) (j:HJb),plS vs G P (l++[j])=(stG (plS vs G P l).1 j (stN vs (plS vs G P l).1 (plS vs G P l).2 j),stP (plS vs G P l).2 j (stN vs (plS vs G P l).1 (plS vs G P l).2 j))
 | [],_,_,_=>rfl
 | i::l,G,P,j=>by
  simp only [List.cons_append,plS]
  exact plS_snoc vs l _ _ j
theorem plS_le {M V nh:Nat} {vs:List HVn}:∀ {l:List HJb} {G:List (List Int)} {P:List Int},GrOk M V vs G P→(∀ j ∈ l,jobB V nh M j=true∧1≤j.ma)→∀ m v:Nat,g2 (plS vs G P l).1 m v≤g2 G m v
 | [],_,_,_,_,_,_=>Int.le_refl _
 | j::l,G,P,h,hj,m,v=>by
  obtain ⟨j1,j2⟩:=hj j (by simp)
  have ih:=plS_le (nh:=nh) (l:=l) (h.step j1 j2) (fun k hk=>hj k (List.mem_cons_of_mem _ hk)) m v
  have hp:=stN_pos h j1 j2
  rw [g2_st h j1] at ih
  simp only [plS]
  split at ih <;> omega
theorem take_push' {α:Type} {l:List α} {i:Nat} {x:α} (h:l[i]?=some x):l.take (i + 1)=l.take i++[x]:=by
 rw [List.take_add_one,h]; rfl
theorem g2_get {G:List (List Int)} {m k:Nat} {r:List Int} {x:Int} (hr:G[m]?=some r) (hx:r[k]?=some x):g2 G m k=x:=by
 unfold g2
 simp [List.getD_eq_getElem?_getD,hr,hx]
theorem beV_get {vs:List HVn} {k:Nat} {v:HVn} (h:vs[k]?=some v):beV vs k=v.be:=by
 unfold beV; simp [h]
theorem GrOk.row {M V:Nat} {vs:List HVn} {G:List (List Int)} {P:List Int} (h:GrOk M V vs G P) {m k:Nat} (hm:m < M) (hk:k < V):∃ r x y v,G[m]?=some r∧r.length=V∧r[k]?=some x∧P[k]?=some y∧vs[k]?=some v∧g2 G m k=x∧P.getD k 0=y∧beV vs k=v.be:=by
 obtain ⟨r,hr⟩:∃ r,G[m]?=some r:=⟨_,List.getElem?_eq_getElem (by rw [h.lenG]; exact hm)⟩
 have hl:r.length=V:=by
  have:=h.lenR m hm
  rwa [List.getD_eq_getElem?_getD,hr] at this
 obtain ⟨x,hx⟩:∃ x,r[k]?=some x:=⟨_,List.getElem?_eq_getElem (by omega)⟩
 obtain ⟨y,hy⟩:∃ y,P[k]?=some y:=⟨_,List.getElem?_eq_getElem (by rw [h.lenP]; exact hk)⟩
 obtain ⟨v,hv⟩:∃ v,vs[k]?=some v:=⟨_,List.getElem?_eq_getElem (by rw [h.nv]; exact hk)⟩
 exact ⟨r,x,y,v,hr,hl,hx,hy,hv,g2_get hr hx,by rw [List.getD_eq_getElem?_getD,hy]; rfl,beV_get hv⟩
theorem P0_length (V:Nat):(P0 V).length=V:=by simp [P0]
theorem P0_get (V v:Nat):(P0 V).getD v 0=0:=by
 rw [List.getD_eq_getElem?_getD,P0,List.getElem?_replicate]
 split <;> rfl
theorem GrOk.init {M V:Nat} {vs:List HVn} {tr:List (List Int)} (nv:vs.length=V) (hM:tr.length=M) (hr:∀ r ∈ tr,r.length=V) (hp:∀ m v:Nat,0≤g2 tr m v) (hb:∀ v ∈ vs,0≤v.be):GrOk M V vs tr (P0 V):=by
 refine ⟨nv,hM,fun m hm=>?_,P0_length V,fun m v _ _=>hp m v,fun v hv=>?_⟩
 ·obtain ⟨r,e⟩:∃ r,tr[m]?=some r:=⟨_,List.getElem?_eq_getElem (by omega)⟩
  rw [List.getD_eq_getElem?_getD,e]
  exact hr r (List.mem_of_getElem? e)
 ·obtain ⟨x,e⟩:∃ x,vs[v]?=some x:=⟨_,List.getElem?_eq_getElem (by omega)⟩
  rw [P0_get,beV_get e]
  have:=hb x (List.mem_of_getElem? e)
  omega
end Go.Sh
namespace Go.Proofs.Ytiokkkjahkhbfaa.walk
open Go Go.Sh
set_option maxRecDepth 100000
noncomputable def mc58_l1_b2:MC:=.seq (.ops [⟨true,none,some 68,27,.move (.tmp 8)⟩,⟨true,none,some 69,0,.fieldAddr 67 (.tmp 12) 0⟩,⟨true,none,some 70,3,.load 3 (.tmp 69)⟩,⟨true,none,some 71,0,.indexAddr 27 (.tmp 68) (.tmp 70)⟩,⟨true,none,some 72,42,.load 42 (.tmp 71)⟩,⟨true,none,some 73,0,.fieldAddr 67 (.tmp 12) 3⟩,⟨true,none,some 74,3,.load 3 (.tmp 73)⟩,⟨true,none,some 75,0,.indexAddr 42 (.tmp 72) (.tmp 74)⟩,⟨true,none,some 76,3,.load 3 (.tmp 75)⟩,⟨true,none,some 77,3,.move (.tmp 13)⟩,⟨true,none,some 78,3,.binOp .sub 3 (.tmp 76) (.tmp 77) 3⟩,⟨true,none,some 79,0,.indexAddr 42 (.tmp 72) (.tmp 74)⟩,⟨false,none,none,0,.store 3 (.tmp 79) (.tmp 78)⟩]) (.ops [⟨false,none,some 80,42,.move (.tmp 6)⟩,⟨false,none,some 81,0,.fieldAddr 67 (.tmp 12) 3⟩,⟨false,none,some 82,3,.load 3 (.tmp 81)⟩,⟨false,none,some 83,0,.indexAddr 42 (.tmp 80) (.tmp 82)⟩,⟨false,none,some 84,3,.load 3 (.tmp 83)⟩,⟨false,none,some 85,3,.move (.tmp 13)⟩,⟨false,none,some 86,3,.binOp .add 3 (.tmp 84) (.tmp 85) 3⟩,⟨false,none,some 87,0,.indexAddr 42 (.tmp 80) (.tmp 82)⟩,⟨false,none,none,0,.store 3 (.tmp 87) (.tmp 86)⟩])
noncomputable def mc58_l1_b1:MC:=.seq (.seq (.ops [⟨true,none,some 42,0,.fieldAddr 67 (.tmp 12) 4⟩]) (.seq (.ops [⟨true,none,some 43,3,.load 3 (.tmp 42)⟩]) (.seq (.ops [⟨true,none,some 44,27,.move (.tmp 8)⟩]) (.seq (.ops [⟨true,none,some 45,0,.fieldAddr 67 (.tmp 12) 0⟩]) (.seq (.ops [⟨true,none,some 46,3,.load 3 (.tmp 45)⟩]) (.seq (.ops [⟨true,none,some 47,0,.indexAddr 27 (.tmp 44) (.tmp 46)⟩]) (.seq (.ops [⟨true,none,some 48,42,.load 42 (.tmp 47)⟩]) (.seq (.ops [⟨true,none,some 49,0,.fieldAddr 67 (.tmp 12) 3⟩]) (.seq (.ops [⟨true,none,some 50,3,.load 3 (.tmp 49)⟩]) (.seq (.ops [⟨true,none,some 51,0,.indexAddr 42 (.tmp 48) (.tmp 50)⟩]) (.seq (.ops [⟨true,none,some 52,3,.load 3 (.tmp 51)⟩]) (.seq (.ops [⟨true,none,some 53,0,.fieldAddr 26 (.tmp 3) 0⟩]) (.seq (.ops [⟨true,none,some 54,22,.load 22 (.tmp 53)⟩]) (.seq (.ops [⟨true,none,some 55,0,.fieldAddr 67 (.tmp 12) 3⟩]) (.seq (.ops [⟨true,none,some 56,3,.load 3 (.tmp 55)⟩]) (.seq (.ops [⟨true,none,some 57,0,.indexAddr 22 (.tmp 54) (.tmp 56)⟩]) (.seq (.ops [⟨true,none,some 58,0,.fieldAddr 65 (.tmp 57) 2⟩]) (.seq (.ops [⟨true,none,some 59,3,.load 3 (.tmp 58)⟩]) (.seq (.ops [⟨true,none,some 60,42,.move (.tmp 6)⟩]) (.seq (.ops [⟨true,none,some 61,0,.fieldAddr 67 (.tmp 12) 3⟩]) (.seq (.ops [⟨true,none,some 62,3,.load 3 (.tmp 61)⟩]) (.seq (.ops [⟨true,none,some 63,0,.indexAddr 42 (.tmp 60) (.tmp 62)⟩]) (.seq (.ops [⟨true,none,some 64,3,.load 3 (.tmp 63)⟩]) (.seq (.ops [⟨true,none,some 65,3,.binOp .sub 3 (.tmp 59) (.tmp 64) 3⟩]) (.seq (.ops [⟨true,none,some 66,42,.buildSlice 42 2 #[(0,.tmp 52),(1,.tmp 65)]⟩]) (.seq (.chk [⟨true,none,some 64,3,.load 3 (.tmp 63)⟩,⟨true,none,some 62,3,.load 3 (.tmp 61)⟩,⟨true,none,some 59,3,.load 3 (.tmp 58)⟩,⟨true,none,some 56,3,.load 3 (.tmp 55)⟩,⟨true,none,some 54,22,.load 22 (.tmp 53)⟩,⟨true,none,some 52,3,.load 3 (.tmp 51)⟩,⟨true,none,some 50,3,.load 3 (.tmp 49)⟩,⟨true,none,some 48,42,.load 42 (.tmp 47)⟩,⟨true,none,some 46,3,.load 3 (.tmp 45)⟩,⟨true,none,some 43,3,.load 3 (.tmp 42)⟩]) (.seq (.ops [⟨false,none,some 67,3,.call ⟨.value (.func 81),#[.tmp 43,.tmp 66],#[3,42]⟩⟩]) (.seq (.ops [⟨true,none,some 13,3,.assign (.tmp 67)⟩]) (.chk []))))))))))))))))))))))))))))) mc58_l1_b2
theorem mc58_l1_eq:mc58_l1=.seq (.ops [⟨false,none,some 39,0,.binOp .lss 3 (.tmp 38) (.tmp 37) 3⟩]) (.seq (.cond (.tmp 39) (.skip) (.exit 2)) (.seq (.block 3 (.seq (.ops [⟨false,none,some 40,0,.indexAddr 39 (.tmp 36) (.tmp 38)⟩,⟨false,none,some 41,67,.load 67 (.tmp 40)⟩,⟨false,none,some 12,0,.alloc 67⟩,⟨false,none,none,0,.store 67 (.tmp 12) (.tmp 41)⟩]) mc58_l1_b1)) (.ops [⟨false,none,some 88,3,.binOp .add 3 (.tmp 38) (.const (.int .i64 1)) 3⟩,⟨false,none,some 38,3,.move (.tmp 88)⟩]))):=rfl
section
variable {ov:Ov} {vs:List HVn} {hs:List HHd} {fs:List (List (Int × Int))} {vv hv fv:Value}
structure JobAt (w:AW) (V g M q X J:Nat) (vv hv fv:Value) (cs:List Nat) (G:List (List Int)) (P:List Int) (vs:List HVn) (m k c:Nat) (r:List Int) (x y:Int) (v:HVn):Prop where
 hm:m < M
 hk:k < V
 hc:cs[m]?=some c
 hr:G[m]?=some r
 hx:r[k]?=some x
 hy:P[k]?=some y
 hvk:vs[k]?=some v
 gX:w.heap.get X=some (.cells [vv,hv,fv] 26 false)
 gq:w.heap.get q=some (.cells (P.flatMap intC) 3 false)
 nX:X < w.next
 nq:q < w.next
 nJ:J < w.next
set_option maxHeartbeats 2000000 in
theorem part58a (K:Nat) (h81:HasP ov 81 S81.F) {n0 V g M q X J:Nat} {cs:List Nat} {G:List (List Int)} {P:List Int} {m k c:Nat} {r:List Int} {x y:Int} {v:HVn} (o h ma:Int) (w:AW) (hlen:cs.length=M) (hGl:G.length=M) (hle:w.lim≤w.next) (hG:GrV n0 w V g M cs G) (A:JobAt w V g M q X J vv hv fv cs G P vs m k c r x y v) (gJ:w.heap.get J=some (.cells (jbC ⟨m,o,h,k,ma⟩) 67 false)) (hS:SeaV w vv hv fv vs hs fs) (hb : -10000≤v.be - y∧v.be - y≤10000)
  (v1 v2 v7 v36 v37 v38:Value) (t:Tm) (t1:tget t 1=v1) (t2:tget t 2=v2) (t3:tget t 3=.pointer (some ⟨X,0,none⟩)) (t6:tget t 6=.slice (some ⟨q,0,none⟩) V V) (t7:tget t 7=v7) (t8:tget t 8=.slice (some ⟨g,0,none⟩) M M) (t12:tget t 12=.pointer (some ⟨J,0,none⟩)) (t36:tget t 36=v36) (t37:tget t 37=v37) (t38:tget t 38=v38) (Q:Ex→Tm→AW→Prop)
  (hQ:∀ t w',Up w w'→tget t 13=.int .i64 (min (min ma x) (v.be - y))→tget t 1=v1→tget t 2=v2→tget t 3=.pointer (some ⟨X,0,none⟩)→tget t 6=.slice (some ⟨q,0,none⟩) V V→tget t 7=v7→tget t 8=.slice (some ⟨g,0,none⟩) M M→tget t 12=.pointer (some ⟨J,0,none⟩)→tget t 36=v36→tget t 37=v37→tget t 38=v38→wp (exM Try.prog (run Try.prog ov (K + 1)) mc58_l1_b2 t w') Q):wp (exM Try.prog (run Try.prog ov (K + 1)) mc58_l1_b1 t w) Q:=by
 obtain ⟨hm,hk,hc,hr,hx,hy,hvk,gX,gq,nX,nq,nJ⟩:=A
 obtain ⟨nv,nh,nf⟩:=hS.nj
 have sv:=same_rows hS.v
 obtain ⟨gc,c1,c2,c3⟩:=hG.at_ m c r hc hr
 have gg:=hG.gg
 have ng:=hG.ghi
 have ax:=int_at hx
 have ay:=int_at hy
 have ac:(cs.map (slV V)++List.replicate (M - cs.length) nilS)[m]?=some (.slice (some ⟨c,0,none⟩) V V):=by
  rw [List.getElem?_append_left (by rw [List.length_map]; omega),List.getElem?_map,hc]; rfl
 obtain ⟨os,hos⟩:∃ os,os=cs.map (slV V)++List.replicate (M - cs.length) nilS:=⟨_,rfl⟩
 obtain ⟨rs,hrs⟩:∃ rs,rs=r.flatMap intC:=⟨_,rfl⟩
 obtain ⟨ps,hps⟩:∃ ps,ps=P.flatMap intC:=⟨_,rfl⟩
 rw [← hos] at gg ac
 rw [← hrs] at gc ax
 rw [← hps] at gq ay
 have i1:=fun w'=>ia27 w' ⟨g,0,none⟩ M M .i64 m hm
 have i2:=fun w'=>ia42 w' ⟨c,0,none⟩ V V .i64 k hk
 have i3:=fun w'=>ia42 w' ⟨q,0,none⟩ V V .i64 k hk
 obtain ⟨p,iv,_,lv,nv'⟩:=getR un22 sz65 vnC_length hS.v rfl hvk
 have lv:=lv 2 _ rfl
 have e1:¬ g=w.next:=by omega
 have e2:¬ c=w.next:=by omega
 have e3:¬ q=w.next:=by omega
 have e4:¬ X=w.next:=by omega
 have e5:¬ J=w.next:=by omega
 have e6:¬ p.block=w.next:=by omega
 have hw:IntKind.wrap .i64 (v.be - y)=v.be - y:=wrap64_in (by omega) (by omega)
 obtain ⟨w1,hw1⟩:∃ w1:AW,w1=⟨w.heap.put w.next (some (.cells [.int .i64 x,.int .i64 (v.be - y)] 3 false)),w.next + 1,w.lim⟩:=⟨_,rfl⟩
 have u1:Up w w1:=by rw [hw1]; exact (Up.refl w).add _
 have g1:w1.heap.get w.next=some (.cells [.int .i64 x,.int .i64 (v.be - y)] 3 false):=by rw [hw1]; simp
 have n1:w1.next=w.next + 1:=by rw [hw1]
 have r81:=S81.call (P:=Try.prog) h81 (m:=K) (w:=w1) ⟨ma,.slice (some ⟨w.next,0,some 2⟩) 2 2,[x,v.be - y],rfl,.inr ⟨w.next,0,some 2,2,rfl,⟨[],[],3,false,by rw [g1]; rfl,rfl⟩,by omega⟩,by simp,rfl⟩
 have ef:[x,v.be - y].foldl min ma=min (min ma x) (v.be - y):=rfl
 rw [ef] at r81
 obtain ⟨va,vb,vc⟩:=v
 have lv:rd1O (w.heap.get p.block) (p.off + 2)=some (.int .i64 vc):=lv
 simp only at hw hw1 r81 hQ
 simp only [jbC] at gJ
 rw [hw1] at r81 u1
 simp [mc58_l1_b1,t3,t6,t8,t12,gJ,gX,gg,gc,gq,e1,e2,e3,e4,e5,e6,nv,nh,nf,sv,i1,i2,i3,iv,lv,ac,ax,ay,hw,r81]
 exact hQ _ _ u1 (by simp) (by simp [t1]) (by simp [t2]) (by simp [t3]) (by simp [t6]) (by simp [t7]) (by simp [t8]) (by simp [t12]) (by simp [t36]) (by simp [t37]) (by simp [t38])
theorem stG_eq {G:List (List Int)} {m k:Nat} {r:List Int} {x:Int} (hr:G[m]?=some r) (hx:r[k]?=some x) (j:HJb) (e1:j.mo=m) (e2:j.vi=k) (n:Int):stG G j n=G.set m (r.set k (x - n)):=by
 unfold stG g2
 rw [e1,e2]
 simp [List.getD_eq_getElem?_getD,hr,hx]
theorem stP_eq {P:List Int} {k:Nat} {y:Int} (hy:P[k]?=some y) (j:HJb) (e2:j.vi=k) (n:Int):stP P j n=P.set k (y + n):=by
 unfold stP
 rw [e2]
 simp [List.getD_eq_getElem?_getD,hy]
set_option maxHeartbeats 2000000 in
theorem part58b (K:Nat) {n0 V g M q X J:Nat} {cs:List Nat} {G:List (List Int)} {P:List Int} {m k c:Nat} {r:List Int} {x y:Int} {v:HVn} (o h ma n:Int) (w:AW) (hlen:cs.length=M) (hGl:G.length=M) (hG:GrV n0 w V g M cs G) (A:JobAt w V g M q X J vv hv fv cs G P vs m k c r x y v) (gJ:w.heap.get J=some (.cells (jbC ⟨m,o,h,k,ma⟩) 67 false)) (hrV:r.length=V) (hPV:P.length=V) (hqc:∀ (m c:Nat),cs[m]?=some c→c ≠ q) (hqg:q ≠ g) (hJc:∀ (m c:Nat),cs[m]?=some c→c ≠ J) (hJq:J ≠ q) (hl0:w.lim≤n0) (hq0:n0≤q) (bx : -10000≤x - n∧x - n≤10000) (bY : -10000≤y + n∧y + n≤10000)
  (v1 v2 v7 v36 v37 v38:Value) (t:Tm) (t1:tget t 1=v1) (t2:tget t 2=v2) (t3:tget t 3=.pointer (some ⟨X,0,none⟩)) (t6:tget t 6=.slice (some ⟨q,0,none⟩) V V) (t7:tget t 7=v7) (t8:tget t 8=.slice (some ⟨g,0,none⟩) M M) (t12:tget t 12=.pointer (some ⟨J,0,none⟩)) (t13:tget t 13=.int .i64 n) (t36:tget t 36=v36) (t37:tget t 37=v37) (t38:tget t 38=v38) (Q:Ex→Tm→AW→Prop)
  (hQ:∀ t w',(∀ b,b < n0→w'.heap.get b=w.heap.get b)→w'.next=w.next→w'.lim=w.lim→GrV n0 w' V g M cs (G.set m (r.set k (x - n)))→w'.heap.get q=some (.cells ((P.set k (y + n)).flatMap intC) 3 false)→(∀ b,b ≠ q→b ≠ c→w'.heap.get b=w.heap.get b)→tget t 1=v1→tget t 2=v2→tget t 3=.pointer (some ⟨X,0,none⟩)→tget t 6=.slice (some ⟨q,0,none⟩) V V→tget t 7=v7→tget t 8=.slice (some ⟨g,0,none⟩) M M→tget t 36=v36→tget t 37=v37→tget t 38=v38→Q .normal t w'):wp (exM Try.prog (run Try.prog ov (K + 1)) mc58_l1_b2 t w) Q:=by
 obtain ⟨hm,hk,hc,hr,hx,hy,hvk,gX,gq,nX,nq,nJ⟩:=A
 obtain ⟨gc,c1,c2,c3⟩:=hG.at_ m c r hc hr
 have gg:=hG.gg
 have ng:=hG.ghi
 have ax:=int_at hx
 have ay:=int_at hy
 have f1:k + 1≤(r.flatMap intC).length:=by rw [int_len]; omega
 have f2:k + 1≤(P.flatMap intC).length:=by rw [int_len]; omega
 have s1:=int_set r k (x - n) (by omega)
 have s2:=int_set P k (y + n) (by omega)
 have ac:(cs.map (slV V)++List.replicate (M - cs.length) nilS)[m]?=some (.slice (some ⟨c,0,none⟩) V V):=by
  rw [List.getElem?_append_left (by rw [List.length_map]; omega),List.getElem?_map,hc]; rfl
 have gg0:=gg
 obtain ⟨os,hos⟩:∃ os,os=cs.map (slV V)++List.replicate (M - cs.length) nilS:=⟨_,rfl⟩
 obtain ⟨rs,hrs⟩:∃ rs,rs=r.flatMap intC:=⟨_,rfl⟩
 obtain ⟨ps,hps⟩:∃ ps,ps=P.flatMap intC:=⟨_,rfl⟩
 rw [← hos] at gg ac
 rw [← hrs] at gc ax f1 s1
 rw [← hps] at gq ay f2 s2
 have i1:=fun w'=>ia27 w' ⟨g,0,none⟩ M M .i64 m hm
 have i2:=fun w'=>ia42 w' ⟨c,0,none⟩ V V .i64 k hk
 have i3:=fun w'=>ia42 w' ⟨q,0,none⟩ V V .i64 k hk
 have w1:IntKind.wrap .i64 (x - n)=x - n:=wrap64_in (by omega) (by omega)
 have w2:IntKind.wrap .i64 (y + n)=y + n:=wrap64_in (by omega) (by omega)
 have hcq:=hqc m c hc
 have e1:¬ c=q:=hcq
 have e2:¬ q=c:=fun e=>hcq e.symm
 have e3:¬ J=c:=fun e=>hJc m c hc e.symm
 have e4:¬ J=q:=hJq
 have e5:¬ g=c:=fun e=>c3 e.symm
 have lc:w.lim≤c:=by omega
 have lq:w.lim≤q:=by omega
 simp only [jbC] at gJ
 simp [mc58_l1_b2,t3,t6,t8,t12,t13,gJ,gg,gc,gq,e1,e2,e3,e4,e5,i1,i2,i3,ac,ax,ay,w1,w2,f1,f2,lc,lq]
 refine hQ _ _ ?_ ?_ ?_ ⟨?_,?_,hG.inj,hG.glo,hG.ghi⟩ ?_ ?_ (by simp [t1]) (by simp [t2]) (by simp [t3]) (by simp [t6]) (by simp [t7]) (by simp [t8]) (by simp [t36]) (by simp [t37]) (by simp [t38])
 ·intro b hb
  have a1:¬ b=q:=by omega
  have a2:¬ b=c:=by omega
  simp [a1,a2]
 ·rfl
 ·rfl
 ·have a1:¬ g=q:=fun e=>hqg e.symm
  simp [a1,e5]
  exact gg0
 ·intro m' c' r' hc' hr'
  have hq':=hqc m' c' hc'
  by_cases e:m'=m
  ·subst e
   rw [hc] at hc'; cases hc'
   rw [List.getElem?_set,if_pos rfl,if_pos (by omega)] at hr'
   cases hr'
   exact ⟨by simp [hq',s1],c1,c2,c3⟩
  ·rw [List.getElem?_set,if_neg (Ne.symm e)] at hr'
   obtain ⟨a,b,d,f⟩:=hG.at_ m' c' r' hc' hr'
   have hcc:¬ c'=c:=fun e2=>e (hG.inj m' m c' hc' (by rw [hc,e2]))
   exact ⟨by simp [hq',hcc,a],b,d,f⟩
 ·simp [s2]
 ·intro b b1 b2
  simp [b1,b2]
end
theorem tru_parts {vs:List HVn} {hs:List HHd} {fs:List (List (Int × Int))} {tr:List (List Int)} (hB:seaB vs hs fs=true) (h:truB vs.length tr fs=true):tr.length=fs.length∧(∀ r ∈ tr,r.length=vs.length)∧∀ m v:Nat,0≤g2 tr m v∧g2 tr m v≤1000:=by
 obtain ⟨b1,b2,b3,b4,b5,b6,b7,b8⟩:=sea_parts hB
 simp only [truB,Bool.and_eq_true,decide_eq_true_eq,List.all_eq_true] at h
 obtain ⟨hl,ha⟩:=h
 have row:∀ (m:Nat) r,tr[m]?=some r→∃ f,fs[m]?=some f∧r.length=vs.length∧f.length=vs.length∧(∀ p ∈ r.zip f,inP p=true)∧∀ s ∈ f,spB s=true:=fun m r hr=>by
  obtain ⟨f,hf⟩:=lt_get (show m < fs.length by have:=(List.getElem?_eq_some_iff.1 hr).1; omega)
  have:=ha _ (List.mem_of_getElem? (zip_get hr hf))
  simp only [rowT,Bool.and_eq_true,decide_eq_true_eq,List.all_eq_true] at this
  have h8:=b8 f (List.mem_of_getElem? hf)
  simp only [rowB,Bool.and_eq_true,decide_eq_true_eq,List.all_eq_true] at h8
  exact ⟨f,hf,this.1,h8.1,this.2,h8.2⟩
 refine ⟨hl,fun r hr=>?_,fun m v=>?_⟩
 ·obtain ⟨m,hm⟩:=List.getElem?_of_mem hr
  obtain ⟨f,_,e,_⟩:=row m r hm
  exact e
 ·unfold g2
  simp only [Int.toNat_natCast,List.getD_eq_getElem?_getD]
  cases hm:tr[m]? with
  | none=>simp
  | some r =>
   obtain ⟨f,hf,e1,e2,e3,e4⟩:=row m r hm
   simp only [Option.getD_some]
   cases hv:r[v]? with
   | none=>simp
   | some z =>
    obtain ⟨s,hs'⟩:=lt_get (show v < f.length by have:=(List.getElem?_eq_some_iff.1 hv).1; omega)
    have k1:=e3 _ (List.mem_of_getElem? (zip_get hv hs'))
    have k2:=e4 s (List.mem_of_getElem? hs')
    simp only [inP,spB,inH,Bool.and_eq_true,decide_eq_true_eq] at k1 k2
    simp only [Option.getD_some]
    omega
section
variable {ov:Ov} {vs:List HVn} {hs:List HHd} {fs:List (List (Int × Int))} {vv hv fv pv:Value} {w0:AW} {l:List HJb} {tr:List (List Int)}
set_option maxHeartbeats 1000000 in
theorem loop58b (K:Nat) (h81:HasP ov 81 S81.F) (hS:SeaV w0 vv hv fv vs hs fs) (hP:RowsV jbC w0 pv l) {V M nh X g q:Nat} (hX:X < w0.next) (gX:w0.heap.get X=some (.cells [vv,hv,fv] 26 false)) (hl0:w0.lim≤w0.next) (hj:∀ j ∈ l,jobB V nh M j=true∧1≤j.ma) (hlen:l.length≤2048) (hOk:GrOk M V vs tr (P0 V)) (htr:∀ m v:Nat,g2 tr m v≤1000) (hbe:∀ v ∈ vs,v.be≤1000) (cs:List Nat) (hcl:cs.length=M) (w:AW) (hu:Up w0 w) (hG:GrV w0.next w V g M cs tr) (gq:w.heap.get q=some (.cells ((P0 V).flatMap intC) 3 false)) (nq:q < w.next) (hq0:w0.next≤q) (hqc:∀ (m c:Nat),cs[m]?=some c→c ≠ q) (hqg:q ≠ g)
  (v1 v2 v7:Value) (t:Tm) (t1:tget t 1=v1) (t2:tget t 2=v2) (t3:tget t 3=.pointer (some ⟨X,0,none⟩)) (t6:tget t 6=.slice (some ⟨q,0,none⟩) V V) (t7:tget t 7=v7) (t8:tget t 8=.slice (some ⟨g,0,none⟩) M M) (t36:tget t 36=pv) (t37:tget t 37=.int .i64 (l.length:Nat)) (t38:tget t 38=.int .i64 0) (Q:Ex→Tm→AW→Prop)
  (hQ:∀ t w',Up w0 w'→GrV w0.next w' V g M cs (plS vs tr (P0 V) l).1→w'.heap.get q=some (.cells ((plS vs tr (P0 V) l).2.flatMap intC) 3 false)→q < w'.next→tget t 1=v1→tget t 2=v2→tget t 3=.pointer (some ⟨X,0,none⟩)→tget t 6=.slice (some ⟨q,0,none⟩) V V→tget t 7=v7→tget t 8=.slice (some ⟨g,0,none⟩) M M→Q (.exit 2) t w'):wp (exM Try.prog (run Try.prog ov (K + 1)) (.loop mc58_l1) t w) Q:=by
 refine wp_rounds (fun i t w'=>Up w0 w'∧GrV w0.next w' V g M cs (plS vs tr (P0 V) (l.take i)).1∧w'.heap.get q=some (.cells ((plS vs tr (P0 V) (l.take i)).2.flatMap intC) 3 false)∧q < w'.next∧tget t 1=v1∧tget t 2=v2∧tget t 3=.pointer (some ⟨X,0,none⟩)∧tget t 6=.slice (some ⟨q,0,none⟩) V V∧tget t 7=v7∧tget t 8=.slice (some ⟨g,0,none⟩) M M∧tget t 36=pv∧tget t 37=.int .i64 (l.length:Nat)∧tget t 38=.int .i64 (i:Nat)∧i≤l.length) 3000 (by decide) ⟨hu,hG,gq,nq,t1,t2,t3,t6,t7,t8,t36,t37,by simpa using t38,Nat.zero_le _⟩ ?_
 clear t1 t2 t3 t6 t7 t8 t36 t37 t38 gq nq hu hG t w
 rintro i t w ⟨hu,hG,gq,nq,t1,t2,t3,t6,t7,t8,t36,t37,t38,hi⟩
 by_cases hlt:i < l.length
 ·obtain ⟨x,hx⟩:=lt_get hlt
  obtain ⟨j1,j2⟩:=hj x (List.mem_of_getElem? hx)
  have j1':=j1
  simp only [jobB,decide_eq_true_eq] at j1'
  have hjt:∀ j ∈ l.take i,jobB V nh M j=true∧1≤j.ma:=fun j hj'=>hj j (List.mem_of_mem_take hj')
  obtain ⟨hOi,_,_⟩:=plS_ok hOk hjt
  have hLi:=plS_le hOk hjt
  have hnp:=stN_pos hOi j1 j2
  obtain ⟨n1',n2',n3'⟩:=stN_le (vs:=vs) (G:=(plS vs tr (P0 V) (l.take i)).1) (P:=(plS vs tr (P0 V) (l.take i)).2) (j:=x)
  have epl:=plS_snoc vs (l.take i) tr (P0 V) x
  rw [← take_push' hx] at epl
  obtain ⟨G,hGe⟩:∃ G,G=(plS vs tr (P0 V) (l.take i)).1:=⟨_,rfl⟩
  obtain ⟨P,hPe⟩:∃ P,P=(plS vs tr (P0 V) (l.take i)).2:=⟨_,rfl⟩
  rw [← hGe,← hPe] at hOi hnp n2' n3' epl
  rw [← hGe] at hG hLi n1'
  rw [← hPe] at gq n1'
  obtain ⟨mo,o,h,vi,ma⟩:=x
  simp only at j1' j2
  obtain ⟨m,rfl⟩:∃ m:Nat,mo=m:=⟨mo.toNat,by omega⟩
  obtain ⟨k,rfl⟩:∃ k:Nat,vi=k:=⟨vi.toNat,by omega⟩
  have hm:m < M:=by omega
  have hk:k < V:=by omega
  obtain ⟨r,x,y,v,hr,hrl,hrx,hPy,hvk,eg,ep,eb⟩:=hOi.row hm hk
  obtain ⟨c,hc⟩:=lt_get (show m < cs.length by omega)
  have eN:stN vs G P ⟨m,o,h,k,ma⟩=min (min ma x) (v.be - y):=by
   unfold stN
   simp only [Int.toNat_natCast]
   rw [eg,ep,eb]
  have bx:=htr m k
  have bx0:=hOi.pos m k hm hk
  have by0:=hOi.podP k hk
  have bb:=hbe v (List.mem_of_getElem? hvk)
  have hL:=hLi m k
  simp only [Int.toNat_natCast] at n2' n3'
  rw [eg] at bx0 hL n2'
  rw [ep,eb] at by0 n3'
  rw [eN] at hnp n1' n2' n3'
  have hle:w.lim≤w.next:=by rw [hu.lim]; have:=hu.next; omega
  have hw1':IntKind.wrap .i64 ((i:Int) + 1)=(i:Int) + 1:=wrap64_in (by omega) (by omega)
  obtain ⟨p,hia,hld,_,hpb⟩:=getR un39 sz67 jbC_length (hP.up hu) rfl hx
  obtain ⟨w1,hw1⟩:∃ w1:AW,w1=⟨(w.heap.put w.next (some (.cells [.int .i64 0,.int .i64 0,.int .i64 0,.int .i64 0,.int .i64 0] 67 false))).put w.next (some (.cells (jbC ⟨m,o,h,k,ma⟩) 67 false)),w.next + 1,w.lim⟩:=⟨_,rfl⟩
  have u4:Up w w1:=by rw [hw1]; exact ((Up.refl w).add _).put (Nat.le_refl _) (Nat.le_refl _)
  have n1:w1.next=w.next + 1:=by rw [hw1]
  have gJ:w1.heap.get w.next=some (.cells (jbC ⟨m,o,h,k,ma⟩) 67 false):=by rw [hw1]; simp
  have hu1:=hu.trans u4
  have gX1:=(hu1.at hX).trans gX
  have gq1:=(u4.at nq).trans gq
  have hG1:=hG.up (by rw [hcl,hOi.lenG]; exact Nat.le_refl _) u4
  have hw1e:=hw1
  simp only [jbC] at hld hw1e
  simp [mc58_l1_eq,t36,t37,t38,hlt,hia,hld,hle]
  rw [← hw1e]
  have hXn1:X < w1.next:=by have:=hu1.next; omega
  have hlen':cs.length=M:=hcl
  refine wp_seqX (wp_blockX (part58a (ov:=ov) (vs:=vs) (hs:=hs) (fs:=fs) (vv:=vv) (hv:=hv) (fv:=fv) K h81 (n0:=w0.next) (V:=V) (g:=g) (M:=M) (q:=q) (X:=X) (J:=w.next) (cs:=cs) (G:=G) (P:=P) (m:=m) (k:=k) (c:=c) (r:=r) (x:=x) (y:=y) (v:=v) o h ma w1 hlen' hOi.lenG (by rw [u4.lim]; omega) hG1 ⟨hm,hk,hc,hr,hrx,hPy,hvk,gX1,gq1,hXn1,by omega,by omega⟩ gJ (hS.up hu1) (by omega) v1 v2 v7 pv (.int .i64 (l.length:Nat)) (.int .i64 (i:Nat)) _ (by simp [t1]) (by simp [t2]) (by simp [t3]) (by simp [t6]) (by simp [t7]) (by simp [t8]) (by simp) (by simp [t36]) (by simp [t37]) (by simp [t38]) _ ?_))
  intro t w2 u5 t13 t1 t2 t3 t6 t7 t8 t12 t36 t37 t38
  have hu2:=hu1.trans u5
  have hG2:=hG1.up (by rw [hcl,hOi.lenG]; exact Nat.le_refl _) u5
  refine part58b (ov:=ov) (vv:=vv) (hv:=hv) (fv:=fv) K (n0:=w0.next) (V:=V) (g:=g) (M:=M) (q:=q) (X:=X) (J:=w.next) (cs:=cs) (G:=G) (P:=P) (m:=m) (k:=k) (c:=c) (r:=r) (x:=x) (y:=y) (v:=v) o h ma (min (min ma x) (v.be - y)) w2 hlen' hOi.lenG hG2 ⟨hm,hk,hc,hr,hrx,hPy,hvk,(u5.at hXn1).trans gX1,(u5.at (by omega)).trans gq1,by have:=u5.next; omega,by have:=u5.next; omega,by have:=u5.next; omega⟩ ((u5.at (by omega)).trans gJ) hrl hOi.lenP hqc hqg (fun m' c' hc' e=>by have:=hG.lt (by rw [hcl,hOi.lenG]; exact Nat.le_refl _) hc'; omega) (by omega) (by rw [hu2.lim]; exact hl0) hq0 (by omega) (by omega) v1 v2 v7 pv (.int .i64 (l.length:Nat)) (.int .i64 (i:Nat)) t t1 t2 t3 t6 t7 t8 t12 t13 t36 t37 t38 _ ?_
  intro t w3 hold hn3 hlim3 hG3 gq3 _ t1 t2 t3 t6 t7 t8 t36 t37 t38
  have hu3:Up w0 w3:=⟨fun b hb=>(hold b hb).trans (hu2.at hb),by rw [hn3]; exact hu2.next,by rw [hlim3]; exact hu2.lim⟩
  simp [t36,t37,t38,hw1']
  refine ⟨by omega,hu3,?_,?_,by have:=u5.next; omega,t1,t2,t3,t6,t7,t8,hlt⟩
  ·rw [epl]
   simp only
   rw [eN,stG_eq hr hrx _ rfl rfl]
   exact hG3
  ·rw [epl]
   simp only
   rw [eN,stP_eq hPy _ rfl]
   exact gq3
 ·have hi':i=l.length:=by omega
  subst hi'
  rw [List.take_length] at hG gq
  simp [mc58_l1_eq,t37,t38]
  exact hQ _ _ hu hG gq nq (by simp [t1]) (by simp [t2]) (by simp [t3]) (by simp [t6]) (by simp [t7]) (by simp [t8])
end
theorem sum_bdC {c:Int}:∀ {L:List Int},(∀ z ∈ L,0≤z∧z≤c)→0≤L.sum∧L.sum≤c * (L.length:Int)
 | [],_=>by simp
 | a::L,h=>by
  have h1:=h a (by simp)
  have h2:=sum_bdC (L:=L) fun z hz=>h z (by simp [hz])
  have e:c * ((a::L).length:Int)=c * (L.length:Int) + c:=by rw [List.length_cons]; push_cast; rw [Int.mul_add]; omega
  rw [List.sum_cons,e]
  omega
theorem rows_slV {w:AW} {V c:Nat} {r:List Int} (h:w.heap.get c=some (.cells (r.flatMap intC) 3 false)) (hl:r.length=V) (hc:c < w.next):RowsV intC w (slV V c) r:=by
 refine .inr ⟨c,0,none,V,by rw [hl]; rfl,⟨[],[],3,false,by rw [h]; simp,rfl⟩,hc⟩
theorem grid_row {M V:Nat} {vs:List HVn} {G:List (List Int)} {P:List Int} (h:GrOk M V vs G P) (hb:∀ m v:Nat,g2 G m v≤1000) {r:List Int} {m:Nat} (hr:G[m]?=some r):r.length=V∧∀ z ∈ r,0≤z∧z≤1000:=by
 have hm:m < M:=by have:=(List.getElem?_eq_some_iff.1 hr).1; rw [h.lenG] at this; exact this
 have hl:r.length=V:=by
  have:=h.lenR m hm
  rwa [List.getD_eq_getElem?_getD,hr] at this
 refine ⟨hl,fun z hz=>?_⟩
 obtain ⟨k,hk⟩:=List.getElem?_of_mem hz
 have hkV:k < V:=by have:=(List.getElem?_eq_some_iff.1 hk).1; omega
 have a:=h.pos m k hm hkV
 have b:=hb m k
 rw [g2_get hr hk] at a b
 exact ⟨a,b⟩
theorem sumG_bd {M V:Nat} {vs:List HVn} {G:List (List Int)} {P:List Int} (h:GrOk M V vs G P) (hb:∀ m v:Nat,g2 G m v≤1000) (hV:V≤6) (hM:M≤6) (i:Nat):0≤sumG (G.take i)∧sumG (G.take i)≤36000:=by
 have:=sum_bdC (c:=6000) (L:=(G.take i).map List.sum) fun z hz=>by
  obtain ⟨r,hr,rfl⟩:=List.mem_map.1 hz
  obtain ⟨m,hm⟩:=List.getElem?_of_mem (List.mem_of_mem_take hr)
  obtain ⟨a,b⟩:=grid_row h hb hm
  have:=sum_bdC b
  omega
 rw [List.length_map,List.length_take,h.lenG] at this
 unfold sumG
 omega
theorem sumG_tk {G:List (List Int)} {i:Nat} {r:List Int} (h:G[i]?=some r):sumG (G.take (i + 1))=sumG (G.take i) + r.sum:=by
 unfold sumG
 rw [List.take_add_one,h,List.map_append,List.sum_append]; simp
section
variable {ov:Ov} {vs:List HVn} {hs:List HHd} {fs:List (List (Int × Int))} {vv hv fv tv pv:Value} {l:List HJb} {tr:List (List Int)}
theorem loop58c (K:Nat) (h84:HasP ov 84 S84.F) {n0 V M g:Nat} {cs:List Nat} {G:List (List Int)} {P:List Int} (hOk:GrOk M V vs G P) (hb:∀ m v:Nat,g2 G m v≤1000) (hV:V≤6) (hM:M≤6) (hcl:cs.length=M) (w:AW) (hle:w.lim≤w.next) (hG:GrV n0 w V g M cs G) (v6:Value) (t:Tm) (t6:tget t 6=v6) (t7:tget t 7=.int .i64 0) (t89:tget t 89=.slice (some ⟨g,0,none⟩) M M) (t90:tget t 90=.int .i64 (M:Nat)) (t91:tget t 91=.int .i64 0) (Q:Ex→Tm→AW→Prop)
  (hQ:∀ t,tget t 6=v6→tget t 7=.int .i64 (sumG G)→Q (.exit 4) t w):wp (exM Try.prog (run Try.prog ov (K + 1)) (.loop mc58_l2) t w) Q:=by
 refine wp_rounds (fun i t w'=>w'=w∧tget t 6=v6∧tget t 7=.int .i64 (sumG (G.take i))∧tget t 89=.slice (some ⟨g,0,none⟩) M M∧tget t 90=.int .i64 (M:Nat)∧tget t 91=.int .i64 (i:Nat)∧i≤M) 20 (by decide) ⟨rfl,t6,by simpa [sumG] using t7,t89,t90,by simpa using t91,Nat.zero_le _⟩ ?_
 clear t6 t7 t89 t90 t91 t
 rintro i t w' ⟨rfl,t6,t7,t89,t90,t91,hi⟩
 by_cases hlt:i < M
 ·obtain ⟨r,hr⟩:=lt_get (show i < G.length by rw [hOk.lenG]; exact hlt)
  obtain ⟨c,hc⟩:=lt_get (show i < cs.length by omega)
  obtain ⟨gc,c1,c2,c3⟩:=hG.at_ i c r hc hr
  obtain ⟨hrl,hrb⟩:=grid_row hOk hb hr
  have gg:=hG.gg
  have ac:(cs.map (slV V)++List.replicate (M - cs.length) nilS)[i]?=some (.slice (some ⟨c,0,none⟩) V V):=by
   rw [List.getElem?_append_left (by rw [List.length_map]; omega),List.getElem?_map,hc]; rfl
  obtain ⟨os,hos⟩:∃ os,os=cs.map (slV V)++List.replicate (M - cs.length) nilS:=⟨_,rfl⟩
  rw [← hos] at gg ac
  have i1:=fun w'=>ia27 w' ⟨g,0,none⟩ M M .i64 i hlt
  have r84:=S84.call (P:=Try.prog) h84 (m:=K) (w:=w') ⟨slV V c,r,rfl,rows_slV gc hrl c2,by omega,fun z hz=>by have:=hrb z hz; omega,rfl⟩
  have es:slV V c=.slice (some ⟨c,0,none⟩) V V:=rfl
  rw [es] at r84
  have b1:=sumG_bd hOk hb hV hM i
  have b2:=sumG_bd hOk hb hV hM (i + 1)
  rw [sumG_tk hr] at b2
  have hw1:IntKind.wrap .i64 ((i:Int) + 1)=(i:Int) + 1:=wrap64_in (by omega) (by omega)
  have hw2:IntKind.wrap .i64 (sumG (G.take i) + r.sum)=sumG (G.take i) + r.sum:=wrap64_in (by omega) (by omega)
  simp [mc58_l2,t6,t7,t89,t90,t91,hlt,i1,gg,ac,r84,hw1,hw2]
  exact ⟨by omega,(sumG_tk hr).symm,hlt⟩
 ·have hi':i=M:=by omega
  have e:G.take i=G:=List.take_of_length_le (by rw [hOk.lenG]; omega)
  rw [e] at t7
  simp [mc58_l2,t90,t91,hi']
  exact hQ _ (by simp [t6]) (by simp [t7])
set_option maxHeartbeats 1000000 in
theorem call58 (K:Nat) (ho:∀ args w,ov 58 args w=none) (h85:∀ args w,ov 85 args w=none) (h81:HasP ov 81 S81.F) (h84:HasP ov 84 S84.F) (w:AW) (hl:w.lim≤w.next) (hS:SeaV w vv hv fv vs hs fs) (hT:Rows2 intC w tv tr) (hP:RowsV jbC w pv l) (hB:seaB vs hs fs=true) (hTr:truB vs.length tr fs=true) (hPl:planB vs hs fs.length l=true) :
  ∃ v w',(run Try.prog ov (K + 2)).call 58 [.agg ⟨[vv,hv,fv]⟩,tv,pv] w .none=.ok (.ret v) w' .none∧∃ q,v=.tuple ⟨[.slice (some ⟨q,0,none⟩) vs.length vs.length,.int .i64 (sumG (plS vs tr (P0 vs.length) l).1)]⟩∧w'.heap.get q=some (.cells ((plS vs tr (P0 vs.length) l).2.flatMap intC) 3 false)∧q < w'.next∧w.next≤q∧Up w w':=by
 refine call_wp text58 (by simp) (ho _ _) ?_
 obtain ⟨b1,b2,b3,b4,b5,b6,b7,b8⟩:=sea_parts hB
 obtain ⟨nv,nh,nf⟩:=hS.nj
 obtain ⟨k1,k2,k3⟩:=tru_parts hB hTr
 have hbe:∀ v ∈ vs,0≤v.be∧v.be≤1000:=fun v hv=>by
  have:=b6 v hv
  simp only [vnB,inH,Bool.and_eq_true,decide_eq_true_eq] at this
  omega
 have hOk:GrOk fs.length vs.length vs tr (P0 vs.length):=GrOk.init rfl k1 k2 (fun m v=>(k3 m v).1) fun v hv=>(hbe v hv).1
 have hPl':=hPl
 simp only [planB,Bool.and_eq_true,decide_eq_true_eq] at hPl'
 have hj:∀ j ∈ l,jobB vs.length hs.length fs.length j=true∧1≤j.ma:=fun j hj=>by
  obtain ⟨x1,x2,_⟩:=planG_parts hPl'.2 j hj
  exact ⟨x1,x2⟩
 have sv:=same_rows hS.v
 obtain ⟨o1,o2,o3⟩:=plS_ok hOk hj
 have hLe:=plS_le hOk hj
 have lt27:=fun w2=>len27V (w':=w2) hT
 have lt39:=fun w2=>len39V (w':=w2) hP
 have lt22:=fun w2=>len22V (w':=w2) hS.v
 have tj:notJunk tv=some tv:=by obtain ⟨x,y,rfl⟩:=hT.len; rfl
 have pj:notJunk pv=some pv:=by obtain ⟨x,y,rfl⟩:=hP.len; rfl
 have mk:=fun w=>mk27 tr.length (by omega) w
 obtain ⟨w0,hw0⟩:∃ w0:AW,w0=⟨w.heap.put w.next (some (.cells [vv,hv,fv] 26 false)),w.next + 1,w.lim⟩:=⟨_,rfl⟩
 have u0:Up w w0:=by rw [hw0]; exact (Up.refl w).add _
 have n0:w0.next=w.next + 1:=by rw [hw0]
 have gX:w0.heap.get w.next=some (.cells [vv,hv,fv] 26 false):=by rw [hw0]; simp
 obtain ⟨w1,hw1⟩:∃ w1:AW,w1=⟨w0.heap.put w0.next (some (.cells (List.replicate tr.length nilS) 42 false)),w0.next + 1,w0.lim⟩:=⟨_,rfl⟩
 have u1:Up w0 w1:=by rw [hw1]; exact (Up.refl w0).add _
 have n1:w1.next=w0.next + 1:=by rw [hw1]
 have gg1:w1.heap.get w0.next=some (.cells (List.replicate tr.length nilS) 42 false):=by rw [hw1]; simp
 have hw1e:=hw1
 rw [hw0] at hw1e
 simp only at hw1e
 simp [mc58,cellsOf_agg,nv,nh,nf,tj,pj,lt27,mk]
 rw [← hw1e]
 refine wp_seqX (wp_blockX (loop58a (ov:=ov) (w0:=w0) K h85 (hT.up u0) vs.length w0.next ⟨b2,b1⟩ (by omega) k2 (Nat.le_refl _) (by rw [u0.lim]; omega) w1 u1 gg1 (by omega) w.next _ ((u1.at (by omega)).trans gX) (by omega) (by omega) tv pv (.pointer (some ⟨w.next,0,none⟩)) _ (by simp) (by simp) (by simp) (by simp) (by simp [n0]) (by simp) (by simp) (by simp) _ ?_))
 intro t w2 cs u2 hcl hG gX2 nX2 t1 t2 t3 t7 t8
 rw [k1] at hcl hG t8
 have hle2:w2.lim≤w2.next:=by rw [(u0.trans u2).lim]; have:=(u0.trans u2).next; omega
 have mk2:=fun w=>mk42 vs.length (by omega) w
 obtain ⟨w3,hw3⟩:∃ w3:AW,w3=⟨w2.heap.put w2.next (some (.cells ((P0 vs.length).flatMap intC) 3 false)),w2.next + 1,w2.lim⟩:=⟨_,rfl⟩
 have u3:Up w2 w3:=by rw [hw3]; exact (Up.refl w2).add _
 have n3:w3.next=w2.next + 1:=by rw [hw3]
 have gq3:w3.heap.get w2.next=some (.cells ((P0 vs.length).flatMap intC) 3 false):=by rw [hw3]; simp
 have hw3e:=hw3
 unfold P0 at hw3e
 have hG3:=hG.up (by omega) u3
 simp [t1,t2,t3,t7,t8,gX2,nv,lt22,lt39,mk2,sv]
 rw [← hw3e]
 refine wp_seqX (wp_blockX (loop58b (ov:=ov) (w0:=w0) (vs:=vs) (hs:=hs) (fs:=fs) (vv:=vv) (hv:=hv) (fv:=fv) (pv:=pv) (l:=l) (tr:=tr) K h81 (hS.up u0) (hP.up u0) (V:=vs.length) (M:=fs.length) (nh:=hs.length) (X:=w.next) (g:=w0.next) (q:=w2.next) (by omega) gX (by rw [u0.lim]; omega) hj hPl'.1 hOk (fun m v=>(k3 m v).2) (fun v hv=>(hbe v hv).2) cs hcl w3 (u2.trans u3) hG3 gq3 (by omega) u2.next (fun m c hc e=>by have:=hG.lt (by omega) hc; omega) (by have:=hG.ghi; omega) tv pv (.int .i64 0) _ (by simp [t1]) (by simp [t2]) (by simp [t3]) (by simp) (by simp [t7]) (by simp [t8]) (by simp) (by simp) (by simp) _ ?_))
 intro t w4 u4 hG4 gq4 nq4 t1 t2 t3 t6 t7 t8
 simp [t6,t7,t8]
 refine wp_seqX (wp_blockX (loop58c (ov:=ov) K h84 o1 (fun m v=>Int.le_trans (hLe m v) (k3 m v).2) b1 b5 hcl w4 (by rw [(u0.trans u4).lim]; have:=(u0.trans u4).next; omega) hG4 (.slice (some ⟨w2.next,0,none⟩) vs.length vs.length) _ (by simp [t6]) (by simp [t7]) (by simp [t8]) (by simp) (by simp) _ ?_))
 intro t t6 t7
 simp [t6,t7,tupV]
 exact ⟨gq4,nq4,by have:=u2.next; omega,u0.trans u4⟩
end
end Go.Proofs.Ytiokkkjahkhbfaa.walk
namespace Go.Sh
open Go
theorem plan_ma {vs:List HVn} {hs:List HHd} {M:Nat} (hb:∀ x ∈ hs,x.da≤1000):∀ {l p:List HJb},UseOk hs p→planG vs hs M p l=true→∀ j ∈ l,1≤j.ma∧j.ma≤1000
 | [],_,_,_,_,h=>by simp at h
 | i::l,p,hU,h,j,hj=>by
  simp only [planG,Bool.and_eq_true] at h
  rcases List.mem_cons.1 hj with rfl | hj
  ·obtain ⟨_,h2,x,v,hx,_,_,h1,hd,_⟩:=step_parts h.1
   have:=hb x (List.mem_of_getElem? hx)
   have:=hU.dayPos j.mo j.ha
   omega
  ·exact plan_ma hb (hU.push h.1) h.2 j hj
theorem sum_le1:∀ {p:List HJb} {f:HJb→Bool},(∀ j ∈ p,1≤j.ma∧j.ma≤1000)→0≤(p.map fun j=>if f j then j.ma else 0).sum∧(p.map fun j=>if f j then j.ma else 0).sum≤1000 * (p.length:Int)
 | [],_,_=>by simp
 | j::p,f,h=>by
  have h1:=h j (by simp)
  have ih:=sum_le1 (p:=p) (f:=f) fun k hk=>h k (by simp [hk])
  simp only [List.map_cons,List.sum_cons,List.length_cons]
  push_cast
  split <;> omega
theorem had_bd {p:List HJb} (h:∀ j ∈ p,1≤j.ma∧j.ma≤1000) (m v:Int):0≤hadF p m v∧hadF p m v≤1000 * (p.length:Int):=by
 have:=sum_le1 (f:=fun j=>decide (j.mo=m∧j.vi=v)) h
 simpa [hadF] using this
theorem pod_bd {p:List HJb} (h:∀ j ∈ p,1≤j.ma∧j.ma≤1000) (v:Int):0≤podF p v∧podF p v≤1000 * (p.length:Int):=by
 have:=sum_le1 (f:=fun j=>decide (j.vi=v)) h
 simpa [podF] using this
theorem wor_bd {p:List HJb} (h:∀ j ∈ p,1≤j.ma∧j.ma≤1000):0≤(p.map (·.ma)).sum∧(p.map (·.ma)).sum≤1000 * (p.length:Int):=by
 have:=sum_le1 (f:=fun j=>true) h
 simpa using this
theorem wor_tk {l:List HJb} {i:Nat} {x:HJb} (h:l[i]?=some x):((l.take (i + 1)).map (·.ma)).sum=((l.take i).map (·.ma)).sum + x.ma:=by
 rw [take_push' h,List.map_append,List.sum_append]; simp
theorem P0_sum (V:Nat):(P0 V).sum=0:=by
 induction V with
 | zero=>rfl
 | succ n ih=>unfold P0 at *; rw [List.replicate_succ,List.sum_cons,ih]; rfl
theorem fits_eq {M V nh:Nat} {vs:List HVn} {tr:List (List Int)} {l:List HJb} (h:GrOk M V vs tr (P0 V)) (hj:∀ j ∈ l,jobB V nh M j=true∧1≤j.ma):fitG tr vs [] l=decide ((plS vs tr (P0 V) l).2.sum=(l.map (·.ma)).sum):=by
 rw [fit_iff h hj (fun m v _ _=>by simp [hadF]) (fun v _=>by rw [P0_get]; simp [podF]),P0_sum,Int.zero_add]
end Go.Sh
