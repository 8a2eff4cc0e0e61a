/- Part of a proof: see the text with the theorem. -/
import Derived.Test.YtiokkkjahkhbfaaTd
import Derived.Test.YtiokkkjahkhbfaaShE
import Derived.Test.YtiokkkjahkhbfaaProg
import Derived.KernelRfl
import Derived.Test.YtiokkkjahkhbfaaTc
set_option linter.all false
namespace Go.Proofs.Ytiokkkjahkhbfaa.walk
open Go Go.Sh
set_option maxRecDepth 100000
noncomputable def mc30_l0_b2:MC:=.seq (.ops [⟨true,none,some 41,0,.fieldAddr 67 (.tmp 10) 0⟩,⟨true,none,some 42,3,.load 3 (.tmp 41)⟩,⟨true,none,some 43,0,.fieldAddr 67 (.tmp 10) 3⟩,⟨true,none,some 44,3,.load 3 (.tmp 43)⟩,⟨true,none,some 45,0,.indexAddr 108 (.tmp 7) (.tmp 42)⟩,⟨true,none,some 46,0,.indexAddr 107 (.tmp 45) (.tmp 44)⟩,⟨true,none,some 47,3,.load 3 (.tmp 46)⟩,⟨true,none,some 48,27,.move (.tmp 1)⟩,⟨true,none,some 49,0,.fieldAddr 67 (.tmp 10) 0⟩,⟨true,none,some 50,3,.load 3 (.tmp 49)⟩,⟨true,none,some 51,0,.indexAddr 27 (.tmp 48) (.tmp 50)⟩,⟨true,none,some 52,42,.load 42 (.tmp 51)⟩,⟨true,none,some 53,0,.fieldAddr 67 (.tmp 10) 3⟩,⟨true,none,some 54,3,.load 3 (.tmp 53)⟩,⟨true,none,some 55,0,.indexAddr 42 (.tmp 52) (.tmp 54)⟩,⟨true,none,some 56,3,.load 3 (.tmp 55)⟩,⟨true,none,some 57,4,.binOp .gtr 3 (.tmp 47) (.tmp 56) 3⟩,⟨true,none,some 58,4,.move (.tmp 57)⟩,⟨true,some (58,false),some 59,0,.fieldAddr 67 (.tmp 10) 3⟩,⟨true,some (58,false),some 60,3,.load 3 (.tmp 59)⟩,⟨true,some (58,false),some 61,0,.indexAddr 107 (.tmp 8) (.tmp 60)⟩,⟨true,some (58,false),some 62,3,.load 3 (.tmp 61)⟩,⟨true,some (58,false),some 63,0,.fieldAddr 26 (.tmp 3) 0⟩,⟨true,some (58,false),some 64,22,.load 22 (.tmp 63)⟩,⟨true,some (58,false),some 65,0,.fieldAddr 67 (.tmp 10) 3⟩,⟨true,some (58,false),some 66,3,.load 3 (.tmp 65)⟩,⟨true,some (58,false),some 67,0,.indexAddr 22 (.tmp 64) (.tmp 66)⟩,⟨true,some (58,false),some 68,0,.fieldAddr 65 (.tmp 67) 2⟩,⟨true,some (58,false),some 69,3,.load 3 (.tmp 68)⟩,⟨true,some (58,false),some 70,4,.binOp .gtr 3 (.tmp 62) (.tmp 69) 3⟩,⟨true,none,some 71,4,.pick (.tmp 58) (.const (.bool true)) (.tmp 70)⟩]) (.cond (.tmp 71) (.seq (.ops [⟨false,none,some 6,4,.assign (.const (.bool false))⟩]) (.ret)) (.skip))
noncomputable def mc30_l0_b1:MC:=.seq (.ops [⟨true,none,some 21,0,.fieldAddr 67 (.tmp 10) 0⟩,⟨true,none,some 22,3,.load 3 (.tmp 21)⟩,⟨true,none,some 23,0,.fieldAddr 67 (.tmp 10) 3⟩,⟨true,none,some 24,3,.load 3 (.tmp 23)⟩,⟨true,none,some 25,0,.indexAddr 108 (.tmp 7) (.tmp 22)⟩,⟨true,none,some 26,0,.indexAddr 107 (.tmp 25) (.tmp 24)⟩,⟨true,none,some 27,3,.load 3 (.tmp 26)⟩,⟨true,none,some 28,0,.fieldAddr 67 (.tmp 10) 4⟩,⟨true,none,some 29,3,.load 3 (.tmp 28)⟩,⟨true,none,some 30,3,.binOp .add 3 (.tmp 27) (.tmp 29) 3⟩,⟨true,none,some 31,0,.indexAddr 108 (.tmp 7) (.tmp 22)⟩,⟨true,none,some 32,0,.indexAddr 107 (.tmp 31) (.tmp 24)⟩,⟨false,none,none,0,.store 3 (.tmp 32) (.tmp 30)⟩]) (.seq (.ops [⟨true,none,some 33,0,.fieldAddr 67 (.tmp 10) 3⟩,⟨true,none,some 34,3,.load 3 (.tmp 33)⟩,⟨true,none,some 35,0,.indexAddr 107 (.tmp 8) (.tmp 34)⟩,⟨true,none,some 36,3,.load 3 (.tmp 35)⟩,⟨true,none,some 37,0,.fieldAddr 67 (.tmp 10) 4⟩,⟨true,none,some 38,3,.load 3 (.tmp 37)⟩,⟨true,none,some 39,3,.binOp .add 3 (.tmp 36) (.tmp 38) 3⟩,⟨true,none,some 40,0,.indexAddr 107 (.tmp 8) (.tmp 34)⟩,⟨false,none,none,0,.store 3 (.tmp 40) (.tmp 39)⟩]) mc30_l0_b2)
theorem mc30_l0_eq:mc30_l0=.seq (.seq (.ops [⟨false,none,some 11,3,.move (.tmp 9)⟩,⟨false,none,some 12,39,.move (.tmp 2)⟩,⟨false,none,some 13,3,.call ⟨.builtin .len,#[.tmp 12],#[39]⟩⟩,⟨false,none,some 14,4,.binOp .lss 3 (.tmp 11) (.tmp 13) 3⟩]) (.cond (.tmp 14) (.skip) (.exit 0))) (.seq (.block 1 (.seq (.ops [⟨false,none,some 17,39,.move (.tmp 2)⟩,⟨false,none,some 18,3,.move (.tmp 9)⟩,⟨false,none,some 19,0,.indexAddr 39 (.tmp 17) (.tmp 18)⟩,⟨false,none,some 20,67,.load 67 (.tmp 19)⟩,⟨false,none,some 10,0,.alloc 67⟩,⟨false,none,none,0,.store 67 (.tmp 10) (.tmp 20)⟩]) mc30_l0_b1)) (.ops [⟨false,none,some 15,3,.move (.tmp 9)⟩,⟨false,none,some 16,3,.binOp .add 3 (.tmp 15) (.const (.int .i64 1)) 3⟩,⟨false,none,some 9,3,.assign (.tmp 16)⟩])):=rfl
theorem arr108:arrN Try.prog 108=some (6,107):=by kernel_rfl
theorem arr107:arrN Try.prog 107=some (6,3):=by kernel_rfl
theorem sz107:szOf Try.prog 107=some 6:=by kernel_rfl
theorem ia108 (w:AW) (a:Addr) {i:Nat} (hi:i < 6):indexAddrA Try.prog w 108 (.pointer (some a)) (.int .i64 (i:Int))=.val (.pointer (some (a.add (i * 6)))) w:=ia_arr arr108 sz107 rfl w a _ hi
theorem ia107 (w:AW) (a:Addr) {i:Nat} (hi:i < 6):indexAddrA Try.prog w 107 (.pointer (some a)) (.int .i64 (i:Int))=.val (.pointer (some (a.add (i * 1)))) w:=ia_arr arr107 sz3 rfl w a _ hi
theorem hfL_length (p:List HJb):(hfL p).length=36:=arrL_length _ _
theorem pfL_length (p:List HJb):(pfL p).length=6:=arrL_length _ _
theorem al108L (w:AW):allocA Try.prog w 108=.val (.pointer (some ⟨w.next,0,none⟩)) ⟨w.heap.put w.next (some (.cells ((hfL []).flatMap intC) 108 false)),w.next + 1,w.lim⟩:=by
 rw [hfL_nil,al108]; rfl
theorem al107L (w:AW):allocA Try.prog w 107=.val (.pointer (some ⟨w.next,0,none⟩)) ⟨w.heap.put w.next (some (.cells ((pfL []).flatMap intC) 107 false)),w.next + 1,w.lim⟩:=by
 rw [pfL_nil,al107]; rfl
section
variable {ov:Ov} {vs:List HVn} {hs:List HHd} {fs:List (List (Int × Int))} {vv hv fv tv pv:Value} {tr:List (List Int)}
set_option maxHeartbeats 1000000 in
theorem part30a (M:Nat) (p:List HJb) (m k:Nat) (o h ma:Int) (hm:m < 6) (hk:k < 6) (hma:1≤ma∧ma≤1000) (b1:0≤hadF p m k∧hadF p m k≤10000000) (b2:0≤podF p k∧podF p k≤10000000) (J H D:Nat) (hJH:¬ J=H) (hJD:¬ J=D) (hHD:¬ H=D) (w:AW) (gJ:w.heap.get J=some (.cells (jbC ⟨m,o,h,k,ma⟩) 67 false)) (gH:w.heap.get H=some (.cells ((hfL p).flatMap intC) 108 false)) (gD:w.heap.get D=some (.cells ((pfL p).flatMap intC) 107 false)) (lH:w.lim≤H) (lD:w.lim≤D)
  (v1 v2 v3 v9:Value) (t:Tm) (t1:tget t 1=v1) (t2:tget t 2=v2) (t3:tget t 3=v3) (t7:tget t 7=.pointer (some ⟨H,0,none⟩)) (t8:tget t 8=.pointer (some ⟨D,0,none⟩)) (t9:tget t 9=v9) (t10:tget t 10=.pointer (some ⟨J,0,none⟩)) (Q:Ex→Tm→AW→Prop)
  (hQ:∀ t w',w'.heap.get H=some (.cells ((hfL (p++[⟨m,o,h,k,ma⟩])).flatMap intC) 108 false)→w'.heap.get D=some (.cells ((pfL (p++[⟨m,o,h,k,ma⟩])).flatMap intC) 107 false)→(∀ b,b ≠ H→b ≠ D→w'.heap.get b=w.heap.get b)→w'.next=w.next→w'.lim=w.lim→tget t 1=v1→tget t 2=v2→tget t 3=v3→tget t 7=.pointer (some ⟨H,0,none⟩)→tget t 8=.pointer (some ⟨D,0,none⟩)→tget t 9=v9→tget t 10=.pointer (some ⟨J,0,none⟩)→wp (exM Try.prog (run Try.prog ov M) mc30_l0_b2 t w') Q):wp (exM Try.prog (run Try.prog ov M) mc30_l0_b1 t w) Q:=by
 have i1:=fun w a=>ia108 w a hm
 have i2:=fun w a=>ia107 w a hk
 have a1:=int_at (hfL_at p hm hk)
 have a2:=int_at (pfL_at p hk)
 have f1:m * 6 + k + 1≤((hfL p).flatMap intC).length:=by rw [int_len,hfL_length]; omega
 have f2:k + 1≤((pfL p).flatMap intC).length:=by rw [int_len,pfL_length]; omega
 have s1:=int_set (hfL p) (m * 6 + k) (hadF p m k + ma) (by rw [hfL_length]; omega)
 have s2:=int_set (pfL p) k (podF p k + ma) (by rw [pfL_length]; omega)
 have p1:=hfL_push p ⟨m,o,h,k,ma⟩ hm hk rfl rfl
 have p2:=pfL_push p ⟨m,o,h,k,ma⟩ hk rfl
 simp only at p1 p2
 rw [p1] at s1
 rw [p2] at s2
 have w1:IntKind.wrap .i64 (hadF p m k + ma)=hadF p m k + ma:=wrap64_in (by omega) (by omega)
 have w2:IntKind.wrap .i64 (podF p k + ma)=podF p k + ma:=wrap64_in (by omega) (by omega)
 obtain ⟨cs,hcs⟩:∃ cs,cs=(hfL p).flatMap intC:=⟨_,rfl⟩
 obtain ⟨ds,hds⟩:∃ ds,ds=(pfL p).flatMap intC:=⟨_,rfl⟩
 rw [← hcs] at a1 f1 s1 gH
 rw [← hds] at a2 f2 s2 gD
 clear hcs hds p1 p2
 have hHJ:¬ H=J:=fun e=>hJH e.symm
 have hDJ:¬ D=J:=fun e=>hJD e.symm
 have hDH:¬ D=H:=fun e=>hHD e.symm
 simp only [jbC] at gJ
 simp [mc30_l0_b1,t7,t8,t10,gJ,gH,gD,hJH,hJD,hHD,hHJ,hDJ,hDH,i1,i2,a1,a2,f1,f2,lH,lD,w1,w2]
 refine hQ _ _ ?_ ?_ ?_ ?_ ?_ ?_ ?_ ?_ ?_ ?_ ?_ ?_
 ·simp [hHD,s1]
 ·simp [s2]
 ·intro b hb1 hb2; simp [hb1,hb2]
 ·rfl
 ·rfl
 ·simp [t1]
 ·simp [t2]
 ·simp [t3]
 ·simp [t7]
 ·simp [t8]
 ·simp [t9]
 ·simp [t10]
set_option maxHeartbeats 1000000 in
theorem part30b (M:Nat) (p':List HJb) (m k:Nat) (o h ma:Int) (hm:m < 6) (hk:k < 6) (r:List Int) (z:Int) (hr:tr[m]?=some r) (hz:r[k]?=some z) (v:HVn) (hv':vs[k]?=some v) (J H D X:Nat) (w:AW) (hS:SeaV w vv hv fv vs hs fs) (hT:Rows2 intC w tv tr) (gX:w.heap.get X=some (.cells [vv,hv,fv] 26 false)) (gJ:w.heap.get J=some (.cells (jbC ⟨m,o,h,k,ma⟩) 67 false)) (gH:w.heap.get H=some (.cells ((hfL p').flatMap intC) 108 false)) (gD:w.heap.get D=some (.cells ((pfL p').flatMap intC) 107 false))
  (v2 v9:Value) (t:Tm) (t1:tget t 1=tv) (t2:tget t 2=v2) (t3:tget t 3=.pointer (some ⟨X,0,none⟩)) (t7:tget t 7=.pointer (some ⟨H,0,none⟩)) (t8:tget t 8=.pointer (some ⟨D,0,none⟩)) (t9:tget t 9=v9) (t10:tget t 10=.pointer (some ⟨J,0,none⟩)) (Q:Ex→Tm→AW→Prop)
  (hbad:∀ t,(z < hadF p' m k∨v.be < podF p' k)→tget t 6=.bool false→Q .ret t w)
  (hgood:∀ t,¬ (z < hadF p' m k∨v.be < podF p' k)→tget t 1=tv→tget t 2=v2→tget t 3=.pointer (some ⟨X,0,none⟩)→tget t 7=.pointer (some ⟨H,0,none⟩)→tget t 8=.pointer (some ⟨D,0,none⟩)→tget t 9=v9→Q .normal t w):wp (exM Try.prog (run Try.prog ov M) mc30_l0_b2 t w) Q:=by
 have i1:=fun w a=>ia108 w a hm
 have i2:=fun w a=>ia107 w a hk
 have a1:=int_at (hfL_at p' hm hk)
 have a2:=int_at (pfL_at p' hk)
 obtain ⟨cs,hcs⟩:∃ cs,cs=(hfL p').flatMap intC:=⟨_,rfl⟩
 obtain ⟨ds,hds⟩:∃ ds,ds=(pfL p').flatMap intC:=⟨_,rfl⟩
 rw [← hcs] at a1 gH
 rw [← hds] at a2 gD
 clear hcs hds
 obtain ⟨nv,nh,nf⟩:=hS.nj
 obtain ⟨q,iq,_,lq,nq⟩:=getR un22 sz65 vnC_length hS.v rfl hv'
 have lq:=lq 2 _ rfl
 obtain ⟨pp,ra,rc,ir,lr,_,hrow⟩:=Rows2.get un27 sz42 hT rfl hr
 obtain ⟨pz,iz,_,lz,_⟩:=getR un42 sz3 intC_length hrow rfl hz
 have lz:=lz 0 _ rfl
 simp only [Nat.add_zero] at lz
 obtain ⟨va,vb,vc⟩:=v
 have lq:rd1O (w.heap.get q.block) (q.off + 2)=some (.int .i64 vc):=lq
 simp only [jbC] at gJ
 simp only at hbad hgood
 by_cases k1:z < hadF p' m k
 ·simp [mc30_l0_b2,t1,t3,t7,t8,t10,gX,gJ,gH,gD,nv,nh,nf,iq,lq,ir,lr,iz,lz,i1,i2,a1,a2,k1]
  exact hbad _ (.inl k1) (by simp)
 ·by_cases k2:vc < podF p' k
  ·simp [mc30_l0_b2,t1,t3,t7,t8,t10,gX,gJ,gH,gD,nv,nh,nf,iq,lq,ir,lr,iz,lz,i1,i2,a1,a2,k1,k2]
   exact hbad _ (.inr k2) (by simp)
  ·simp [mc30_l0_b2,t1,t3,t7,t8,t10,gX,gJ,gH,gD,nv,nh,nf,iq,lq,ir,lr,iz,lz,i1,i2,a1,a2,k1,k2]
   exact hgood _ (by omega) (by simp [t1]) (by simp [t2]) (by simp [t3]) (by simp [t7]) (by simp [t8]) (by simp [t9])
def S56:PSpec where
 R args w v:=∃ (vv hv fv tv pv:Value) (vs:List HVn) (hs:List HHd) (fs:List (List (Int × Int))) (tr:List (List Int)) (l:List HJb),args=[.agg ⟨[vv,hv,fv]⟩,tv,pv]∧SeaV w vv hv fv vs hs fs∧Rows2 intC w tv tr∧RowsV jbC w pv l∧seaB vs hs fs=true∧truB vs.length tr fs=true∧planB vs hs fs.length l=true∧v=.bool (fitG tr vs [] l)
 uniq:=by
  rintro _ _ _ _ ⟨a,b,c,d,e,x,y,z,t,l,rfl,h1,h2,h3,_,_,_,rfl⟩ ⟨a',b',c',d',e',x',y',z',t',l',q,k1,k2,k3,_,_,_,rfl⟩
  cases q
  obtain ⟨rfl,rfl,rfl⟩:=h1.uniq k1
  rw [h2.uniq (m:=1) intC_length intC_inj k2,h3.uniq (m:=5) jbC_length jbC_inj k3]
 shut:=by rintro _ _ _ ⟨a,b,c,d,e,x,y,z,t,l,q,h1,h2⟩; exact ⟨a,b,c,d,e,x,y,z,t,l,q,⟨h1.v,h1.h,h1.f⟩,h2⟩
structure AllOk (vs:List HVn) (hs:List HHd) (fs:List (List (Int × Int))) (tr:List (List Int)) (l:List HJb):Prop where
 v6:vs.length≤6∧1≤vs.length
 f6:fs.length≤6∧1≤fs.length
 trl:tr.length=fs.length
 ok:GrOk fs.length vs.length vs tr (P0 vs.length)
 tb:∀ m v:Nat,0≤g2 tr m v∧g2 tr m v≤1000
 be:∀ v ∈ vs,0≤v.be∧v.be≤1000
 jb:∀ j ∈ l,jobB vs.length hs.length fs.length j=true∧1≤j.ma
 ma:∀ j ∈ l,1≤j.ma∧j.ma≤1000
 len:l.length≤2048
theorem all_ok {l:List HJb} (hB:seaB vs hs fs=true) (hTr:truB vs.length tr fs=true) (hPl:planB vs hs fs.length l=true):AllOk vs hs fs tr l:=by
 obtain ⟨b1,b2,b3,b4,b5,b6,b7,b8⟩:=sea_parts hB
 obtain ⟨k1,k2,k3⟩:=tru_parts hB hTr
 have hbe:∀ v ∈ vs,0≤v.be∧v.be≤1000:=fun v hv=>by
  have:=b6 v hv
  simp only [vnB,inH,Bool.and_eq_true,decide_eq_true_eq] at this
  omega
 have hda:∀ x ∈ hs,x.da≤1000∧0≤x.da∧0≤x.ra:=fun x hx=>by
  have:=b7 x hx
  simp only [hhB,inH,Bool.and_eq_true,decide_eq_true_eq] at this
  omega
 simp only [planB,Bool.and_eq_true,decide_eq_true_eq] at hPl
 exact ⟨⟨b1,b2⟩,⟨b5,b4⟩,k1,GrOk.init rfl k1 k2 (fun m v=>(k3 m v).1) fun v hv=>(hbe v hv).1,k3,hbe,fun j hj=>by obtain ⟨x1,x2,_⟩:=planG_parts hPl.2 j hj; exact ⟨x1,x2⟩,plan_ma (fun x hx=>(hda x hx).1) (UseOk.nil fun x hx=>by have:=hda x hx; omega) hPl.2,hPl.1⟩
set_option maxHeartbeats 1000000 in
theorem run30 (ho:∀ args w,ov 30 args w=none) (l:List HJb) (w:AW) (hl:w.lim=w.next) (hS:SeaV w vv hv fv vs hs fs) (hT:Rows2 intC w tv tr) (hP:RowsV jbC w pv l) (hB:seaB vs hs fs=true) (hTr:truB vs.length tr fs=true) (hPl:planB vs hs fs.length l=true) :
  ∃ v w',(run Try.prog ov 2).call 30 [.agg ⟨[vv,hv,fv]⟩,tv,pv] w .none=.ok (.ret v) w' .none∧v=.bool (fitG tr vs [] l):=by
 refine call_wp text30 (by simp) (ho _ _) ?_
 have A:=all_ok hB hTr hPl
 obtain ⟨nv,nh,nf⟩:=hS.nj
 have hl1:=fun w2=>len39V (w':=w2) hP
 have tj:notJunk tv=some tv:=by obtain ⟨x,y,rfl⟩:=hT.len; rfl
 have pj:notJunk pv=some pv:=by obtain ⟨x,y,rfl⟩:=hP.len; rfl
 have hlen:=A.len
 simp [-al108, -al107,al108L,al107L,mc30,cellsOf_agg,nv,nh,nf,tj,pj,hl1]
 refine wp_seqX (wp_blockX (wp_rounds (fun i t w'=>Up w w'∧w.next + 3≤w'.next∧w'.heap.get w.next=some (.cells [vv,hv,fv] 26 false)∧w'.heap.get (w.next + 1)=some (.cells ((hfL (l.take i)).flatMap intC) 108 false)∧w'.heap.get (w.next + 1 + 1)=some (.cells ((pfL (l.take i)).flatMap intC) 107 false)∧fitG tr vs (l.take i) (l.drop i)=fitG tr vs [] l∧tget t 1=tv∧tget t 2=pv∧tget t 3=.pointer (some ⟨w.next,0,none⟩)∧tget t 7=.pointer (some ⟨w.next + 1,0,none⟩)∧tget t 8=.pointer (some ⟨w.next + 1 + 1,0,none⟩)∧tget t 9=.int .i64 (i:Nat)∧i≤l.length) 3000 (by decide) ?_ ?_))
 ·refine ⟨((((Up.refl w).add _).put (Nat.le_succ _) (Nat.le_succ _)).put (by omega) (Nat.le_succ _)),by show w.next + 3≤w.next + 1 + 1 + 1; omega,by simp,by simp,by simp,by simp,by simp,by simp,by simp,by simp,by simp,by simp,Nat.zero_le _⟩
 ·rintro i t w' ⟨hu,hn,gX,gH,gD,he,t1,t2,t3,t7,t8,t9,hi⟩
  have hle:w'.lim≤w'.next:=by rw [hu.lim]; omega
  by_cases hlt:i < l.length
  ·obtain ⟨x,hx⟩:=lt_get hlt
   have hxm:=List.mem_of_getElem? hx
   obtain ⟨j1,_⟩:=A.jb x hxm
   have j2:=A.ma x hxm
   have j1':=j1
   simp only [jobB,decide_eq_true_eq] at j1'
   have hmt:∀ j ∈ l.take i,1≤j.ma∧j.ma≤1000:=fun j hj=>A.ma j (List.mem_of_mem_take hj)
   have hw1':IntKind.wrap .i64 ((i:Int) + 1)=(i:Int) + 1:=wrap64_in (by omega) (by omega)
   obtain ⟨p,hia,hld,_,hpb⟩:=getR un39 sz67 jbC_length (hP.up hu) rfl hx
   rw [drop_cons hx] at he
   have he:(decide (hadF (l.take i++[x]) x.mo x.vi≤g2 tr x.mo x.vi) && (decide (podF (l.take i++[x]) x.vi≤beV vs x.vi) && fitG tr vs (l.take i++[x]) (l.drop (i + 1))))=fitG tr vs [] l:=he
   have htk:=take_push' hx
   have hlt':(i:Int) < (l.length:Int):=by omega
   obtain ⟨mo,o,h,vi,ma⟩:=x
   simp only at j1' j2 he
   obtain ⟨m,rfl⟩:∃ m:Nat,mo=m:=⟨mo.toNat,by omega⟩
   obtain ⟨k,rfl⟩:∃ k:Nat,vi=k:=⟨vi.toNat,by omega⟩
   have hm:m < fs.length:=by omega
   have hk:k < vs.length:=by omega
   obtain ⟨r,z,y,v,hr,hrl,hrx,hPy,hvk,eg,ep,eb⟩:=A.ok.row hm hk
   have h1:=had_bd hmt m k
   have h2:=pod_bd hmt k
   have hll:(l.take i).length≤2048:=by rw [List.length_take]; omega
   rw [eg,eb] at he
   obtain ⟨w1,hw1⟩:∃ w1:AW,w1=⟨(w'.heap.put w'.next (some (.cells [.int .i64 0,.int .i64 0,.int .i64 0,.int .i64 0,.int .i64 0] 67 false))).put w'.next (some (.cells (jbC ⟨m,o,h,k,ma⟩) 67 false)),w'.next + 1,w'.lim⟩:=⟨_,rfl⟩
   have u4:Up w' w1:=by rw [hw1]; exact ((Up.refl w').add _).put (Nat.le_refl _) (Nat.le_refl _)
   have n1:w1.next=w'.next + 1:=by rw [hw1]
   have gJ:w1.heap.get w'.next=some (.cells (jbC ⟨m,o,h,k,ma⟩) 67 false):=by rw [hw1]; simp
   have gX1:=(u4.at (show w.next < w'.next by omega)).trans gX
   have gH1:=(u4.at (show w.next + 1 < w'.next by omega)).trans gH
   have gD1:=(u4.at (show w.next + 1 + 1 < w'.next by omega)).trans gD
   have hu1:=hu.trans u4
   have hw1e:=hw1
   simp only [jbC] at hld hw1e
   have v6:=A.v6
   have f6:=A.f6
   simp [mc30_l0_eq,t2,t9,hl1,hlt,hlt',hia,hld,hle]
   rw [← hw1e]
   refine wp_seqX (wp_blockX (part30a (ov:=ov) 1 (l.take i) m k o h ma (by omega) (by omega) j2 (by omega) (by omega) w'.next (w.next + 1) (w.next + 1 + 1) (by omega) (by omega) (by omega) w1 gJ gH1 gD1 (by rw [hu1.lim]; omega) (by rw [hu1.lim]; omega) tv pv (.pointer (some ⟨w.next,0,none⟩)) (.int .i64 (i:Nat)) _ (by simp [t1]) (by simp [t2]) (by simp [t3]) (by simp [t7]) (by simp [t8]) (by simp [t9]) (by simp) _ ?_))
   intro t w2 gH2 gD2 hold n2 l2 t1 t2 t3 t7 t8 t9 t10
   have hu2:Up w w2:=⟨fun b hb=>(hold b (by omega) (by omega)).trans (hu1.at hb),by rw [n2]; exact hu1.next,by rw [l2]; exact hu1.lim⟩
   refine part30b (ov:=ov) (hs:=hs) (fs:=fs) (vv:=vv) (hv:=hv) (fv:=fv) 1 (l.take i++[⟨m,o,h,k,ma⟩]) m k o h ma (by omega) (by omega) r z hr hrx v hvk w'.next (w.next + 1) (w.next + 1 + 1) w.next w2 (hS.up hu2) (hT.up hu2) ((hold _ (by omega) (by omega)).trans gX1) ((hold _ (by omega) (by omega)).trans gJ) gH2 gD2 pv (.int .i64 (i:Nat)) t t1 t2 t3 t7 t8 t9 t10 _ ?_ ?_
   ·intro t hb t6
    have e:fitG tr vs [] l=false:=by
     rw [← he]
     rcases hb with hb | hb
     ·rw [decide_eq_false (by omega)]; rfl
     ·rw [decide_eq_false (p:=podF _ _≤_) (by omega)]; simp
    simp [t6,e,tupV]
   ·intro t hb t1 t2 t3 t7 t8 t9
    rw [decide_eq_true (show hadF (l.take i++[⟨m,o,h,k,ma⟩]) m k≤z by omega),decide_eq_true (show podF (l.take i++[⟨m,o,h,k,ma⟩]) k≤v.be by omega),Bool.true_and,Bool.true_and] at he
    simp [t9,hw1']
    rw [← htk] at gH2 gD2 he
    exact ⟨by omega,hu2,by omega,(hold _ (by omega) (by omega)).trans gX1,gH2,gD2,he,t1,t2,t3,t7,t8,hlt⟩
  ·have hi':i=l.length:=by omega
   subst hi'
   have e:fitG tr vs [] l=true:=by rw [← he,List.drop_length]; rfl
   simp [mc30_l0_eq,t2,t9,hl1,e,tupV]
end
section
variable {ov:Ov} {vs:List HVn} {hs:List HHd} {fs:List (List (Int × Int))} {vv hv fv tv pv:Value} {tr:List (List Int)} {l:List HJb}
def chkP (vs:List HVn) (hs:List HHd) (fs:List (List (Int × Int))) (tr:List (List Int)) (l:List HJb):Int:=if chkT vs hs fs tr=0 then (if planB vs hs fs.length l=true then 0 else 22) else chkT vs hs fs tr
theorem chkT0:chkT vs hs fs tr=0 ↔ seaB vs hs fs=true∧truB vs.length tr fs=true:=by
 unfold chkT
 by_cases h:chkH vs hs fs=0
 ·rw [if_pos h]
  have h':=chk0.1 h
  by_cases k:truB vs.length tr fs=true
  ·simp [k,h']
  ·rw [if_neg k]; simp [k]
 ·rw [if_neg h]
  have h':¬ seaB vs hs fs=true:=fun e=>h (chk0.2 e)
  constructor
  ·intro e; exact absurd e h
  ·intro e; exact absurd e.1 h'
theorem chkP0:chkP vs hs fs tr l=0 ↔ seaB vs hs fs=true∧truB vs.length tr fs=true∧planB vs hs fs.length l=true:=by
 unfold chkP
 by_cases h:chkT vs hs fs tr=0
 ·rw [if_pos h]
  have h':=chkT0.1 h
  by_cases k:planB vs hs fs.length l=true
  ·simp [k,h']
  ·rw [if_neg k]; simp [k]
 ·rw [if_neg h]
  constructor
  ·intro e; exact absurd e h
  ·intro e; exact absurd (chkT0.2 ⟨e.1,e.2.1⟩) h
def S55:PSpec where
 R args w v:=∃ (vv hv fv tv pv:Value) (vs:List HVn) (hs:List HHd) (fs:List (List (Int × Int))) (tr:List (List Int)) (l:List HJb),args=[.agg ⟨[vv,hv,fv]⟩,tv,pv]∧SeaV w vv hv fv vs hs fs∧Rows2 intC w tv tr∧RowsV jbC w pv l∧v=.int .i64 (chkP vs hs fs tr l)
 uniq:=by
  rintro _ _ _ _ ⟨a,b,c,d,e,x,y,z,t,l,rfl,h1,h2,h3,rfl⟩ ⟨a',b',c',d',e',x',y',z',t',l',q,k1,k2,k3,rfl⟩
  cases q
  obtain ⟨rfl,rfl,rfl⟩:=h1.uniq k1
  rw [h2.uniq (m:=1) intC_length intC_inj k2,h3.uniq (m:=5) jbC_length jbC_inj k3]
 shut:=by rintro _ _ _ ⟨a,b,c,d,e,x,y,z,t,l,q,h1,h2⟩; exact ⟨a,b,c,d,e,x,y,z,t,l,q,⟨h1.v,h1.h,h1.f⟩,h2⟩
def fitV (vs:List HVn) (hs:List HHd) (fs:List (List (Int × Int))) (tr:List (List Int)) (l:List HJb):Bool:=decide (chkP vs hs fs tr l=0) && fitG tr vs [] l
def S19:PSpec where
 R args w v:=∃ (vv hv fv tv pv:Value) (vs:List HVn) (hs:List HHd) (fs:List (List (Int × Int))) (tr:List (List Int)) (l:List HJb),args=[.agg ⟨[vv,hv,fv]⟩,tv,pv]∧SeaV w vv hv fv vs hs fs∧Rows2 intC w tv tr∧RowsV jbC w pv l∧v=.tuple ⟨[.bool (fitV vs hs fs tr l),.int .i64 (chkP vs hs fs tr l)]⟩
 uniq:=by
  rintro _ _ _ _ ⟨a,b,c,d,e,x,y,z,t,l,rfl,h1,h2,h3,rfl⟩ ⟨a',b',c',d',e',x',y',z',t',l',q,k1,k2,k3,rfl⟩
  cases q
  obtain ⟨rfl,rfl,rfl⟩:=h1.uniq k1
  rw [h2.uniq (m:=1) intC_length intC_inj k2,h3.uniq (m:=5) jbC_length jbC_inj k3]
 shut:=by rintro _ _ _ ⟨a,b,c,d,e,x,y,z,t,l,q,h1,h2⟩; exact ⟨a,b,c,d,e,x,y,z,t,l,q,⟨h1.v,h1.h,h1.f⟩,h2⟩
theorem run55 (ho:∀ args w,ov 55 args w=none) (h59:HasP ov 59 S59.F) (h83:HasP ov 83 S83.F) (w:AW) (hl:w.lim=w.next) (hS:SeaV w vv hv fv vs hs fs) (hT:Rows2 intC w tv tr) (hP:RowsV jbC w pv l):∃ x w',(run Try.prog ov 2).call 55 [.agg ⟨[vv,hv,fv]⟩,tv,pv] w .none=.ok (.ret x) w' .none∧x=.int .i64 (chkP vs hs fs tr l):=by
 refine call_wp text55 (by simp) (ho _ _) ?_
 obtain ⟨w1,hw1⟩:∃ w1:AW,w1=⟨w.heap.put w.next (some (.cells [vv,hv,fv] 26 false)),w.next + 1,w.lim⟩:=⟨_,rfl⟩
 have u1:Up w w1:=by rw [hw1]; exact (Up.refl w).add _
 obtain ⟨nv,nh,nf⟩:=hS.nj
 have tj:notJunk tv=some tv:=by obtain ⟨x,y,rfl⟩:=hT.len; rfl
 have pj:notJunk pv=some pv:=by obtain ⟨x,y,rfl⟩:=hP.len; rfl
 have r59:=S59.call1 (P:=Try.prog) h59 (w:=w1) ⟨vv,hv,fv,tv,vs,hs,fs,tr,rfl,hS.up u1,hT.up u1,rfl⟩
 rw [hw1] at r59
 by_cases k:chkT vs hs fs tr=0
 ·have r83:=S83.call1 (P:=Try.prog) h83 (w:=w1) ⟨vv,hv,fv,pv,vs,hs,fs,l,rfl,hS.up u1,hP.up u1,(chkT0.1 k).1,rfl⟩
  rw [hw1] at r83
  cases k2:planB vs hs fs.length l with
  | true =>
   have e:chkP vs hs fs tr l=0:=by simp [chkP,k,k2]
   simp [mc55,cellsOf_agg,nv,nh,nf,tj,pj,r59,k,r83,k2,e,tupV]
  | false =>
   have e:chkP vs hs fs tr l=22:=by simp [chkP,k,k2]
   simp [mc55,cellsOf_agg,nv,nh,nf,tj,pj,r59,k,r83,k2,e,tupV]
 ·have e:chkP vs hs fs tr l=chkT vs hs fs tr:=by simp [chkP,k]
  simp [mc55,cellsOf_agg,nv,nh,nf,tj,pj,r59,k,e,tupV]
theorem rows_q {w:AW} {V q:Nat} {P:List Int} (h:w.heap.get q=some (.cells (P.flatMap intC) 3 false)) (hl:P.length=V) (hc:q < w.next):RowsV intC w (.slice (some ⟨q,0,none⟩) V V) P:=rows_slV h hl hc
theorem pods_bd {M V:Nat} {G:List (List Int)} {P:List Int} (h:GrOk M V vs G P) (hb:∀ v ∈ vs,0≤v.be∧v.be≤1000):∀ z ∈ P,0≤z∧z≤100000:=fun z hz=>by
 obtain ⟨k,hk⟩:=List.getElem?_of_mem hz
 have hkV:k < V:=by have:=(List.getElem?_eq_some_iff.1 hk).1; rw [h.lenP] at this; exact this
 obtain ⟨v,hv⟩:∃ v,vs[k]?=some v:=⟨_,List.getElem?_eq_getElem (by rw [h.nv]; exact hkV)⟩
 have a:=h.podP k hkV
 rw [List.getD_eq_getElem?_getD,hk,beV_get hv] at a
 have b:=hb v (List.mem_of_getElem? hv)
 simp only [Option.getD_some] at a
 omega
theorem run56 (ho:∀ args w,ov 56 args w=none) (h58:∀ args w,ov 58 args w=none) (h85:∀ args w,ov 85 args w=none) (h81:HasP ov 81 S81.F) (h84:HasP ov 84 S84.F) (w:AW) (hl:w.lim=w.next) (hS:SeaV w vv hv fv vs hs fs) (hT:Rows2 intC w tv tr) (hP:RowsV jbC w pv l) (hB:seaB vs hs fs=true) (hTr:truB vs.length tr fs=true) (hPl:planB vs hs fs.length l=true) :
  ∃ v w',(run Try.prog ov 3).call 56 [.agg ⟨[vv,hv,fv]⟩,tv,pv] w .none=.ok (.ret v) w' .none∧v=.bool (fitG tr vs [] l):=by
 refine call_wp text56 (by simp) (ho _ _) ?_
 have A:=all_ok hB hTr hPl
 obtain ⟨nv,nh,nf⟩:=hS.nj
 have tj:notJunk tv=some tv:=by obtain ⟨x,y,rfl⟩:=hT.len; rfl
 have pj:notJunk pv=some pv:=by obtain ⟨x,y,rfl⟩:=hP.len; rfl
 have hl1:=fun w2=>len39V (w':=w2) hP
 have hlen:=A.len
 obtain ⟨w1,hw1⟩:∃ w1:AW,w1=⟨w.heap.put w.next (some (.cells [vv,hv,fv] 26 false)),w.next + 1,w.lim⟩:=⟨_,rfl⟩
 have u1:Up w w1:=by rw [hw1]; exact (Up.refl w).add _
 obtain ⟨_,w2,c58,q,rfl,gq,nq,lq,u2⟩:=call58 (ov:=ov) 0 h58 h85 h81 h84 w1 (by rw [u1.lim]; have:=u1.next; omega) (hS.up u1) (hT.up u1) (hP.up u1) hB hTr hPl
 obtain ⟨o1,o2,o3⟩:=plS_ok A.ok A.jb
 have hu2:=u1.trans u2
 have hP2:=hP.up hu2
 rw [hw1] at c58
 simp [mc56,cellsOf_agg,nv,nh,nf,tj,pj,hl1,c58]
 refine wp_seqX (wp_blockX (wp_rounds (fun i t w'=>Up w2 w'∧tget t 7=.slice (some ⟨q,0,none⟩) vs.length vs.length∧tget t 9=.int .i64 ((l.take i).map (·.ma)).sum∧tget t 19=pv∧tget t 20=.int .i64 (l.length:Nat)∧tget t 21=.int .i64 (i:Nat)∧i≤l.length) 3000 (by decide) ⟨Up.refl _,by simp,by simp,by simp,by simp,by simp,Nat.zero_le _⟩ ?_))
 rintro i t w' ⟨hu,t7,t9,t19,t20,t21,hi⟩
 by_cases hlt:i < l.length
 ·obtain ⟨x,hx⟩:=lt_get hlt
  have hw1':IntKind.wrap .i64 ((i:Int) + 1)=(i:Int) + 1:=wrap64_in (by omega) (by omega)
  have j2:=A.ma x (List.mem_of_getElem? hx)
  have b1:=wor_bd (p:=l.take i) fun j hj=>A.ma j (List.mem_of_mem_take hj)
  have hll:(l.take i).length≤2048:=by rw [List.length_take]; omega
  have hw2':IntKind.wrap .i64 (((l.take i).map (·.ma)).sum + x.ma)=((l.take i).map (·.ma)).sum + x.ma:=wrap64_in (by omega) (by omega)
  obtain ⟨p,hia,hld,_,hpb⟩:=getR un39 sz67 jbC_length (hP2.up hu) rfl hx
  have htk:=wor_tk hx
  have hle:w'.lim≤w'.next:=by rw [(hu2.trans hu).lim]; have:=(hu2.trans hu).next; omega
  have u5:Up w' ⟨(w'.heap.put w'.next (some (.cells [.int .i64 0,.int .i64 0,.int .i64 0,.int .i64 0,.int .i64 0] 67 false))).put w'.next (some (.cells (jbC x) 67 false)),w'.next + 1,w'.lim⟩:=((Up.refl w').add _).put (Nat.le_refl _) (Nat.le_refl _)
  obtain ⟨s,hs'⟩:∃ s,s=((l.take i).map (·.ma)).sum:=⟨_,rfl⟩
  rw [← hs'] at hw2' t9 htk
  obtain ⟨x1,x2,x3,x4,x5⟩:=x
  simp only [jbC] at hld u5
  simp only at hw2' htk
  simp [mc56_l0,t7,t9,t19,t20,t21,hlt,hia,hld,hle,hw1',hw2']
  rw [List.map_take] at htk
  exact ⟨by omega,hu.trans u5,htk.symm,hlt⟩
 ·have hi':i=l.length:=by omega
  subst hi'
  rw [List.take_length] at t9
  have r84:=S84.call (P:=Try.prog) h84 (m:=1) (w:=w') ⟨_,_,rfl,rows_q ((hu.at nq).trans gq) o1.lenP (Nat.lt_of_lt_of_le nq hu.next),by rw [o1.lenP]; have:=A.v6; omega,pods_bd o1 A.be,rfl⟩
  rw [fits_eq A.ok A.jb]
  simp [mc56_l0,t7,t9,t20,t21,r84,tupV]
theorem run19 (ho:∀ args w,ov 19 args w=none) (h55:HasP ov 55 S55.F) (h56:HasP ov 56 S56.F) (w:AW) (hl:w.lim=w.next) (hS:SeaV w vv hv fv vs hs fs) (hT:Rows2 intC w tv tr) (hP:RowsV jbC w pv l):∃ x w',(run Try.prog ov 2).call 19 [.agg ⟨[vv,hv,fv]⟩,tv,pv] w .none=.ok (.ret x) w' .none∧x=.tuple ⟨[.bool (fitV vs hs fs tr l),.int .i64 (chkP vs hs fs tr l)]⟩:=by
 refine call_wp text19 (by simp) (ho _ _) ?_
 obtain ⟨w1,hw1⟩:∃ w1:AW,w1=⟨w.heap.put w.next (some (.cells [vv,hv,fv] 26 false)),w.next + 1,w.lim⟩:=⟨_,rfl⟩
 have u1:Up w w1:=by rw [hw1]; exact (Up.refl w).add _
 obtain ⟨nv,nh,nf⟩:=hS.nj
 have tj:notJunk tv=some tv:=by obtain ⟨x,y,rfl⟩:=hT.len; rfl
 have pj:notJunk pv=some pv:=by obtain ⟨x,y,rfl⟩:=hP.len; rfl
 have r55:=S55.call1 (P:=Try.prog) h55 (w:=w1) ⟨vv,hv,fv,tv,pv,vs,hs,fs,tr,l,rfl,hS.up u1,hT.up u1,hP.up u1,rfl⟩
 rw [hw1] at r55
 by_cases k:chkP vs hs fs tr l=0
 ·obtain ⟨k1,k2,k3⟩:=chkP0.1 k
  have r56:=S56.call1 (P:=Try.prog) h56 (w:=w1) ⟨vv,hv,fv,tv,pv,vs,hs,fs,tr,l,rfl,hS.up u1,hT.up u1,hP.up u1,k1,k2,k3,rfl⟩
  rw [hw1] at r56
  have e:fitV vs hs fs tr l=fitG tr vs [] l:=by simp [fitV,k]
  rw [e]
  simp [mc19,cellsOf_agg,nv,nh,nf,tj,pj,r55,k,r56,tupV]
 ·have e:fitV vs hs fs tr l=false:=by simp [fitV,k]
  simp [mc19,cellsOf_agg,nv,nh,nf,tj,pj,r55,k,e,tupV]
theorem run20 (ho:∀ args w,ov 20 args w=none) (h57:HasP ov 57 S59.F) (h29:HasP ov 29 S83.F) (h30:HasP ov 30 S56.F) (w:AW) (hl:w.lim=w.next) (hS:SeaV w vv hv fv vs hs fs) (hT:Rows2 intC w tv tr) (hP:RowsV jbC w pv l):∃ x w',(run Try.prog ov 2).call 20 [.agg ⟨[vv,hv,fv]⟩,tv,pv] w .none=.ok (.ret x) w' .none∧x=.tuple ⟨[.bool (fitV vs hs fs tr l),.int .i64 (chkP vs hs fs tr l)]⟩:=by
 refine call_wp text20 (by simp) (ho _ _) ?_
 obtain ⟨w1,hw1⟩:∃ w1:AW,w1=⟨w.heap.put w.next (some (.cells [vv,hv,fv] 26 false)),w.next + 1,w.lim⟩:=⟨_,rfl⟩
 have u1:Up w w1:=by rw [hw1]; exact (Up.refl w).add _
 obtain ⟨nv,nh,nf⟩:=hS.nj
 have tj:notJunk tv=some tv:=by obtain ⟨x,y,rfl⟩:=hT.len; rfl
 have pj:notJunk pv=some pv:=by obtain ⟨x,y,rfl⟩:=hP.len; rfl
 have r57:=S59.call1 (P:=Try.prog) h57 (w:=w1) ⟨vv,hv,fv,tv,vs,hs,fs,tr,rfl,hS.up u1,hT.up u1,rfl⟩
 rw [hw1] at r57
 by_cases k:chkT vs hs fs tr=0
 ·obtain ⟨k1,k2⟩:=chkT0.1 k
  have r29:=S83.call1 (P:=Try.prog) h29 (w:=w1) ⟨vv,hv,fv,pv,vs,hs,fs,l,rfl,hS.up u1,hP.up u1,k1,rfl⟩
  rw [hw1] at r29
  cases k3:planB vs hs fs.length l with
  | true =>
   have r30:=S56.call1 (P:=Try.prog) h30 (w:=w1) ⟨vv,hv,fv,tv,pv,vs,hs,fs,tr,l,rfl,hS.up u1,hT.up u1,hP.up u1,k1,k2,k3,rfl⟩
   rw [hw1] at r30
   have e1:chkP vs hs fs tr l=0:=chkP0.2 ⟨k1,k2,k3⟩
   have e:fitV vs hs fs tr l=fitG tr vs [] l:=by simp [fitV,e1]
   rw [e]
   simp [mc20,cellsOf_agg,nv,nh,nf,tj,pj,r57,k,r29,k3,r30,e1,tupV]
  | false =>
   have e1:chkP vs hs fs tr l=22:=by simp [chkP,k,k3]
   have e:fitV vs hs fs tr l=false:=by simp [fitV,e1]
   simp [mc20,cellsOf_agg,nv,nh,nf,tj,pj,r57,k,r29,k3,e,e1,tupV]
 ·have e1:chkP vs hs fs tr l=chkT vs hs fs tr:=by simp [chkP,k]
  have e:fitV vs hs fs tr l=false:=by simp [fitV,e1,k]
  simp [mc20,cellsOf_agg,nv,nh,nf,tj,pj,r57,k,e,e1,tupV]
theorem call21 (K:Nat) (ho:∀ args w,ov 21 args w=none) (h55:HasP ov 55 S55.F) (h58:∀ args w,ov 58 args w=none) (h85:∀ args w,ov 85 args w=none) (h81:HasP ov 81 S81.F) (h84:HasP ov 84 S84.F) (w:AW) (hl:w.lim≤w.next) (hS:SeaV w vv hv fv vs hs fs) (hT:Rows2 intC w tv tr) (hP:RowsV jbC w pv l) :
  ∃ v w',(run Try.prog ov (K + 3)).call 21 [.agg ⟨[vv,hv,fv]⟩,tv,pv] w .none=.ok (.ret v) w' .none∧Up w w'∧((¬ chkP vs hs fs tr l=0∧v=.tuple ⟨[.slice none 0 0,.int .i64 0,.int .i64 (chkP vs hs fs tr l)]⟩)∨(chkP vs hs fs tr l=0∧∃ q,v=.tuple ⟨[.slice (some ⟨q,0,none⟩) vs.length vs.length,.int .i64 (sumG (plS vs tr (P0 vs.length) l).1),.int .i64 0]⟩∧w'.heap.get q=some (.cells ((plS vs tr (P0 vs.length) l).2.flatMap intC) 3 false)∧q < w'.next∧w.next≤q)):=by
 refine call_wp text21 (by simp) (ho _ _) ?_
 obtain ⟨w1,hw1⟩:∃ w1:AW,w1=⟨w.heap.put w.next (some (.cells [vv,hv,fv] 26 false)),w.next + 1,w.lim⟩:=⟨_,rfl⟩
 have u1:Up w w1:=by rw [hw1]; exact (Up.refl w).add _
 obtain ⟨nv,nh,nf⟩:=hS.nj
 have tj:notJunk tv=some tv:=by obtain ⟨x,y,rfl⟩:=hT.len; rfl
 have pj:notJunk pv=some pv:=by obtain ⟨x,y,rfl⟩:=hP.len; rfl
 have r55:=S55.call (P:=Try.prog) h55 (m:=K + 1) (w:=w1) ⟨vv,hv,fv,tv,pv,vs,hs,fs,tr,l,rfl,hS.up u1,hT.up u1,hP.up u1,rfl⟩
 by_cases k:chkP vs hs fs tr l=0
 ·obtain ⟨k1,k2,k3⟩:=chkP0.1 k
  obtain ⟨_,w2,c58,q,rfl,gq,nq,lq,u2⟩:=call58 (ov:=ov) K h58 h85 h81 h84 w1 (by rw [u1.lim]; have:=u1.next; omega) (hS.up u1) (hT.up u1) (hP.up u1) k1 k2 k3
  rw [hw1] at r55 c58
  simp [mc21,cellsOf_agg,nv,nh,nf,tj,pj,r55,k,c58,tupV]
  exact ⟨u1.trans u2,gq,nq,by have:=u1.next; omega⟩
 ·rw [hw1] at r55 u1
  simp [mc21,cellsOf_agg,nv,nh,nf,tj,pj,r55,k,tupV]
  exact u1
end
noncomputable def mc22_l0_b2:MC:=.seq (.ops [⟨true,none,some 74,0,.fieldAddr 67 (.tmp 13) 0⟩,⟨true,none,some 75,3,.load 3 (.tmp 74)⟩,⟨true,none,some 76,0,.fieldAddr 67 (.tmp 13) 3⟩,⟨true,none,some 77,3,.load 3 (.tmp 76)⟩,⟨true,none,some 78,0,.indexAddr 108 (.tmp 10) (.tmp 75)⟩,⟨true,none,some 79,0,.indexAddr 107 (.tmp 78) (.tmp 77)⟩,⟨true,none,some 80,3,.load 3 (.tmp 79)⟩,⟨true,none,some 81,3,.move (.tmp 14)⟩,⟨true,none,some 82,3,.binOp .add 3 (.tmp 80) (.tmp 81) 3⟩,⟨true,none,some 83,0,.indexAddr 108 (.tmp 10) (.tmp 75)⟩,⟨true,none,some 84,0,.indexAddr 107 (.tmp 83) (.tmp 77)⟩,⟨false,none,none,0,.store 3 (.tmp 84) (.tmp 82)⟩]) (.ops [⟨false,none,some 85,42,.move (.tmp 11)⟩,⟨false,none,some 86,0,.fieldAddr 67 (.tmp 13) 3⟩,⟨false,none,some 87,3,.load 3 (.tmp 86)⟩,⟨false,none,some 88,0,.indexAddr 42 (.tmp 85) (.tmp 87)⟩,⟨false,none,some 89,3,.load 3 (.tmp 88)⟩,⟨false,none,some 90,3,.move (.tmp 14)⟩,⟨false,none,some 91,3,.binOp .add 3 (.tmp 89) (.tmp 90) 3⟩,⟨false,none,some 92,0,.indexAddr 42 (.tmp 85) (.tmp 87)⟩,⟨false,none,none,0,.store 3 (.tmp 92) (.tmp 91)⟩])
noncomputable def mc22_l0_b1:MC:=.seq (.ops [⟨true,none,some 41,0,.fieldAddr 67 (.tmp 13) 4⟩,⟨true,none,some 42,3,.load 3 (.tmp 41)⟩,⟨true,none,some 43,27,.move (.tmp 1)⟩,⟨true,none,some 44,0,.fieldAddr 67 (.tmp 13) 0⟩,⟨true,none,some 45,3,.load 3 (.tmp 44)⟩,⟨true,none,some 46,0,.indexAddr 27 (.tmp 43) (.tmp 45)⟩,⟨true,none,some 47,42,.load 42 (.tmp 46)⟩,⟨true,none,some 48,0,.fieldAddr 67 (.tmp 13) 3⟩,⟨true,none,some 49,3,.load 3 (.tmp 48)⟩,⟨true,none,some 50,0,.indexAddr 42 (.tmp 47) (.tmp 49)⟩,⟨true,none,some 51,3,.load 3 (.tmp 50)⟩,⟨true,none,some 52,0,.fieldAddr 67 (.tmp 13) 0⟩,⟨true,none,some 53,3,.load 3 (.tmp 52)⟩,⟨true,none,some 54,0,.fieldAddr 67 (.tmp 13) 3⟩,⟨true,none,some 55,3,.load 3 (.tmp 54)⟩,⟨true,none,some 56,0,.indexAddr 108 (.tmp 10) (.tmp 53)⟩,⟨true,none,some 57,0,.indexAddr 107 (.tmp 56) (.tmp 55)⟩,⟨true,none,some 58,3,.load 3 (.tmp 57)⟩,⟨true,none,some 59,3,.binOp .sub 3 (.tmp 51) (.tmp 58) 3⟩,⟨true,none,some 60,0,.fieldAddr 26 (.tmp 3) 0⟩,⟨true,none,some 61,22,.load 22 (.tmp 60)⟩,⟨true,none,some 62,0,.fieldAddr 67 (.tmp 13) 3⟩,⟨true,none,some 63,3,.load 3 (.tmp 62)⟩,⟨true,none,some 64,0,.indexAddr 22 (.tmp 61) (.tmp 63)⟩,⟨true,none,some 65,0,.fieldAddr 65 (.tmp 64) 2⟩,⟨true,none,some 66,3,.load 3 (.tmp 65)⟩,⟨true,none,some 67,42,.move (.tmp 11)⟩,⟨true,none,some 68,0,.fieldAddr 67 (.tmp 13) 3⟩,⟨true,none,some 69,3,.load 3 (.tmp 68)⟩,⟨true,none,some 70,0,.indexAddr 42 (.tmp 67) (.tmp 69)⟩,⟨true,none,some 71,3,.load 3 (.tmp 70)⟩,⟨true,none,some 72,3,.binOp .sub 3 (.tmp 66) (.tmp 71) 3⟩,⟨true,none,some 73,3,.call ⟨.builtin .min,#[.tmp 42,.tmp 59,.tmp 72],#[3,3,3]⟩⟩,⟨true,none,some 14,3,.assign (.tmp 73)⟩]) mc22_l0_b2
theorem mc22_l0_eq:mc22_l0=.seq (.seq (.ops [⟨false,none,some 31,3,.move (.tmp 12)⟩,⟨false,none,some 32,39,.move (.tmp 2)⟩,⟨false,none,some 33,3,.call ⟨.builtin .len,#[.tmp 32],#[39]⟩⟩,⟨false,none,some 34,4,.binOp .lss 3 (.tmp 31) (.tmp 33) 3⟩]) (.cond (.tmp 34) (.skip) (.exit 0))) (.seq (.block 1 (.seq (.ops [⟨false,none,some 37,39,.move (.tmp 2)⟩,⟨false,none,some 38,3,.move (.tmp 12)⟩,⟨false,none,some 39,0,.indexAddr 39 (.tmp 37) (.tmp 38)⟩,⟨false,none,some 40,67,.load 67 (.tmp 39)⟩,⟨false,none,some 13,0,.alloc 67⟩,⟨false,none,none,0,.store 67 (.tmp 13) (.tmp 40)⟩]) mc22_l0_b1)) (.ops [⟨false,none,some 35,3,.move (.tmp 12)⟩,⟨false,none,some 36,3,.binOp .add 3 (.tmp 35) (.const (.int .i64 1)) 3⟩,⟨false,none,some 12,3,.assign (.tmp 36)⟩])):=rfl
theorem un_neg (k:IntKind) (a:Int):unS .neg (.int k a)=some (.int k (k.wrap (-a))):=by
 simp [unS,negA,wrapA_eq]
theorem min3 (a b c:Int):(bif intLt c (bif intLt b a then b else a) then c else bif intLt b a then b else a)=min a (min b c):=by
 simp only [intLt_eq]
 by_cases h:b < a
 ·rw [decide_eq_true h,cond_true]
  by_cases h2:c < b
  ·rw [decide_eq_true h2,cond_true]; omega
  ·rw [decide_eq_false h2,cond_false]; omega
 ·rw [decide_eq_false h,cond_false]
  by_cases h2:c < a
  ·rw [decide_eq_true h2,cond_true]; omega
  ·rw [decide_eq_false h2,cond_false]; omega
theorem hdL_length (tr G:List (List Int)):(hdL tr G).length=36:=arrL_length _ _
section
variable {ov:Ov} {vs:List HVn} {hs:List HHd} {fs:List (List (Int × Int))} {vv hv fv tv pv:Value} {tr:List (List Int)} {l:List HJb}
theorem al108H (tr:List (List Int)) (w:AW):allocA Try.prog w 108=.val (.pointer (some ⟨w.next,0,none⟩)) ⟨w.heap.put w.next (some (.cells ((hdL tr tr).flatMap intC) 108 false)),w.next + 1,w.lim⟩:=by
 rw [hdL_nil,al108]; rfl
set_option maxHeartbeats 2000000 in
theorem part22a (M:Nat) {G:List (List Int)} {P:List Int} (m k:Nat) (o h ma:Int) (hm:m < 6) (hk:k < 6) (V:Nat) (hkV:k < V) (r:List Int) (z y:Int) (hr:tr[m]?=some r) (hz:r[k]?=some z) (hy:P[k]?=some y) (v:HVn) (hv':vs[k]?=some v) (e1:g2 tr m k=z) (bz:0≤z∧z≤1000) (bg:0≤g2 G m k∧g2 G m k≤1000) (bb:0≤v.be∧v.be≤1000) (b1:0≤y∧y≤1000) (J H D X:Nat) (w:AW) (hS:SeaV w vv hv fv vs hs fs) (hT:Rows2 intC w tv tr) (gX:w.heap.get X=some (.cells [vv,hv,fv] 26 false)) (gJ:w.heap.get J=some (.cells (jbC ⟨m,o,h,k,ma⟩) 67 false)) (gH:w.heap.get H=some (.cells ((hdL tr G).flatMap intC) 108 false)) (gD:w.heap.get D=some (.cells (P.flatMap intC) 3 false))
  (v2 v12:Value) (t:Tm) (t1:tget t 1=tv) (t2:tget t 2=v2) (t3:tget t 3=.pointer (some ⟨X,0,none⟩)) (t10:tget t 10=.pointer (some ⟨H,0,none⟩)) (t11:tget t 11=.slice (some ⟨D,0,none⟩) V V) (t12:tget t 12=v12) (t13:tget t 13=.pointer (some ⟨J,0,none⟩)) (Q:Ex→Tm→AW→Prop)
  (hQ:∀ t,tget t 14=.int .i64 (min (min ma (g2 G m k)) (v.be - y))→tget t 1=tv→tget t 2=v2→tget t 3=.pointer (some ⟨X,0,none⟩)→tget t 10=.pointer (some ⟨H,0,none⟩)→tget t 11=.slice (some ⟨D,0,none⟩) V V→tget t 12=v12→tget t 13=.pointer (some ⟨J,0,none⟩)→wp (exM Try.prog (run Try.prog ov M) mc22_l0_b2 t w) Q):wp (exM Try.prog (run Try.prog ov M) mc22_l0_b1 t w) Q:=by
 have i1:=fun w a=>ia108 w a hm
 have i2:=fun w a=>ia107 w a hk
 have i3:=fun w'=>ia42 w' ⟨D,0,none⟩ V V .i64 k hkV
 have a1:=int_at (hdL_at tr G hm hk)
 rw [e1] at a1
 have a2:=int_at hy
 obtain ⟨cs,hcs⟩:∃ cs,cs=(hdL tr G).flatMap intC:=⟨_,rfl⟩
 obtain ⟨ds,hds⟩:∃ ds,ds=P.flatMap intC:=⟨_,rfl⟩
 rw [← hcs] at a1 gH
 rw [← hds] at a2 gD
 clear hcs hds
 obtain ⟨nv,nh,nf⟩:=hS.nj
 obtain ⟨q,iq,_,lq,nq⟩:=getR un22 sz65 vnC_length hS.v rfl hv'
 have lq:=lq 2 _ rfl
 obtain ⟨pp,ra,rc,ir,lr,_,hrow⟩:=Rows2.get un27 sz42 hT rfl hr
 obtain ⟨pz,iz,_,lz,_⟩:=getR un42 sz3 intC_length hrow rfl hz
 have lz:=lz 0 _ rfl
 simp only [Nat.add_zero] at lz
 obtain ⟨va,vb,vc⟩:=v
 have lq:rd1O (w.heap.get q.block) (q.off + 2)=some (.int .i64 vc):=lq
 simp only [jbC] at gJ
 simp only at hQ bb
 obtain ⟨x,hx⟩:∃ x,x=g2 G m k:=⟨_,rfl⟩
 rw [← hx] at hQ a1 bg
 have w1:IntKind.wrap .i64 (z - (z - x))=x:=by rw [wrap64_in (by omega) (by omega)]; omega
 have w2:IntKind.wrap .i64 (vc - y)=vc - y:=wrap64_in (by omega) (by omega)
 simp [mc22_l0_b1,t1,t3,t10,t11,t13,gX,gJ,gH,gD,nv,nh,nf,iq,lq,ir,lr,iz,lz,i1,i2,i3,a1,a2,w1,w2]
 exact hQ _ (by simp [Int.min_assoc,min3]) (by simp [t1]) (by simp [t2]) (by simp [t3]) (by simp [t10]) (by simp [t11]) (by simp [t12]) (by simp [t13])
set_option maxHeartbeats 1000000 in
theorem part22b (M:Nat) {vs:List HVn} {Mo V nh:Nat} {G:List (List Int)} {P:List Int} (hOk:GrOk Mo V vs G P) (m k:Nat) (o h ma n:Int) (hj:jobB V nh Mo ⟨m,o,h,k,ma⟩=true) (hm:m < 6) (hk:k < 6) (hkV:k < V) (y:Int) (hy:P[k]?=some y) (b1 : -10000≤g2 tr m k - g2 G m k∧g2 tr m k - g2 G m k≤10000) (b2 : -10000≤y∧y≤10000) (bn : -10000≤n∧n≤10000) (J H D:Nat) (hJH:¬ J=H) (hJD:¬ J=D) (hHD:¬ H=D) (w:AW) (gJ:w.heap.get J=some (.cells (jbC ⟨m,o,h,k,ma⟩) 67 false)) (gH:w.heap.get H=some (.cells ((hdL tr G).flatMap intC) 108 false)) (gD:w.heap.get D=some (.cells (P.flatMap intC) 3 false)) (lH:w.lim≤H) (lD:w.lim≤D)
  (v1 v2 v3 v12:Value) (t:Tm) (t1:tget t 1=v1) (t2:tget t 2=v2) (t3:tget t 3=v3) (t10:tget t 10=.pointer (some ⟨H,0,none⟩)) (t11:tget t 11=.slice (some ⟨D,0,none⟩) V V) (t12:tget t 12=v12) (t13:tget t 13=.pointer (some ⟨J,0,none⟩)) (t14:tget t 14=.int .i64 n) (Q:Ex→Tm→AW→Prop)
  (hQ:∀ t w',w'.heap.get H=some (.cells ((hdL tr (stG G ⟨m,o,h,k,ma⟩ n)).flatMap intC) 108 false)→w'.heap.get D=some (.cells ((stP P ⟨m,o,h,k,ma⟩ n).flatMap intC) 3 false)→(∀ b,b ≠ H→b ≠ D→w'.heap.get b=w.heap.get b)→w'.next=w.next→w'.lim=w.lim→tget t 1=v1→tget t 2=v2→tget t 3=v3→tget t 10=.pointer (some ⟨H,0,none⟩)→tget t 11=.slice (some ⟨D,0,none⟩) V V→tget t 12=v12→Q .normal t w'):wp (exM Try.prog (run Try.prog ov M) mc22_l0_b2 t w) Q:=by
 have i1:=fun w a=>ia108 w a hm
 have i2:=fun w a=>ia107 w a hk
 have i3:=fun w'=>ia42 w' ⟨D,0,none⟩ V V .i64 k hkV
 have a1:=int_at (hdL_at tr G hm hk)
 have a2:=int_at hy
 have f1:m * 6 + k + 1≤((hdL tr G).flatMap intC).length:=by rw [int_len,hdL_length]; omega
 have f2:k + 1≤(P.flatMap intC).length:=by rw [int_len,hOk.lenP]; omega
 have s1:=int_set (hdL tr G) (m * 6 + k) (g2 tr m k - g2 G m k + n) (by rw [hdL_length]; omega)
 have s2:=int_set P k (y + n) (by rw [hOk.lenP]; omega)
 rw [hdL_push hOk hj n hm hk rfl rfl] at s1
 rw [← stP_eq hy ⟨m,o,h,k,ma⟩ rfl] at s2
 obtain ⟨d,hd⟩:∃ d,d=g2 tr m k - g2 G m k:=⟨_,rfl⟩
 rw [← hd] at a1 s1 b1
 have w1:IntKind.wrap .i64 (d + n)=d + n:=wrap64_in (by omega) (by omega)
 have w2:IntKind.wrap .i64 (y + n)=y + n:=wrap64_in (by omega) (by omega)
 obtain ⟨cs,hcs⟩:∃ cs,cs=(hdL tr G).flatMap intC:=⟨_,rfl⟩
 obtain ⟨ds,hds⟩:∃ ds,ds=P.flatMap intC:=⟨_,rfl⟩
 rw [← hcs] at a1 f1 s1 gH
 rw [← hds] at a2 f2 s2 gD
 clear hcs hds
 have hHJ:¬ H=J:=fun e=>hJH e.symm
 have hDJ:¬ D=J:=fun e=>hJD e.symm
 have hDH:¬ D=H:=fun e=>hHD e.symm
 simp only [jbC] at gJ
 simp [mc22_l0_b2,t10,t11,t13,t14,gJ,gH,gD,hJH,hJD,hHD,hHJ,hDJ,hDH,i1,i2,i3,a1,a2,f1,f2,lH,lD,w1,w2]
 refine hQ _ _ ?_ ?_ ?_ ?_ ?_ ?_ ?_ ?_ ?_ ?_ ?_
 ·simp [hHD,s1]
 ·simp [s2]
 ·intro b hb1 hb2; simp [hb1,hb2]
 ·rfl
 ·rfl
 ·simp [t1]
 ·simp [t2]
 ·simp [t3]
 ·simp [t10]
 ·simp [t11]
 ·simp [t12]
theorem loop22b (K:Nat) (h37:HasP ov 37 S84.F) {M V:Nat} {P:List Int} (hOk:GrOk M V vs tr P) (hb:∀ m v:Nat,g2 tr m v≤1000) (hV:V≤6) (hM:M≤6) (s0:Int) (hs0 : -1000000≤s0∧s0≤1000000) (w:AW) (hT:Rows2 intC w tv tr) (v11:Value) (t:Tm) (t1:tget t 1=tv) (t11:tget t 11=v11) (t15:tget t 15=.int .i64 s0) (t16:tget t 16=.int .i64 0) (Q:Ex→Tm→AW→Prop)
  (hQ:∀ t,tget t 11=v11→tget t 15=.int .i64 (s0 + sumG tr)→Q (.exit 2) t w):wp (exM Try.prog (run Try.prog ov (K + 1)) (.loop mc22_l1) t w) Q:=by
 refine wp_rounds (fun i t w'=>w'=w∧tget t 1=tv∧tget t 11=v11∧tget t 15=.int .i64 (s0 + sumG (tr.take i))∧tget t 16=.int .i64 (i:Nat)∧i≤M) 20 (by decide) ⟨rfl,t1,t11,by simpa [sumG] using t15,by simpa using t16,Nat.zero_le _⟩ ?_
 clear t1 t11 t15 t16 t
 rintro i t w' ⟨rfl,t1,t11,t15,t16,hi⟩
 have lt27:=fun w2=>len27V (w':=w2) hT
 rw [hOk.lenG] at lt27
 by_cases hlt:i < M
 ·obtain ⟨r,hr⟩:=lt_get (show i < tr.length by rw [hOk.lenG]; exact hlt)
  obtain ⟨hrl,hrb⟩:=grid_row hOk hb hr
  obtain ⟨pp,ra,rc,ir,lr,_,hrow⟩:=Rows2.get un27 sz42 hT rfl hr
  have r37:=S84.call (P:=Try.prog) h37 (m:=K) (w:=w') ⟨_,r,rfl,hrow,by omega,fun z hz=>by have:=hrb z hz; omega,rfl⟩
  have b1:=sumG_bd hOk hb hV hM i
  have b2:=sumG_bd hOk hb hV hM (i + 1)
  rw [sumG_tk hr] at b2
  have hlt':(i:Int) < (M:Int):=by omega
  have hw1:IntKind.wrap .i64 ((i:Int) + 1)=(i:Int) + 1:=wrap64_in (by omega) (by omega)
  have hw2:IntKind.wrap .i64 (s0 + sumG (tr.take i) + r.sum)=s0 + sumG (tr.take i) + r.sum:=wrap64_in (by omega) (by omega)
  simp [mc22_l1,t1,t11,t15,t16,lt27,hlt,hlt',ir,lr,r37,hw1,hw2]
  refine ⟨by omega,?_,hlt⟩
  rw [sumG_tk hr]; omega
 ·have hi':i=M:=by omega
  have e:tr.take i=tr:=List.take_of_length_le (by rw [hOk.lenG]; omega)
  rw [e] at t15
  simp [mc22_l1,t1,t16,lt27,hi']
  exact hQ _ (by simp [t11]) (by simp [t15])
set_option maxHeartbeats 1000000 in
theorem loop22a (K:Nat) {hs:List HHd} {fs:List (List (Int × Int))} (A:AllOk vs hs fs tr l) {X H q:Nat} (w0:AW) (hS:SeaV w0 vv hv fv vs hs fs) (hT:Rows2 intC w0 tv tr) (hP:RowsV jbC w0 pv l) (hX:X < w0.next) (gX:w0.heap.get X=some (.cells [vv,hv,fv] 26 false)) (hl0:w0.lim≤w0.next) (hH0:w0.next≤H) (hq0:w0.next≤q) (hHq:¬ H=q) (w:AW) (hu:Up w0 w) (gH:w.heap.get H=some (.cells ((hdL tr tr).flatMap intC) 108 false)) (gq:w.heap.get q=some (.cells ((P0 vs.length).flatMap intC) 3 false)) (nH:H < w.next) (nq:q < w.next)
  (t:Tm) (t1:tget t 1=tv) (t2:tget t 2=pv) (t3:tget t 3=.pointer (some ⟨X,0,none⟩)) (t10:tget t 10=.pointer (some ⟨H,0,none⟩)) (t11:tget t 11=.slice (some ⟨q,0,none⟩) vs.length vs.length) (t12:tget t 12=.int .i64 0) (Q:Ex→Tm→AW→Prop)
  (hQ:∀ t w',Up w0 w'→w'.heap.get q=some (.cells ((plS vs tr (P0 vs.length) l).2.flatMap intC) 3 false)→q < w'.next→tget t 1=tv→tget t 11=.slice (some ⟨q,0,none⟩) vs.length vs.length→Q (.exit 0) t w'):wp (exM Try.prog (run Try.prog ov (K + 1)) (.loop mc22_l0) t w) Q:=by
 have hl1:=fun w2=>len39V (w':=w2) hP
 have hlen:=A.len
 refine wp_rounds (fun i t w'=>Up w0 w'∧w'.heap.get H=some (.cells ((hdL tr (plS vs tr (P0 vs.length) (l.take i)).1).flatMap intC) 108 false)∧w'.heap.get q=some (.cells ((plS vs tr (P0 vs.length) (l.take i)).2.flatMap intC) 3 false)∧H < w'.next∧q < w'.next∧tget t 1=tv∧tget t 2=pv∧tget t 3=.pointer (some ⟨X,0,none⟩)∧tget t 10=.pointer (some ⟨H,0,none⟩)∧tget t 11=.slice (some ⟨q,0,none⟩) vs.length vs.length∧tget t 12=.int .i64 (i:Nat)∧i≤l.length) 3000 (by decide) ⟨hu,gH,gq,nH,nq,t1,t2,t3,t10,t11,by simpa using t12,Nat.zero_le _⟩ ?_
 clear t1 t2 t3 t10 t11 t12 gq gH nH nq hu t w
 rintro i t w ⟨hu,gH,gq,nH,nq,t1,t2,t3,t10,t11,t12,hi⟩
 have hle:w.lim≤w.next:=by rw [hu.lim]; have:=hu.next; omega
 by_cases hlt:i < l.length
 ·obtain ⟨x,hx⟩:=lt_get hlt
  have hxm:=List.mem_of_getElem? hx
  obtain ⟨j1,_⟩:=A.jb x hxm
  have j2:=A.ma x hxm
  have j1':=j1
  simp only [jobB,decide_eq_true_eq] at j1'
  have hjt:∀ j ∈ l.take i,jobB vs.length hs.length fs.length j=true∧1≤j.ma:=fun j hj'=>A.jb j (List.mem_of_mem_take hj')
  obtain ⟨hOi,_,_⟩:=plS_ok A.ok hjt
  have hLi:=plS_le A.ok hjt
  have hnp:=stN_pos hOi j1 j2.1
  obtain ⟨n1',n2',n3'⟩:=stN_le (vs:=vs) (G:=(plS vs tr (P0 vs.length) (l.take i)).1) (P:=(plS vs tr (P0 vs.length) (l.take i)).2) (j:=x)
  have epl:=plS_snoc vs (l.take i) tr (P0 vs.length) x
  rw [← take_push' hx] at epl
  obtain ⟨G,hGe⟩:∃ G,G=(plS vs tr (P0 vs.length) (l.take i)).1:=⟨_,rfl⟩
  obtain ⟨P,hPe⟩:∃ P,P=(plS vs tr (P0 vs.length) (l.take i)).2:=⟨_,rfl⟩
  rw [← hGe,← hPe] at hOi hnp n2' n3' epl
  rw [← hGe] at gH hLi n1'
  rw [← hPe] at gq n1'
  obtain ⟨mo,o,h,vi,ma⟩:=x
  simp only at j1' j2
  obtain ⟨m,rfl⟩:∃ m:Nat,mo=m:=⟨mo.toNat,by omega⟩
  obtain ⟨k,rfl⟩:∃ k:Nat,vi=k:=⟨vi.toNat,by omega⟩
  have hm:m < fs.length:=by omega
  have hk:k < vs.length:=by omega
  have v6:=A.v6
  have f6:=A.f6
  obtain ⟨r,z,y0,v,hr,hrl,hrx,_,hvk,eg,_,eb⟩:=A.ok.row hm hk
  obtain ⟨_,_,y,_,_,_,_,hPy,_,_,ep,_⟩:=hOi.row hm hk
  have eN:stN vs G P ⟨m,o,h,k,ma⟩=min (min ma (g2 G m k)) (v.be - y):=by
   unfold stN
   simp only [Int.toNat_natCast]
   rw [ep,eb]
  have bz:=A.tb m k
  have bx0:=hOi.pos m k hm hk
  have by0:=hOi.podP k hk
  have bb:=A.be v (List.mem_of_getElem? hvk)
  have hL:=hLi m k
  simp only [Int.toNat_natCast] at n2' n3'
  rw [eg] at bz hL
  rw [ep,eb] at by0 n3'
  have hw1':IntKind.wrap .i64 ((i:Int) + 1)=(i:Int) + 1:=wrap64_in (by omega) (by omega)
  obtain ⟨p,hia,hld,_,hpb⟩:=getR un39 sz67 jbC_length (hP.up hu) rfl hx
  obtain ⟨w1,hw1⟩:∃ w1:AW,w1=⟨(w.heap.put w.next (some (.cells [.int .i64 0,.int .i64 0,.int .i64 0,.int .i64 0,.int .i64 0] 67 false))).put w.next (some (.cells (jbC ⟨m,o,h,k,ma⟩) 67 false)),w.next + 1,w.lim⟩:=⟨_,rfl⟩
  have u4:Up w w1:=by rw [hw1]; exact ((Up.refl w).add _).put (Nat.le_refl _) (Nat.le_refl _)
  have n1:w1.next=w.next + 1:=by rw [hw1]
  have gJ:w1.heap.get w.next=some (.cells (jbC ⟨m,o,h,k,ma⟩) 67 false):=by rw [hw1]; simp
  have hu1:=hu.trans u4
  have gX1:=(hu1.at hX).trans gX
  have gq1:=(u4.at nq).trans gq
  have gH1:=(u4.at nH).trans gH
  have hw1e:=hw1
  simp only [jbC] at hld hw1e
  have hlt':(i:Int) < (l.length:Int):=by omega
  simp [mc22_l0_eq,t2,t12,hl1,hlt,hlt',hia,hld,hle]
  rw [← hw1e]
  refine wp_seqX (wp_blockX (part22a (ov:=ov) (hs:=hs) (fs:=fs) (vv:=vv) (hv:=hv) (fv:=fv) (tr:=tr) (G:=G) (P:=P) (K + 1) m k o h ma (by omega) (by omega) vs.length hk r z y hr hrx hPy v hvk eg bz (by omega) bb (by omega) w.next H q X w1 (hS.up hu1) (hT.up hu1) gX1 gJ gH1 gq1 pv (.int .i64 (i:Nat)) _ (by simp [t1]) (by simp [t2]) (by simp [t3]) (by simp [t10]) (by simp [t11]) (by simp [t12]) (by simp) _ ?_))
  intro t t14 t1 t2 t3 t10 t11 t12 t13
  rw [← eN] at t14
  refine part22b (ov:=ov) (tr:=tr) (K + 1) hOi m k o h ma (stN vs G P ⟨m,o,h,k,ma⟩) j1 (by omega) (by omega) hk y hPy (by rw [eg]; omega) (by omega) (by omega) w.next H q (by omega) (by omega) hHq w1 gJ gH1 gq1 (by rw [hu1.lim]; omega) (by rw [hu1.lim]; omega) tv pv (.pointer (some ⟨X,0,none⟩)) (.int .i64 (i:Nat)) t t1 t2 t3 t10 t11 t12 t13 t14 _ ?_
  intro t w2 gH2 gD2 hold n2 l2 t1 t2 t3 t10 t11 t12
  have hu2:Up w0 w2:=⟨fun b hb=>(hold b (by omega) (by omega)).trans (hu1.at hb),by rw [n2]; exact hu1.next,by rw [l2]; exact hu1.lim⟩
  simp [t12,hw1']
  rw [epl]
  exact ⟨by omega,hu2,gH2,gD2,by omega,by omega,t1,t2,t3,t10,t11,hlt⟩
 ·have hi':i=l.length:=by omega
  subst hi'
  rw [List.take_length] at gq
  simp [mc22_l0_eq,t2,t12,hl1]
  exact hQ _ _ hu gq nq (by simp [t1]) (by simp [t11])
set_option maxHeartbeats 1000000 in
theorem call22 (K:Nat) {hs:List HHd} {fs:List (List (Int × Int))} (ho:∀ args w,ov 22 args w=none) (h57:HasP ov 57 S59.F) (h29:HasP ov 29 S83.F) (h37:HasP ov 37 S84.F) (w:AW) (hl:w.lim≤w.next) (hS:SeaV w vv hv fv vs hs fs) (hT:Rows2 intC w tv tr) (hP:RowsV jbC w pv l) :
  ∃ v w',(run Try.prog ov (K + 2)).call 22 [.agg ⟨[vv,hv,fv]⟩,tv,pv] w .none=.ok (.ret v) w' .none∧Up w w'∧((¬ chkP vs hs fs tr l=0∧v=.tuple ⟨[.slice none 0 0,.int .i64 0,.int .i64 (chkP vs hs fs tr l)]⟩)∨(chkP vs hs fs tr l=0∧∃ q,v=.tuple ⟨[.slice (some ⟨q,0,none⟩) vs.length vs.length,.int .i64 (sumG (plS vs tr (P0 vs.length) l).1),.int .i64 0]⟩∧w'.heap.get q=some (.cells ((plS vs tr (P0 vs.length) l).2.flatMap intC) 3 false)∧q < w'.next∧w.next≤q)):=by
 refine call_wp text22 (by simp) (ho _ _) ?_
 obtain ⟨w1,hw1⟩:∃ w1:AW,w1=⟨w.heap.put w.next (some (.cells [vv,hv,fv] 26 false)),w.next + 1,w.lim⟩:=⟨_,rfl⟩
 have u1:Up w w1:=by rw [hw1]; exact (Up.refl w).add _
 have n1:w1.next=w.next + 1:=by rw [hw1]
 have gX:w1.heap.get w.next=some (.cells [vv,hv,fv] 26 false):=by rw [hw1]; simp
 obtain ⟨nv,nh,nf⟩:=hS.nj
 have tj:notJunk tv=some tv:=by obtain ⟨x,y,rfl⟩:=hT.len; rfl
 have pj:notJunk pv=some pv:=by obtain ⟨x,y,rfl⟩:=hP.len; rfl
 have sv:=same_rows hS.v
 have lt22:=fun w2=>len22V (w':=w2) hS.v
 have r57:=S59.call (P:=Try.prog) h57 (m:=K) (w:=w1) ⟨vv,hv,fv,tv,vs,hs,fs,tr,rfl,hS.up u1,hT.up u1,rfl⟩
 by_cases k:chkT vs hs fs tr=0
 ·obtain ⟨k1,k2⟩:=chkT0.1 k
  have r29:=S83.call (P:=Try.prog) h29 (m:=K) (w:=w1) ⟨vv,hv,fv,pv,vs,hs,fs,l,rfl,hS.up u1,hP.up u1,k1,rfl⟩
  cases k3:planB vs hs fs.length l with
  | true =>
   have e1:chkP vs hs fs tr l=0:=chkP0.2 ⟨k1,k2,k3⟩
   have A:=all_ok k1 k2 k3
   obtain ⟨o1,o2,o3⟩:=plS_ok A.ok A.jb
   have hLe:=plS_le A.ok A.jb
   have mk2:=fun w=>mk42 vs.length (by have:=A.v6; omega) w
   obtain ⟨w2,hw2⟩:∃ w2:AW,w2=⟨(w1.heap.put w1.next (some (.cells ((hdL tr tr).flatMap intC) 108 false))).put (w1.next + 1) (some (.cells ((P0 vs.length).flatMap intC) 3 false)),w1.next + 1 + 1,w1.lim⟩:=⟨_,rfl⟩
   have u2:Up w1 w2:=by rw [hw2]; exact ((Up.refl w1).add _).add _
   have n2:w2.next=w1.next + 1 + 1:=by rw [hw2]
   have gH2:w2.heap.get w1.next=some (.cells ((hdL tr tr).flatMap intC) 108 false):=by rw [hw2]; simp
   have gq2:w2.heap.get (w1.next + 1)=some (.cells ((P0 vs.length).flatMap intC) 3 false):=by rw [hw2]; simp
   have hw2e:=hw2
   rw [hw1] at hw2e r57 r29
   unfold P0 at hw2e
   simp only at hw2e
   simp [-al108,al108H tr,mc22,cellsOf_agg,nv,nh,nf,tj,pj,r57,k,r29,k3,sv,lt22,mk2]
   rw [← hw2e]
   have hl2:w2.lim≤w2.next:=by rw [(u1.trans u2).lim]; have:=(u1.trans u2).next; omega
   refine wp_seqX (wp_blockX (loop22a (ov:=ov) (vv:=vv) (hv:=hv) (fv:=fv) (tv:=tv) (pv:=pv) K A (X:=w.next) (H:=w1.next) (q:=w1.next + 1) w1 (hS.up u1) (hT.up u1) (hP.up u1) (by omega) gX (by rw [u1.lim]; omega) (Nat.le_refl _) (by omega) (by omega) w2 u2 gH2 gq2 (by omega) (by omega) _ (by simp) (by simp) (by simp) (by simp [n1]) (by simp [n1]) (by simp) _ ?_))
   intro t w3 u3 gq3 nq3 t1 t11
   have r37:=S84.call (P:=Try.prog) h37 (m:=K) (w:=w3) ⟨_,_,rfl,rows_q gq3 o1.lenP nq3,by rw [o1.lenP]; have:=A.v6; omega,pods_bd o1 A.be,rfl⟩
   have b1:=sumG_bd o1 (fun m v=>Int.le_trans (hLe m v) (A.tb m v).2) A.v6.1 A.f6.1 fs.length
   have b2:=sumG_bd A.ok (fun m v=>(A.tb m v).2) A.v6.1 A.f6.1 fs.length
   rw [List.take_of_length_le (by rw [o1.lenG]; exact Nat.le_refl _)] at b1
   rw [List.take_of_length_le (by rw [A.trl]; exact Nat.le_refl _)] at b2
   rw [P0_sum] at o3
   obtain ⟨S,hSe⟩:∃ S,S=(plS vs tr (P0 vs.length) l).2.sum:=⟨_,rfl⟩
   rw [← hSe] at r37 o3
   have hwn:IntKind.wrap .i64 (-S) = -S:=wrap64_in (by omega) (by omega)
   simp [t1,t11,r37,un_neg,hwn]
   refine wp_seqX (wp_blockX (loop22b (ov:=ov) (vs:=vs) K h37 A.ok (fun m v=>(A.tb m v).2) A.v6.1 A.f6.1 (-S) (by omega) w3 (hT.up (u1.trans u3)) (.slice (some ⟨w1.next + 1,0,none⟩) vs.length vs.length) _ (by simp [t1]) (by simp [t11]) (by simp) (by simp) _ ?_))
   intro t t11 t15
   have e2 : -S + sumG tr=sumG (plS vs tr (P0 vs.length) l).1:=by omega
   rw [e2] at t15
   simp [t11,t15,e1,tupV]
   exact ⟨u1.trans u3,gq3,nq3,by omega⟩
  | false =>
   have e1:chkP vs hs fs tr l=22:=by simp [chkP,k,k3]
   rw [hw1] at r57 r29 u1
   simp [mc22,cellsOf_agg,nv,nh,nf,tj,pj,r57,k,r29,k3,e1,tupV]
   exact u1
 ·have e1:chkP vs hs fs tr l=chkT vs hs fs tr:=by simp [chkP,k]
  rw [hw1] at r57 u1
  simp [mc22,cellsOf_agg,nv,nh,nf,tj,pj,r57,k,e1,tupV]
  exact u1
end
def HasW (ov:Ov):Prop:=∀ w,ov 18 [] w=some (.ok (.ret (.bool true)) w .none)
theorem ruleW {ov:Ov} (h:HasW ov) (m:Nat) (w:AW):(run Try.prog ov (m + 1)).call 18 [] w .none=.ok (.ret (.bool true)) w .none:=by
 show stepO Try.prog (run Try.prog ov m) 18 [] w .none (ov 18 [] w)=_
 rw [h w]; rfl
set_option maxHeartbeats 1000000 in
theorem call4 {ov:Ov} (m:Nat) (ho:∀ args w,ov 4 args w=none) (ho21:∀ args w,ov 21 args w=none) (ho22:∀ args w,ov 22 args w=none) (ho58:∀ args w,ov 58 args w=none) (ho85:∀ args w,ov 85 args w=none) (hW:HasW ov) (h19:HasP ov 19 S19.F) (h20:HasP ov 20 S19.F) (h55:HasP ov 55 S55.F) (h57:HasP ov 57 S59.F) (h29:HasP ov 29 S83.F) (h81:HasP ov 81 S81.F) (h84:HasP ov 84 S84.F) (h37:HasP ov 37 S84.F) (h23:HasP ov 23 eqE.F)
  (vs:List HVn) (hs:List HHd) (fs:List (List (Int × Int))) (vv hv fv tv pv:Value) (tr:List (List Int)) (l:List HJb) (w:AW) (hl:w.lim≤w.next) (hS:SeaV w vv hv fv vs hs fs) (hT:Rows2 intC w tv tr) (hP:RowsV jbC w pv l) :
  ∃ v w',(run Try.prog ov (m + 5)).call 4 [.agg ⟨[vv,hv,fv]⟩,tv,pv] w .none=.ok (.ret v) w' .none∧v=.bool true:=by
 refine call_wp text4 (by simp) (ho _ _) ?_
 obtain ⟨w1,hw1⟩:∃ w1:AW,w1=⟨w.heap.put w.next (some (.cells [vv,hv,fv] 26 false)),w.next + 1,w.lim⟩:=⟨_,rfl⟩
 have u1:Up w w1:=by rw [hw1]; exact (Up.refl w).add _
 have n1:w1.next=w.next + 1:=by rw [hw1]
 have g1:w1.heap.get w.next=some (.cells [vv,hv,fv] 26 false):=by rw [hw1]; simp
 obtain ⟨nv,nh,nf⟩:=hS.nj
 have tj:notJunk tv=some tv:=by obtain ⟨x,y,rfl⟩:=hT.len; rfl
 have pj:notJunk pv=some pv:=by obtain ⟨x,y,rfl⟩:=hP.len; rfl
 have hS1:=hS.up u1
 have hT1:=hT.up u1
 have hP1:=hP.up u1
 have r19:=S19.call (P:=Try.prog) h19 (m:=m + 3) (w:=w1) ⟨vv,hv,fv,tv,pv,vs,hs,fs,tr,l,rfl,hS1,hT1,hP1,rfl⟩
 have r20:=S19.call (P:=Try.prog) h20 (m:=m + 3) (w:=w1) ⟨vv,hv,fv,tv,pv,vs,hs,fs,tr,l,rfl,hS1,hT1,hP1,rfl⟩
 obtain ⟨v21,w2,c21,u2,e21⟩:=call21 (ov:=ov) (m + 1) ho21 h55 ho58 ho85 h81 h84 w1 (by rw [u1.lim]; omega) hS1 hT1 hP1
 obtain ⟨v22,w3,c22,u3,e22⟩:=call22 (ov:=ov) (m + 2) ho22 h57 h29 h37 w2 (by rw [(u1.trans u2).lim]; have:=(u1.trans u2).next; omega) (hS1.up u2) (hT1.up u2) (hP1.up u2)
 have g2:w2.heap.get w.next=some (.cells [vv,hv,fv] 26 false):=(u2.at (by omega)).trans g1
 have qW:=fun w=>ruleW hW (m + 3) w
 obtain ⟨b,hb⟩:∃ b,b=fitV vs hs fs tr l:=⟨_,rfl⟩
 obtain ⟨c,hc⟩:∃ c,c=chkP vs hs fs tr l:=⟨_,rfl⟩
 rw [← hb,← hc] at r19 r20
 rw [← hc] at e21 e22
 have hw1e:=hw1
 rcases e21 with ⟨k,rfl⟩ | ⟨k,q,rfl,gq,nq,lq⟩
 ·rcases e22 with ⟨k',rfl⟩ | ⟨k',_⟩
  ·have r23:=eqE.call (P:=Try.prog) h23 (m:=m + 3) (w:=w3) ⟨.slice none 0 0,.slice none 0 0,[],rfl,.inl ⟨rfl,none,0,rfl⟩,.inl ⟨rfl,none,0,rfl⟩,by simp,rfl⟩
   rw [hw1] at r19 r20 c21
   cases b with
   | true =>
    simp [mc4,cellsOf_agg,nv,nh,nf,tj,pj,r19,r20,c21]
    simp [g2,nv,nh,nf,c22,r23,qW,tupV]
   | false =>
    simp [mc4,cellsOf_agg,nv,nh,nf,tj,pj,r19,r20,c21]
    simp [g2,nv,nh,nf,c22,r23,qW,tupV]
  ·exact absurd k' k
 ·rcases e22 with ⟨k',rfl⟩ | ⟨k',q',rfl,gq',nq',lq'⟩
  ·exact absurd k k'
  ·have hz:=chkP0.1 (hc ▸ k)
   have A:=all_ok hz.1 hz.2.1 hz.2.2
   obtain ⟨o1,_,_⟩:=plS_ok A.ok A.jb
   have r23:=eqE.call (P:=Try.prog) h23 (m:=m + 3) (w:=w3) ⟨_,_,_,rfl,(rows_q gq o1.lenP nq).up u3,rows_q gq' o1.lenP nq',by rw [o1.lenP]; have:=A.v6; omega,rfl⟩
   rw [hw1] at r19 r20 c21
   subst k
   cases b with
   | true =>
    simp [mc4,cellsOf_agg,nv,nh,nf,tj,pj,r19,r20,c21]
    simp [g2,nv,nh,nf,c22,r23,qW,tupV]
   | false =>
    simp [mc4,cellsOf_agg,nv,nh,nf,tj,pj,r19,r20,c21]
    simp [g2,nv,nh,nf,c22,r23,qW,tupV]
noncomputable def noOv:Ov:=fun _ _ _=>none
def seasonA:List Value:=[.agg ⟨[.slice (some ⟨147,0,some 2⟩) 2 2,.slice (some ⟨148,0,some 2⟩) 2 2,.slice (some ⟨155,0,some 2⟩) 2 2]⟩]
def seasonL:List LaidV:=[(147,[.int .i64 0,.int .i64 2,.int .i64 10,.int .i64 1,.int .i64 3,.int .i64 6],65),(148,[.int .i64 3,.int .i64 0,.int .i64 3,.int .i64 3,.int .i64 8,.int .i64 2,.int .i64 2,.int .i64 2,.int .i64 4,.int .i64 10],77),(151,[.int .i64 4,.int .i64 6,.int .i64 5,.int .i64 5],34),(154,[.int .i64 5,.int .i64 8,.int .i64 3,.int .i64 4],34),(155,[.slice (some ⟨151,0,some 2⟩) 2 2,.slice (some ⟨154,0,some 2⟩) 2 2],69)]
def mostV:Value:=.tuple ⟨[.agg ⟨[.int .i64 15,.int .i64 16]⟩,.int .i64 0]⟩
def asI (v:Value):Option Int:=match v with | .int k n=>(match k with | .i64=>some n | _=>none) | _=>none
theorem asI_some {v:Value} {n:Int} (h:asI v=some n):v=.int .i64 n:=by
 unfold asI at h
 split at h
 ·split at h
  ·cases h; rfl
  ·cases h
 ·cases h
def parseR {α:Type} (one:List Value→Option α) (m:Nat):Nat→List Value→Option (List α)
 | 0,l=>match l with | []=>some [] | _=>none
 | n + 1,l=>match one (l.take m) with
  | some x=>match parseR one m n (l.drop m) with
   | some r=>some (x::r)
   | none=>none
  | none=>none
theorem parseR_some {α:Type} {one:List Value→Option α} {m:Nat} {f:α→List Value} (hf:∀ l x,one l=some x→l=f x):∀ {n:Nat} {l:List Value} {L:List α},parseR one m n l=some L→l=L.flatMap f∧L.length=n
 | 0,l,L,h=>by
  unfold parseR at h
  split at h
  ·cases h; exact ⟨rfl,rfl⟩
  ·cases h
 | n + 1,l,L,h=>by
  unfold parseR at h
  cases h1:one (l.take m) with
  | none=>rw [h1] at h; cases h
  | some x =>
   rw [h1] at h
   simp only at h
   cases h2:parseR one m n (l.drop m) with
   | none=>rw [h2] at h; cases h
   | some r =>
    rw [h2] at h
    cases h
    obtain ⟨e1,e2⟩:=parseR_some hf h2
    refine ⟨?_,by simp [e2]⟩
    rw [List.flatMap_cons,← hf _ _ h1,← e1,List.take_append_drop]
noncomputable def rowR {α:Type} (one:List Value→Option α) (m:Nat) (w:AW) (v:Value):Option (List α):=match v with
 | .slice base n _=>match base with
  | some a=>bif Nat.blt a.block w.next then (match rd w a.block a.off (n * m) with
   | some cs=>parseR one m n cs
   | none=>none) else none
  | none=>none
 | _=>none
theorem rowR_some {α:Type} {one:List Value→Option α} {m:Nat} {f:α→List Value} (hf:∀ l x,one l=some x→l=f x) {w:AW} {v:Value} {L:List α} (h:rowR one m w v=some L):RowsV f w v L:=by
 unfold rowR at h
 split at h
 ·rename_i base n c
  split at h
  ·rename_i a
   cases hb:Nat.blt a.block w.next with
   | false=>rw [hb] at h; cases h
   | true =>
    rw [hb,cond_true] at h
    have hlt:a.block < w.next:=by simpa [Nat.blt_eq] using hb
    rw [rd_eq] at h
    split at h
    ·rename_i cs hcs
     obtain ⟨e1,e2⟩:=parseR_some hf h
     subst e2
     refine .inr ⟨a.block,a.off,a.spot,c,rfl,?_,hlt⟩
     unfold rdO at hcs
     cases hg:w.heap.get a.block with
     | none=>rw [hg] at hcs; cases hcs
     | some o =>
      rw [hg] at hcs
      cases o with
      | cells cl e ro =>
       simp only [cellsO_some,Option.bind_some] at hcs
       by_cases hf:a.off + L.length * m≤cl.length
       ·rw [if_pos hf] at hcs
        cases hcs
        refine ⟨cl.take a.off,cl.drop (a.off + L.length * m),e,ro,?_,by rw [List.length_take]; omega⟩
        rw [← e1]
        congr 2
        rw [← List.drop_drop,List.take_append_drop,List.take_append_drop]
       ·rw [if_neg hf] at hcs; cases hcs
      | _=>cases hcs
    ·cases h
  ·cases h
 ·cases h
def oneI (l:List Value):Option Int:=match l with | [a]=>asI a | _=>none
theorem oneI_some (l:List Value) (x:Int) (h:oneI l=some x):l=intC x:=by
 unfold oneI at h
 split at h
 ·rw [asI_some h]; rfl
 ·cases h
noncomputable def F81c (args:List Value) (w:AW):Option Value:=match args with
 | [a,v]=>match asI a with
  | some n=>match rowR oneI 1 w v with
   | some L=>bif Nat.ble L.length 10 then some (.int .i64 (L.foldl min n)) else none
   | none=>none
  | none=>none
 | _=>none
theorem F81c_some {args:List Value} {w:AW} {v:Value} (h:F81c args w=some v):S81.R args w v:=by
 unfold F81c at h
 split at h
 ·rename_i a v
  split at h
  ·rename_i n hn
   split at h
   ·rename_i L hL
    cases hb:Nat.ble L.length 10 with
    | false=>rw [hb] at h; cases h
    | true =>
     rw [hb,cond_true] at h
     cases h
     rw [asI_some hn]
     exact ⟨n,v,L,rfl,rowR_some oneI_some hL,by simpa [Nat.ble_eq] using hb,rfl⟩
   ·cases h
  ·cases h
 ·cases h
noncomputable def pureOv:Ov:=ovP 81 F81c noOv
end Go.Proofs.Ytiokkkjahkhbfaa.walk
