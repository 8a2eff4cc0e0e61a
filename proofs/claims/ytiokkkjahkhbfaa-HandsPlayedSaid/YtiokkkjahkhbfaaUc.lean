/- Part of a proof: see the text with the theorem. -/
import Derived.Test.YtiokkkjahkhbfaaUb
import Derived.Test.YtiokkkjahkhbfaaSiF
set_option linter.all false
namespace Go.Proofs.Ytiokkkjahkhbfaa.walk
open Go Go.Sh
set_option maxRecDepth 100000
def S46:PSpec where
 R args w v:=∃ (x:Value) (l:List HVn),args=[x]∧RowsV vnC w x l∧v=.bool (vnsB l)
 uniq:=by
  rintro _ _ _ _ ⟨x,r,rfl,h1,rfl⟩ ⟨_,r',h,h2,rfl⟩
  cases h
  rw [h1.uniq (m:=3) vnC_length vnC_inj h2]
 shut h:=h
theorem run46 {ov:Ov} (ho:∀ args w,ov 46 args w=none) (h73:HasP ov 73 S73.F) (h74:HasP ov 74 S74.F) (l:List HVn) (v:Value) (w:AW) (hl:w.lim=w.next) (hv:RowsV vnC w v l):∃ x w',(run Try.prog ov 2).call 46 [v] w .none=.ok (.ret x) w' .none∧x=.bool (vnsB l):=by
 refine call_wp text46 (by simp) (ho _ _) ?_
 have hl1:=fun w2=>len22V (w':=w2) hv
 by_cases h1:l.length < 1
 ·have h1':(l.length:Int) < 1:=by omega
  have e:vnsB l=false:=by simp only [vnsB,Bool.and_eq_false_iff,decide_eq_false_iff_not]; exact .inl (by omega)
  simp [mc46,hl1,h1',e,tupV]
 have h1':¬ (l.length:Int) < 1:=by omega
 by_cases h2:6 < l.length
 ·have h2':(6:Int) < (l.length:Int):=by omega
  have e:vnsB l=false:=by simp only [vnsB,Bool.and_eq_false_iff,decide_eq_false_iff_not]; exact .inl (by omega)
  simp [mc46,hl1,h1',h2',e,tupV]
 have h2':¬ (6:Int) < (l.length:Int):=by omega
 have eI:decide (1≤l.length∧l.length≤6)=true:=by simp; omega
 simp [mc46,hl1,h1',h2']
 refine wp_seqX (wp_blockX (wp_rounds (fun i t w'=>Up w w'∧w'.lim≤w'.next∧tget t 13=v∧tget t 14=.int .i64 (l.length:Nat)∧tget t 15=.int .i64 (i:Nat)∧i≤l.length∧(l.take i).all vnB=true) 20 (by decide) ?_ ?_))
 ·refine ⟨Up.refl w,by omega,by simp,by simp,by simp,by omega,by simp⟩
 ·rintro i t w' ⟨hu,hle,t13,t14,t15,hi,ha⟩
  by_cases hlt:i < l.length
  ·obtain ⟨x,hx⟩:=lt_get hlt
   obtain ⟨p,hia,hld,_,hpb⟩:=getR un22 sz65 vnC_length (hv.up hu) rfl hx
   have hw1:IntKind.wrap .i64 ((i:Int) + 1)=(i:Int) + 1:=wrap64_in (by omega) (by omega)
   have has:=all_tk (p:=vnB) hx
   obtain ⟨a1,a2,a3⟩:=x
   have u1:Up w ⟨(w'.heap.put w'.next (some (.cells [.int .i64 0,.int .i64 0,.int .i64 0] 65 false))).put w'.next (some (.cells [.int .i64 a1,.int .i64 a2,.int .i64 a3] 65 false)),w'.next + 1,w'.lim⟩:=(hu.add _).put hu.next (Nat.le_refl _)
   have r73:=fun w=>S73.call1 (P:=Try.prog) h73 (w:=w) ⟨a1,a2,rfl,rfl⟩
   have r74:=fun w=>S74.call1 (P:=Try.prog) h74 (w:=w) ⟨a3,1000,rfl,rfl⟩
   have hbad:vnB ⟨a1,a2,a3⟩=false→vnsB l=false:=fun h=>by simp only [vnsB,all_bd hx h,Bool.and_false]
   simp only [vnC] at hld
   cases k1:hrsB a1 a2 with
   | false =>
    have e:=hbad (by simp [vnB,k1])
    simp [mc46_l0,t13,t14,t15,hlt,hia,hld,hle,r73,k1,e,tupV]
   | true =>
    cases k2:inH 0 a3 1000 with
    | false =>
     have e:=hbad (by simp [vnB,k2])
     simp [mc46_l0,t13,t14,t15,hlt,hia,hld,hle,r73,k1,r74,k2,e,tupV]
    | true =>
     have e:vnB ⟨a1,a2,a3⟩=true:=by simp [vnB,k1,k2]
     rw [ha,e] at has
     simp [mc46_l0,t13,t14,t15,hlt,hia,hld,hle,r73,k1,r74,k2,hw1]
     exact ⟨by omega,u1,hlt,by simpa using has⟩
  ·have hi':i=l.length:=by omega
   subst hi'
   have e:vnsB l=true:=by simp only [vnsB,eI,all_fl ha,Bool.and_self]
   simp [mc46_l0,t14,t15,e,tupV]
def S47:PSpec where
 R args w v:=∃ (x:Value) (l:List HHd) (n:Nat),args=[x,.int .i64 (n:Nat)]∧RowsV hhC w x l∧n≤6∧v=.bool (hhsB n l)
 uniq:=by
  rintro _ _ _ _ ⟨x,r,n,rfl,h1,_,rfl⟩ ⟨_,r',n',h,h2,_,rfl⟩
  simp only [List.cons.injEq,Value.int.injEq,true_and,and_true] at h
  obtain ⟨rfl,h⟩:=h
  rw [h1.uniq (m:=5) hhC_length hhC_inj h2,show n=_ from Int.ofNat.inj h]
 shut h:=h
theorem run47 {ov:Ov} (ho:∀ args w,ov 47 args w=none) (h73:HasP ov 73 S73.F) (h74:HasP ov 74 S74.F) (h75:HasP ov 75 S75.F) (l:List HHd) (n:Nat) (hn:n≤6) (v:Value) (w:AW) (hl:w.lim=w.next) (hv:RowsV hhC w v l):∃ x w',(run Try.prog ov 2).call 47 [v,.int .i64 (n:Nat)] w .none=.ok (.ret x) w' .none∧x=.bool (hhsB n l):=by
 refine call_wp text47 (by simp) (ho _ _) ?_
 have hl1:=fun w2=>len23V (w':=w2) hv
 by_cases h2:4 < l.length
 ·have h2':(4:Int) < (l.length:Int):=by omega
  have e:hhsB n l=false:=by simp only [hhsB,Bool.and_eq_false_iff,decide_eq_false_iff_not]; exact .inl (by omega)
  simp [mc47,hl1,h2',e,tupV]
 have h2':¬ (4:Int) < (l.length:Int):=by omega
 have eI:decide (l.length≤4)=true:=by simp; omega
 simp [mc47,hl1,h2']
 refine wp_seqX (wp_blockX (wp_rounds (fun i t w'=>Up w w'∧w'.lim≤w'.next∧tget t 1=.int .i64 (n:Nat)∧tget t 10=v∧tget t 11=.int .i64 (l.length:Nat)∧tget t 12=.int .i64 (i:Nat)∧i≤l.length∧(l.take i).all (hhB n)=true) 20 (by decide) ?_ ?_))
 ·refine ⟨Up.refl w,by omega,by simp,by simp,by simp,by simp,by omega,by simp⟩
 ·rintro i t w' ⟨hu,hle,t1,t13,t14,t15,hi,ha⟩
  by_cases hlt:i < l.length
  ·obtain ⟨x,hx⟩:=lt_get hlt
   obtain ⟨p,hia,hld,_,hpb⟩:=getR un23 sz77 hhC_length (hv.up hu) rfl hx
   have hw1:IntKind.wrap .i64 ((i:Int) + 1)=(i:Int) + 1:=wrap64_in (by omega) (by omega)
   have has:=all_tk (p:=hhB n) hx
   obtain ⟨a0,a1,a2,a3,a4⟩:=x
   have u1:Up w ⟨(w'.heap.put w'.next (some (.cells [.int .i64 0,.int .i64 0,.int .i64 0,.int .i64 0,.int .i64 0] 77 false))).put w'.next (some (.cells [.int .i64 a0,.int .i64 a1,.int .i64 a2,.int .i64 a3,.int .i64 a4] 77 false)),w'.next + 1,w'.lim⟩:=(hu.add _).put hu.next (Nat.le_refl _)
   have r75:=fun w=>S75.call1 (P:=Try.prog) h75 (w:=w) ⟨a0,n,rfl,hn,rfl⟩
   have r73:=fun w=>S73.call1 (P:=Try.prog) h73 (w:=w) ⟨a1,a2,rfl,rfl⟩
   have r74a:=fun w=>S74.call1 (P:=Try.prog) h74 (w:=w) ⟨a3,100,rfl,rfl⟩
   have r74b:=fun w=>S74.call1 (P:=Try.prog) h74 (w:=w) ⟨a4,1000,rfl,rfl⟩
   have hbad:hhB n ⟨a0,a1,a2,a3,a4⟩=false→hhsB n l=false:=fun h=>by simp only [hhsB,all_bd hx h,Bool.and_false]
   simp only [hhC] at hld
   cases k0:inH 0 a0 (2 ^ n - 1) with
   | false =>
    have e:=hbad (by simp [hhB,k0])
    simp [mc47_l0,t1,t13,t14,t15,hlt,hia,hld,hle,r75,k0,e,tupV]
   | true =>
   cases k1:hrsB a1 a2 with
   | false =>
    have e:=hbad (by simp [hhB,k1])
    simp [mc47_l0,t1,t13,t14,t15,hlt,hia,hld,hle,r75,k0,r73,k1,e,tupV]
   | true =>
   cases k2:inH 0 a3 100 with
   | false =>
    have e:=hbad (by simp [hhB,k2])
    simp [mc47_l0,t1,t13,t14,t15,hlt,hia,hld,hle,r75,k0,r73,k1,r74a,k2,e,tupV]
   | true =>
   cases k3:inH 0 a4 1000 with
   | false =>
    have e:=hbad (by simp [hhB,k3])
    simp [mc47_l0,t1,t13,t14,t15,hlt,hia,hld,hle,r75,k0,r73,k1,r74a,k2,r74b,k3,e,tupV]
   | true =>
    have e:hhB n ⟨a0,a1,a2,a3,a4⟩=true:=by simp [hhB,k0,k1,k2,k3]
    rw [ha,e] at has
    simp [mc47_l0,t1,t13,t14,t15,hlt,hia,hld,hle,r75,k0,r73,k1,r74a,k2,r74b,k3,hw1]
    exact ⟨by omega,u1,hlt,by simpa using has⟩
  ·have hi':i=l.length:=by omega
   subst hi'
   have e:hhsB n l=true:=by simp only [hhsB,eI,all_fl ha,Bool.and_self]
   simp [mc47_l0,t14,t15,e,tupV]
theorem len69V {w w':AW} {v:Value} {l:List (Int × Int)} (h:RowsV hsC w v l):lenB Try.prog w' 69 v=.val (.int .i64 (l.length:Nat)) w':=by
 obtain ⟨a,c,rfl⟩:=h.len; simp
def S48:PSpec where
 R args w v:=∃ (x:Value) (l:List (List (Int × Int))) (n:Nat),args=[x,.int .i64 (n:Nat)]∧Rows2 hsC w x l∧n≤6∧v=.bool (mosB n l)
 uniq:=by
  rintro _ _ _ _ ⟨x,r,n,rfl,h1,_,rfl⟩ ⟨_,r',n',h,h2,_,rfl⟩
  simp only [List.cons.injEq,Value.int.injEq,true_and,and_true] at h
  obtain ⟨rfl,h⟩:=h
  rw [h1.uniq (m:=2) hsC_length hsC_inj h2,show n=_ from Int.ofNat.inj h]
 shut h:=h
theorem loop48 {ov:Ov} (m:Nat) (row:List (Int × Int)) (hlen:row.length≤6) (v:Value) (w0:AW) (hv:RowsV hsC w0 v row) (t:Tm) (w:AW) (hu0:Up w0 w) (hle0:w.lim≤w.next) (Q:Ex→Tm→AW→Prop) (t27:tget t 27=v) (t28:tget t 28=.int .i64 (row.length:Nat)) (t29:tget t 29=.int .i64 0) (v17 v18 v19 v1:Value) (t1:tget t 1=v1) (t17:tget t 17=v17) (t18:tget t 18=v18) (t19:tget t 19=v19)
  (hbad:∀ t w,row.all spB=false→tget t 4=.bool false→Q .ret t w)
  (hgood:∀ t w,row.all spB=true→Up w0 w→w.lim≤w.next→tget t 1=v1→tget t 17=v17→tget t 18=v18→tget t 19=v19→Q (.exit 2) t w):wp (exM Try.prog (run Try.prog ov m) (.loop mc48_l1) t w) Q:=by
 refine wp_rounds (fun i t w'=>Up w0 w'∧w'.lim≤w'.next∧tget t 27=v∧tget t 28=.int .i64 (row.length:Nat)∧tget t 29=.int .i64 (i:Nat)∧tget t 1=v1∧tget t 17=v17∧tget t 18=v18∧tget t 19=v19∧i≤row.length∧(row.take i).all spB=true) 20 (by decide) ⟨hu0,hle0,t27,t28,by simpa using t29,t1,t17,t18,t19,Nat.zero_le _,by simp⟩ ?_
 clear t27 t28 t29 t1 t17 t18 t19 hu0 hle0 t w
 rintro i t w ⟨hu,hle,t27,t28,t29,t1,t17,t18,t19,hi,ha⟩
 by_cases hlt:i < row.length
 ·obtain ⟨x,hx⟩:=lt_get hlt
  obtain ⟨p,hia,hld,_,hpb⟩:=getR un69 sz34 hsC_length (hv.up hu) rfl hx
  have hw1:IntKind.wrap .i64 ((i:Int) + 1)=(i:Int) + 1:=wrap64_in (by omega) (by omega)
  have has:=all_tk (p:=spB) hx
  obtain ⟨a1,a2⟩:=x
  have u1:Up w0 ⟨(w.heap.put w.next (some (.cells [.int .i64 0,.int .i64 0] 34 false))).put w.next (some (.cells [.int .i64 a1,.int .i64 a2] 34 false)),w.next + 1,w.lim⟩:=(hu.add _).put hu.next (Nat.le_refl _)
  have hb:spB (a1,a2)=false→row.all spB=false:=fun h=>all_bd hx h
  simp only [hsC] at hld
  by_cases k1:a1 < 0
  ·have e:=hb (by simp only [spB,inH]; simp; omega)
   simp [mc48_l1,t27,t28,t29,hlt,hia,hld,hle,k1]
   exact hbad _ _ e (by simp)
  ·by_cases k2:a2 < a1
   ·have e:=hb (by simp only [spB,inH]; simp; omega)
    simp [mc48_l1,t27,t28,t29,hlt,hia,hld,hle,k1,k2]
    exact hbad _ _ e (by simp)
   ·by_cases k3:1000 < a2
    ·have e:=hb (by simp only [spB,inH]; simp; omega)
     simp [mc48_l1,t27,t28,t29,hlt,hia,hld,hle,k1,k2,k3]
     exact hbad _ _ e (by simp)
    ·have e:spB (a1,a2)=true:=by simp only [spB,inH]; simp; omega
     rw [ha,e] at has
     simp [mc48_l1,t27,t28,t29,hlt,hia,hld,hle,k1,k2,k3,hw1,t1,t17,t18,t19]
     exact ⟨by omega,u1,hlt,by simpa using has⟩
 ·have hi':i=row.length:=by omega
  subst hi'
  simp [mc48_l1,t28,t29]
  exact hgood _ _ (all_fl ha) hu hle (by simp [t1]) (by simp [t17]) (by simp [t18]) (by simp [t19])
theorem run48 {ov:Ov} (ho:∀ args w,ov 48 args w=none) (l:List (List (Int × Int))) (n:Nat) (hn:n≤6) (v:Value) (w:AW) (hl:w.lim=w.next) (hv:Rows2 hsC w v l):∃ x w',(run Try.prog ov 2).call 48 [v,.int .i64 (n:Nat)] w .none=.ok (.ret x) w' .none∧x=.bool (mosB n l):=by
 refine call_wp text48 (by simp) (ho _ _) ?_
 have hl1:=fun w2=>len24V (w':=w2) hv
 by_cases h1:l.length < 1
 ·have h1':(l.length:Int) < 1:=by omega
  have e:mosB n l=false:=by simp only [mosB,Bool.and_eq_false_iff,decide_eq_false_iff_not]; exact .inl (by omega)
  simp [mc48,hl1,h1',e,tupV]
 have h1':¬ (l.length:Int) < 1:=by omega
 by_cases h2:6 < l.length
 ·have h2':(6:Int) < (l.length:Int):=by omega
  have e:mosB n l=false:=by simp only [mosB,Bool.and_eq_false_iff,decide_eq_false_iff_not]; exact .inl (by omega)
  simp [mc48,hl1,h1',h2',e,tupV]
 have h2':¬ (6:Int) < (l.length:Int):=by omega
 have eI:decide (1≤l.length∧l.length≤6)=true:=by simp; omega
 simp [mc48,hl1,h1',h2']
 refine wp_seqX (wp_blockX (wp_rounds (fun i t w'=>Up w w'∧w'.lim≤w'.next∧tget t 1=.int .i64 (n:Nat)∧tget t 17=v∧tget t 18=.int .i64 (l.length:Nat)∧tget t 19=.int .i64 (i:Nat)∧i≤l.length∧(l.take i).all (rowB n)=true) 20 (by decide) ?_ ?_))
 ·refine ⟨Up.refl w,by omega,by simp,by simp,by simp,by simp,by omega,by simp⟩
 ·rintro i t w' ⟨hu,hle,t1,t13,t14,t15,hi,ha⟩
  by_cases hlt:i < l.length
  ·obtain ⟨row,hx⟩:=lt_get hlt
   obtain ⟨p,ra,rc,hia,hld,hpb,hrow⟩:=Rows2.get un24 sz69 (hv.up hu) rfl hx
   have hw1:IntKind.wrap .i64 ((i:Int) + 1)=(i:Int) + 1:=wrap64_in (by omega) (by omega)
   have has:=all_tk (p:=rowB n) hx
   have hbad:rowB n row=false→mosB n l=false:=fun h=>by simp only [mosB,all_bd hx h,Bool.and_false]
   by_cases k1:row.length=n
   ·subst k1
    simp [mc48_l0,t1,t13,t14,t15,hlt,hia,hld,hle]
    refine wp_seqX (wp_blockX (wp_blockX (loop48 1 row (by omega) _ w' hrow _ w' (Up.refl _) hle _ ?_ ?_ ?_ _ _ _ _ rfl rfl rfl rfl ?_ ?_)))
    ·simp
    ·simp
    ·simp
    ·intro t w e t4
     have e:=hbad (by simp [rowB,e])
     simp [t4,e,tupV]
    ·intro t w e u2 hle2 s1 s17 s18 s19
     have e2:rowB row.length row=true:=by simp [rowB,e]
     rw [ha,e2] at has
     simp at s1 s17 s18 s19
     simp [s1,s17,s18,s19,t1,t13,t14,t15,hw1]
     exact ⟨by omega,hu.trans u2,hle2,hlt,by simpa using has⟩
   ·have k1':¬ (row.length:Int)=(n:Int):=by omega
    have e:=hbad (by simp [rowB,k1])
    simp [mc48_l0,t1,t13,t14,t15,hlt,hia,hld,hle,k1,k1',e,tupV]
  ·have hi':i=l.length:=by omega
   subst hi'
   have e:mosB n l=true:=by simp only [mosB,eI,all_fl ha,Bool.and_self]
   simp [mc48_l0,t14,t15,e,tupV]
structure SeaV (w:AW) (vv hv fv:Value) (vs:List HVn) (hs:List HHd) (fs:List (List (Int × Int))):Prop where
 v:RowsV vnC w vv vs
 h:RowsV hhC w hv hs
 f:Rows2 hsC w fv fs
theorem SeaV.up {we w:AW} {vv hv fv:Value} {vs:List HVn} {hs:List HHd} {fs:List (List (Int × Int))} (h:SeaV we vv hv fv vs hs fs) (k:Up we w):SeaV w vv hv fv vs hs fs:=⟨h.v.up k,h.h.up k,h.f.up k⟩
theorem SeaV.uniq {w:AW} {vv hv fv:Value} {vs vs':List HVn} {hs hs':List HHd} {fs fs':List (List (Int × Int))} (h:SeaV w vv hv fv vs hs fs) (k:SeaV w vv hv fv vs' hs' fs'):vs=vs'∧hs=hs'∧fs=fs' :=
 ⟨h.v.uniq (m:=3) vnC_length vnC_inj k.v,h.h.uniq (m:=5) hhC_length hhC_inj k.h,h.f.uniq (m:=2) hsC_length hsC_inj k.f⟩
theorem SeaV.nj {w:AW} {vv hv fv:Value} {vs:List HVn} {hs:List HHd} {fs:List (List (Int × Int))} (h:SeaV w vv hv fv vs hs fs):notJunk vv=some vv∧notJunk hv=some hv∧notJunk fv=some fv:=by
 refine ⟨?_,?_,?_⟩
 ·obtain ⟨x,y,rfl⟩:=h.v.len; rfl
 ·obtain ⟨x,y,rfl⟩:=h.h.len; rfl
 ·obtain ⟨x,y,rfl⟩:=h.f.len; rfl
def S14:PSpec where
 R args w v:=∃ (vv hv fv:Value) (vs:List HVn) (hs:List HHd) (fs:List (List (Int × Int))),args=[.agg ⟨[vv,hv,fv]⟩]∧SeaV w vv hv fv vs hs fs∧v=.int .i64 (chkH vs hs fs)
 uniq:=by
  rintro _ _ _ _ ⟨a,b,c,x,y,z,rfl,h1,rfl⟩ ⟨_,_,_,x',y',z',h,h2,rfl⟩
  cases h
  obtain ⟨rfl,rfl,rfl⟩:=h1.uniq h2
  rfl
 shut:=by rintro _ _ _ ⟨a,b,c,x,y,z,h,h1,e⟩; exact ⟨a,b,c,x,y,z,h,⟨h1.v,h1.h,h1.f⟩,e⟩
theorem vns_len {vs:List HVn} (h:vnsB vs=true):vs.length≤6:=by
 simp only [vnsB,Bool.and_eq_true,decide_eq_true_eq] at h; omega
theorem run14 {ov:Ov} (ho:∀ args w,ov 14 args w=none) (h46:HasP ov 46 S46.F) (h47:HasP ov 47 S47.F) (h48:HasP ov 48 S48.F) (vs:List HVn) (hs:List HHd) (fs:List (List (Int × Int))) (vv hv fv:Value) (w:AW) (hl:w.lim=w.next) (hS:SeaV w vv hv fv vs hs fs):∃ x w',(run Try.prog ov 2).call 14 [.agg ⟨[vv,hv,fv]⟩] w .none=.ok (.ret x) w' .none∧x=.int .i64 (chkH vs hs fs):=by
 refine call_wp text14 (by simp) (ho _ _) ?_
 obtain ⟨w1,hw1⟩:∃ w1:AW,w1=⟨w.heap.put w.next (some (.cells [vv,hv,fv] 26 false)),w.next + 1,w.lim⟩:=⟨_,rfl⟩
 have u1:Up w w1:=by rw [hw1]; exact (Up.refl w).add _
 have hS1:=hS.up u1
 obtain ⟨nv,nh,nf⟩:=hS.nj
 have r46:=S46.call1 (P:=Try.prog) h46 (w:=w1) ⟨vv,vs,rfl,hS1.v,rfl⟩
 have hl1:=fun w2=>len22V (w':=w2) hS.v
 rw [hw1] at r46
 cases k1:vnsB vs with
 | false =>
  have e:chkH vs hs fs=20:=by simp [chkH,seaB,k1]
  simp [mc14,cellsOf_agg,nv,nh,nf,r46,k1,hl1,e,tupV]
 | true =>
  have hn:=vns_len k1
  have r47:=S47.call1 (P:=Try.prog) h47 (w:=w1) ⟨hv,hs,vs.length,rfl,hS1.h,hn,rfl⟩
  have r48:=S48.call1 (P:=Try.prog) h48 (w:=w1) ⟨fv,fs,vs.length,rfl,hS1.f,hn,rfl⟩
  rw [hw1] at r47 r48
  cases k2:hhsB vs.length hs with
  | false =>
   have e:chkH vs hs fs=20:=by simp [chkH,seaB,k1,k2]
   simp [mc14,cellsOf_agg,nv,nh,nf,r46,k1,hl1,r47,k2,e,tupV]
  | true =>
   cases k3:mosB vs.length fs with
   | false =>
    have e:chkH vs hs fs=20:=by simp [chkH,seaB,k1,k2,k3]
    simp [mc14,cellsOf_agg,nv,nh,nf,r46,k1,hl1,r47,k2,r48,k3,e,tupV]
   | true =>
    have e:chkH vs hs fs=0:=by simp [chkH,seaB,k1,k2,k3]
    simp [mc14,cellsOf_agg,nv,nh,nf,r46,k1,hl1,r47,k2,r48,k3,e,tupV]
section
variable {ov:Ov} {vs:List HVn} {hs:List HHd} {fs:List (List (Int × Int))} {vv hv fv:Value} {w0:AW} {X:Nat}
end
def inP (p:Int × (Int × Int)):Bool:=inH p.2.1 p.1 p.2.2
def rowT (n:Nat) (r:List Int) (f:List (Int × Int)):Bool:=decide (r.length=n) && (r.zip f).all inP
def truB (n:Nat) (tr:List (List Int)) (fs:List (List (Int × Int))):Bool:=decide (tr.length=fs.length) && (tr.zip fs).all fun p=>rowT n p.1 p.2
def chkT (vs:List HVn) (hs:List HHd) (fs:List (List (Int × Int))) (tr:List (List Int)):Int:=if chkH vs hs fs=0 then (if truB vs.length tr fs=true then 0 else 21) else chkH vs hs fs
theorem zip_get {α β:Type} {l:List α} {m:List β} {i:Nat} {a:α} {b:β} (h1:l[i]?=some a) (h2:m[i]?=some b):(l.zip m)[i]?=some (a,b):=by
 rw [List.getElem?_zip_eq_some]; exact ⟨h1,h2⟩
theorem sea_parts {vs:List HVn} {hs:List HHd} {fs:List (List (Int × Int))} (h:seaB vs hs fs=true):vs.length≤6∧1≤vs.length∧hs.length≤4∧1≤fs.length∧fs.length≤6∧(∀ v ∈ vs,vnB v=true)∧(∀ h ∈ hs,hhB vs.length h=true)∧∀ r ∈ fs,rowB vs.length r=true:=by
 simp only [seaB,vnsB,hhsB,mosB,Bool.and_eq_true,decide_eq_true_eq,List.all_eq_true] at h
 obtain ⟨⟨⟨a,b⟩,c⟩,⟨d,e⟩,⟨f,g⟩,k⟩:=h
 exact ⟨b,a,d,f,g,c,e,k⟩
theorem row_len {n:Nat} {r:List (Int × Int)} (h:rowB n r=true):r.length=n:=by
 simp only [rowB,Bool.and_eq_true,decide_eq_true_eq] at h; exact h.1
theorem chk0 {vs:List HVn} {hs:List HHd} {fs:List (List (Int × Int))}:chkH vs hs fs=0 ↔ seaB vs hs fs=true:=by
 unfold chkH; split <;> rename_i h <;> simp [h]
def S86:PSpec where
 R args w v:=∃ (vv hv fv tv:Value) (vs:List HVn) (hs:List HHd) (fs:List (List (Int × Int))) (tr:List (List Int)),args=[.agg ⟨[vv,hv,fv]⟩,tv]∧SeaV w vv hv fv vs hs fs∧Rows2 intC w tv tr∧seaB vs hs fs=true∧v=.bool (truB vs.length tr fs)
 uniq:=by
  rintro _ _ _ _ ⟨a,b,c,d,x,y,z,t,rfl,h1,k1,_,rfl⟩ ⟨_,_,_,_,x',y',z',t',h,h2,k2,_,rfl⟩
  cases h
  obtain ⟨rfl,rfl,rfl⟩:=h1.uniq h2
  rw [k1.uniq (m:=1) intC_length intC_inj k2]
 shut:=by rintro _ _ _ ⟨a,b,c,d,x,y,z,t,h,h1,k,s,e⟩; exact ⟨a,b,c,d,x,y,z,t,h,⟨h1.v,h1.h,h1.f⟩,k,s,e⟩
def S59:PSpec where
 R args w v:=∃ (vv hv fv tv:Value) (vs:List HVn) (hs:List HHd) (fs:List (List (Int × Int))) (tr:List (List Int)),args=[.agg ⟨[vv,hv,fv]⟩,tv]∧SeaV w vv hv fv vs hs fs∧Rows2 intC w tv tr∧v=.int .i64 (chkT vs hs fs tr)
 uniq:=by
  rintro _ _ _ _ ⟨a,b,c,d,x,y,z,t,rfl,h1,k1,rfl⟩ ⟨_,_,_,_,x',y',z',t',h,h2,k2,rfl⟩
  cases h
  obtain ⟨rfl,rfl,rfl⟩:=h1.uniq h2
  rw [k1.uniq (m:=1) intC_length intC_inj k2]
 shut:=by rintro _ _ _ ⟨a,b,c,d,x,y,z,t,h,h1,k,e⟩; exact ⟨a,b,c,d,x,y,z,t,h,⟨h1.v,h1.h,h1.f⟩,k,e⟩
section
variable {ov:Ov} {vs:List HVn} {hs:List HHd} {fs:List (List (Int × Int))} {tr:List (List Int)} {vv hv fv tv:Value} {w0:AW} {X:Nat}
theorem loop86b (M:Nat) (hS:SeaV w0 vv hv fv vs hs fs) (hX:X < w0.next) (gX:w0.heap.get X=some (.cells [vv,hv,fv] 26 false)) (m:Nat) (row:List Int) (frow:List (Int × Int)) (hf:fs[m]?=some frow) (hrl:row.length≤6) (hfl:frow.length=row.length) (rv:Value) (hrow:RowsV intC w0 rv row) (t:Tm) (w:AW) (hu0:Up w0 w) (hle0:w.lim≤w.next) (Q:Ex→Tm→AW→Prop) (v16 v17:Value) (t2:tget t 2=.pointer (some ⟨X,0,none⟩)) (t5:tget t 5=.int .i64 (m:Nat)) (t16:tget t 16=v16) (t17:tget t 17=v17) (t18:tget t 18=.int .i64 (m:Nat)) (t29:tget t 29=rv) (t30:tget t 30=.int .i64 (row.length:Nat)) (t31:tget t 31=.int .i64 0)
  (hbad:∀ t w,(row.zip frow).all inP=false→tget t 4=.bool false→Q .ret t w)
  (hQ:∀ t w,(row.zip frow).all inP=true→Up w0 w→w.lim≤w.next→tget t 2=.pointer (some ⟨X,0,none⟩)→tget t 16=v16→tget t 17=v17→tget t 18=.int .i64 (m:Nat)→Q (.exit 2) t w):wp (exM Try.prog (run Try.prog ov M) (.loop mc86_l1) t w) Q:=by
 refine wp_rounds (fun i t w'=>Up w0 w'∧w'.lim≤w'.next∧tget t 2=.pointer (some ⟨X,0,none⟩)∧tget t 5=.int .i64 (m:Nat)∧tget t 16=v16∧tget t 17=v17∧tget t 18=.int .i64 (m:Nat)∧tget t 29=rv∧tget t 30=.int .i64 (row.length:Nat)∧tget t 31=.int .i64 (i:Nat)∧i≤row.length∧((row.zip frow).take i).all inP=true) 20 (by decide) ⟨hu0,hle0,t2,t5,t16,t17,t18,t29,t30,by simpa using t31,Nat.zero_le _,by simp⟩ ?_
 clear t2 t5 t16 t17 t18 t29 t30 t31 hu0 hle0 t w
 rintro i t w ⟨hu,hle,t2,t5,t16,t17,t18,t29,t30,t31,hi,ha⟩
 have gX':=(hu.at hX).trans gX
 have hS':=hS.up hu
 obtain ⟨nv,nh,nf⟩:=hS'.nj
 have hXn:¬ X=w.next:=by have:=hu.next; omega
 by_cases hlt:i < row.length
 ·obtain ⟨z,hz⟩:=lt_get hlt
  obtain ⟨f,hfz⟩:=lt_get (show i < frow.length by omega)
  have hzip:=zip_get hz hfz
  have has:=all_tk (p:=inP) hzip
  obtain ⟨p1,ia1,_,ld1,pb1⟩:=getR un42 sz3 intC_length (hrow.up hu) rfl hz
  have ld1:=ld1 0 _ rfl
  simp only [Nat.add_zero] at ld1
  obtain ⟨q,ra,rc,ia2,ld2,_,hfr⟩:=Rows2.get un24 sz69 hS'.f rfl hf
  obtain ⟨p3,ia3,ld3,_,pb3⟩:=getR un69 sz34 hsC_length hfr rfl hfz
  have hw1:IntKind.wrap .i64 ((i:Int) + 1)=(i:Int) + 1:=wrap64_in (by omega) (by omega)
  obtain ⟨f1,f2⟩:=f
  simp only [hsC] at ld3
  have u1:Up w0 ⟨(w.heap.put w.next (some (.cells [.int .i64 0,.int .i64 0] 34 false))).put w.next (some (.cells [.int .i64 f1,.int .i64 f2] 34 false)),w.next + 1,w.lim⟩:=(hu.add _).put hu.next (Nat.le_refl _)
  by_cases k1:z < f1
  ·have e:inP (z,(f1,f2))=false:=by simp only [inP,inH]; simp; omega
   simp [mc86_l1,t2,t5,t18,t29,t30,t31,hlt,gX',hXn,nf,ia1,ld1,ia2,ld2,ia3,ld3,hle,k1]
   exact hbad _ _ (all_bd hzip e) (by simp)
  ·by_cases k2:f2 < z
   ·have e:inP (z,(f1,f2))=false:=by simp only [inP,inH]; simp; omega
    simp [mc86_l1,t2,t5,t18,t29,t30,t31,hlt,gX',hXn,nf,ia1,ld1,ia2,ld2,ia3,ld3,hle,k1,k2]
    exact hbad _ _ (all_bd hzip e) (by simp)
   ·have e:inP (z,(f1,f2))=true:=by simp only [inP,inH]; simp; omega
    rw [ha,e] at has
    simp [mc86_l1,t2,t5,t16,t17,t18,t29,t30,t31,hlt,gX',hXn,nf,ia1,ld1,ia2,ld2,ia3,ld3,hle,k1,k2,hw1]
    exact ⟨by omega,u1,hlt,by simpa using has⟩
 ·have hi':i=(row.zip frow).length:=by rw [List.length_zip]; omega
  have hi2:i=row.length:=by omega
  rw [hi'] at ha
  have e:=all_fl ha
  simp [mc86_l1,t30,t31,hi2]
  exact hQ _ _ e hu hle (by simp [t2]) (by simp [t16]) (by simp [t17]) (by simp [t18])
end
theorem run86 {ov:Ov} (ho:∀ args w,ov 86 args w=none) (vs:List HVn) (hs:List HHd) (fs:List (List (Int × Int))) (tr:List (List Int)) (vv hv fv tv:Value) (w:AW) (hl:w.lim=w.next) (hS:SeaV w vv hv fv vs hs fs) (hT:Rows2 intC w tv tr) (hB:seaB vs hs fs=true):∃ x w',(run Try.prog ov 2).call 86 [.agg ⟨[vv,hv,fv]⟩,tv] w .none=.ok (.ret x) w' .none∧x=.bool (truB vs.length tr fs):=by
 refine call_wp text86 (by simp) (ho _ _) ?_
 obtain ⟨w1,hw1⟩:∃ w1:AW,w1=⟨w.heap.put w.next (some (.cells [vv,hv,fv] 26 false)),w.next + 1,w.lim⟩:=⟨_,rfl⟩
 have u1:Up w w1:=by rw [hw1]; exact (Up.refl w).add _
 have hS1:=hS.up u1
 have hT1:=hT.up u1
 obtain ⟨nv,nh,nf⟩:=hS.nj
 have n1:w1.next=w.next + 1:=by rw [hw1]
 have gX:w1.heap.get w.next=some (.cells [vv,hv,fv] 26 false):=by rw [hw1]; show (w.heap.put _ _).get _=_; rw [get_put,if_pos rfl]
 have hl1:=fun w2=>len22V (w':=w2) hS.v
 have hl3:=fun w2=>len24V (w':=w2) hS.f
 have hl4:=fun w2=>len27V (w':=w2) hT
 have hle1:w1.lim≤w1.next:=by rw [hw1]; show w.lim≤w.next + 1; omega
 obtain ⟨b1,b2,b3,b4,b5,b6,b7,b8⟩:=sea_parts hB
 by_cases k0:tr.length=fs.length
 ·have k0':(tr.length:Int)=(fs.length:Int):=by omega
  simp [mc86,cellsOf_agg,nv,nh,nf,hl1,hl3,hl4,k0,k0']
  rw [← hw1]
  refine wp_seqX (wp_blockX (wp_rounds (fun i t w'=>Up w1 w'∧w'.lim≤w'.next∧tget t 2=.pointer (some ⟨w.next,0,none⟩)∧tget t 16=tv∧tget t 17=.int .i64 (fs.length:Nat)∧tget t 18=.int .i64 (i:Nat)∧i≤fs.length∧((tr.zip fs).take i).all (fun p=>rowT vs.length p.1 p.2)=true) 20 (by decide) ?_ ?_))
  ·refine ⟨Up.refl _,hle1,by simp,by simp,by simp,by simp,by omega,by simp⟩
  ·rintro i t w' ⟨hu,hle,t2,t16,t17,t18,hi,ha⟩
   have gX':=(hu.at (show w.next < w1.next by omega)).trans gX
   have hS':=hS1.up hu
   by_cases hlt:i < fs.length
   ·obtain ⟨frow,hf⟩:=lt_get hlt
    obtain ⟨row,hr⟩:=lt_get (show i < tr.length by omega)
    have hzip:=zip_get hr hf
    have has:=all_tk (p:=fun p=>rowT vs.length p.1 p.2) hzip
    obtain ⟨p,ra,rc,hia,hld,hpb,hrow⟩:=Rows2.get un27 sz42 (hT1.up hu) rfl hr
    have hw1':IntKind.wrap .i64 ((i:Int) + 1)=(i:Int) + 1:=wrap64_in (by omega) (by omega)
    have hfl:=row_len (b8 _ (List.mem_of_getElem? hf))
    have hbad:rowT vs.length row frow=false→truB vs.length tr fs=false:=fun h=>by
     simp only [truB]
     rw [all_bd (p:=fun p=>rowT vs.length p.1 p.2) hzip h,Bool.and_false]
    by_cases k1:row.length=vs.length
    ·have k1':(row.length:Int)=(vs.length:Int):=by omega
     simp [mc86_l0,t2,t16,t17,t18,hlt,hia,hld,gX',nv,nh,nf,hl1,k1']
     rw [← k1']
     refine wp_seqX (wp_blockX (wp_blockX (loop86b 1 (hS1.up hu) (by have:=hu.next; omega) gX' i row frow hf (by omega) (by omega) _ hrow _ w' (Up.refl _) hle _ _ _ ?_ ?_ rfl rfl ?_ ?_ ?_ ?_ ?_ ?_)))
     ·simp [t2]
     ·simp [t18]
     ·simp [t18]
     ·simp
     ·simp
     ·simp
     ·intro t w2 e t4
      have e:=hbad (by simp [rowT,e])
      simp [t4,e,tupV]
     ·intro t w2 e u2 hle2 s2 s16 s17 s18
      have e2:rowT vs.length row frow=true:=by simp [rowT,e,k1]
      rw [ha] at has
      simp only [e2,Bool.and_true] at has
      simp at s16 s17
      simp [s2,s16,s17,s18,t16,t17,hw1']
      exact ⟨by omega,hu.trans u2,hle2,hlt,by simpa using has⟩
    ·have k1':¬ (row.length:Int)=(vs.length:Int):=by omega
     have e:=hbad (by simp [rowT,k1])
     simp [mc86_l0,t2,t16,t17,t18,hlt,hia,hld,gX',nv,nh,nf,hl1,k1',e,tupV]
   ·have hi':i=(tr.zip fs).length:=by rw [List.length_zip]; omega
    have hi2:i=fs.length:=by omega
    rw [hi'] at ha
    have e:truB vs.length tr fs=true:=by
     simp only [truB,all_fl ha,decide_eq_true k0,Bool.and_self]
    simp [mc86_l0,t17,t18,hi2,e,tupV]
 ·have k0':¬ (tr.length:Int)=(fs.length:Int):=by omega
  have e:truB vs.length tr fs=false:=by simp [truB,k0]
  simp [mc86,cellsOf_agg,nv,nh,nf,hl1,hl3,hl4,k0,k0',e,tupV]
theorem run59 {ov:Ov} (ho:∀ args w,ov 59 args w=none) (h14:HasP ov 14 S14.F) (h86:HasP ov 86 S86.F) (vs:List HVn) (hs:List HHd) (fs:List (List (Int × Int))) (tr:List (List Int)) (vv hv fv tv:Value) (w:AW) (hl:w.lim=w.next) (hS:SeaV w vv hv fv vs hs fs) (hT:Rows2 intC w tv tr):∃ x w',(run Try.prog ov 2).call 59 [.agg ⟨[vv,hv,fv]⟩,tv] w .none=.ok (.ret x) w' .none∧x=.int .i64 (chkT vs hs fs tr):=by
 refine call_wp text59 (by simp) (ho _ _) ?_
 obtain ⟨w1,hw1⟩:∃ w1:AW,w1=⟨w.heap.put w.next (some (.cells [vv,hv,fv] 26 false)),w.next + 1,w.lim⟩:=⟨_,rfl⟩
 have u1:Up w w1:=by rw [hw1]; exact (Up.refl w).add _
 have hS1:=hS.up u1
 have hT1:=hT.up u1
 obtain ⟨nv,nh,nf⟩:=hS.nj
 have nt:notJunk tv=some tv:=by obtain ⟨x,y,rfl⟩:=hT.len; rfl
 have r14:=S14.call1 (P:=Try.prog) h14 (w:=w1) ⟨vv,hv,fv,vs,hs,fs,rfl,hS1,rfl⟩
 rw [hw1] at r14
 by_cases k:chkH vs hs fs=0
 ·have r86:=S86.call1 (P:=Try.prog) h86 (w:=w1) ⟨vv,hv,fv,tv,vs,hs,fs,tr,rfl,hS1,hT1,chk0.1 k,rfl⟩
  rw [hw1] at r86
  cases k2:truB vs.length tr fs with
  | true =>
   have e:chkT vs hs fs tr=0:=by simp [chkT,k,k2]
   simp [mc59,cellsOf_agg,nv,nh,nf,nt,r14,k,r86,k2,e,tupV]
  | false =>
   have e:chkT vs hs fs tr=21:=by simp [chkT,k,k2]
   simp [mc59,cellsOf_agg,nv,nh,nf,nt,r14,k,r86,k2,e,tupV]
 ·have e:chkT vs hs fs tr=chkH vs hs fs:=by simp [chkT,k]
  simp [mc59,cellsOf_agg,nv,nh,nf,nt,r14,k,e,tupV]
section
variable {ov:Ov} {vs:List HVn} {hs:List HHd} {fs:List (List (Int × Int))} {tr:List (List Int)} {vv hv fv tv:Value} {w0:AW} {X:Nat}
end
theorem smi3 (a b c:Int):sameVal 5 (.agg ⟨[.int .i64 a,.int .i64 b,.int .i64 c]⟩) (.agg ⟨[.int .i64 a,.int .i64 b,.int .i64 c]⟩)=true:=same_agg _ (by
 intro v hv
 simp only [List.mem_cons,List.not_mem_nil,or_false] at hv
 rcases hv with rfl | rfl | rfl <;> exact sameN_int 3 _ _)
theorem smi5 (a b c d e:Int):sameVal 5 (.agg ⟨[.int .i64 a,.int .i64 b,.int .i64 c,.int .i64 d,.int .i64 e]⟩) (.agg ⟨[.int .i64 a,.int .i64 b,.int .i64 c,.int .i64 d,.int .i64 e]⟩)=true:=same_agg _ (by
 intro v hv
 simp only [List.mem_cons,List.not_mem_nil,or_false] at hv
 rcases hv with rfl | rfl | rfl | rfl | rfl <;> exact sameN_int 3 _ _)
theorem same_rows {α:Type} {f:α→List Value} {w:AW} {v:Value} {l:List α} (h:RowsV f w v l):sameVal 5 v v=true:=by
 obtain ⟨x,y,e⟩:=h.len
 rw [e]; exact same_slice _ _ _
theorem same_rows2 {α:Type} {f:α→List Value} {w:AW} {v:Value} {l:List (List α)} (h:Rows2 f w v l):sameVal 5 v v=true:=by
 obtain ⟨x,y,e⟩:=h.len
 rw [e]; exact same_slice _ _ _
def hnC (h:HHd) (gv:Value):List Value:=[.int .i64 h.vs,.int .i64 h.fr,.int .i64 h.to,.int .i64 h.ra,.int .i64 h.da,gv]
def S72:PSpec where
 R args w v:=∃ (h:HHd) (gv:Value) (vs:List HVn) (x:HVn) (ho:Int) (k:Nat),args=[.agg ⟨hnC h gv⟩,.int .i64 ho,.int .i64 (k:Nat)]∧RowsV vnC w gv vs∧vs[k]?=some x∧v=.bool (canH h x ho (k:Nat))
 uniq:=by
  rintro _ _ _ _ ⟨⟨a,b,c,d,e⟩,gv,vs,x,ho,k,rfl,h1,h2,rfl⟩ ⟨⟨a',b',c',d',e'⟩,gv',vs',x',ho',k',h,h3,h4,rfl⟩
  simp only [hnC,List.cons.injEq,and_true,Value.agg.injEq,Array.mk.injEq,Value.int.injEq,true_and] at h
  obtain ⟨⟨rfl,rfl,rfl,rfl,rfl,rfl⟩,rfl,hk⟩:=h
  have:=Int.ofNat.inj hk; subst this
  have:=h1.uniq (m:=3) vnC_length vnC_inj h3; subst this
  rw [h2] at h4; cases h4; rfl
 shut h:=h
theorem run72 {ov:Ov} (ho:∀ args w,ov 72 args w=none) (h87:HasP ov 87 S70.F) (h:HHd) (gv:Value) (vs:List HVn) (x:HVn) (hour:Int) (k:Nat) (w:AW) (hl:w.lim=w.next) (hg:RowsV vnC w gv vs) (hx:vs[k]?=some x):∃ v w',(run Try.prog ov 2).call 72 [.agg ⟨hnC h gv⟩,.int .i64 hour,.int .i64 (k:Nat)] w .none=.ok (.ret v) w' .none∧v=.bool (canH h x hour (k:Nat)):=by
 refine call_wp text72 (by simp) (ho _ _) ?_
 have u1:Up w ⟨w.heap.put w.next (some (.cells (hnC h gv) 87 false)),w.next + 1,w.lim⟩:=(Up.refl w).add _
 have gj:notJunk gv=some gv:=by obtain ⟨x,y,rfl⟩:=hg.len; rfl
 obtain ⟨p,hia,hld,_,hpb⟩:=getR un22 sz65 vnC_length hg rfl hx
 have r87:=fun w=>S70.call1 (P:=Try.prog) h87 (w:=w) ⟨h.vs,(k:Nat),rfl,Int.natCast_nonneg k,rfl⟩
 obtain ⟨a1,a2,a3⟩:=x
 simp only [vnC] at hld
 have hle:w.lim≤w.next + 1:=by omega
 have ne1:¬ p.block=w.next:=by omega
 have ne2:¬ p.block=w.next + 1:=by omega
 simp only [hnC]
 simp only [canH]
 cases k0:bitB h.vs (k:Nat) with
 | false =>
  rw [k0] at r87
  simp [mc72,cellsOf_agg,gj,hia,hld,ne1,ne2,hle,r87,tupV]
 | true =>
  rw [k0] at r87
  by_cases k1:h.fr≤hour
  ·by_cases k2:hour≤h.to
   ·by_cases k3:a1≤hour
    ·simp [mc72,cellsOf_agg,gj,hia,hld,ne1,ne2,hle,r87,k1,k2,k3,tupV]
    ·simp [mc72,cellsOf_agg,gj,hia,hld,ne1,ne2,hle,r87,k1,k2,k3,tupV]
   ·simp [mc72,cellsOf_agg,gj,hia,hld,ne1,ne2,hle,r87,k1,k2,tupV]
  ·simp [mc72,cellsOf_agg,gj,hia,hld,ne1,ne2,hle,r87,k1,tupV]
theorem can_inH (h:HHd) (x:HVn) (ho k:Int):canH h x ho k=(bitB h.vs k && inH (max h.fr x.fr) ho (min h.to x.to)):=by
 unfold canH inH
 cases bitB h.vs k with
 | false=>rfl
 | true =>
  rw [Bool.eq_iff_iff]
  simp only [Bool.true_and,Bool.and_eq_true,decide_eq_true_eq]
  omega
theorem inH0 (z:Int) (n:Nat):inH 0 z ((n:Int) - 1)=decide (0≤z∧z < (n:Int)):=by
 rw [Bool.eq_iff_iff]; simp [inH]; omega
theorem jobB_eq (nv nh M:Nat) (j:HJb):jobB nv nh M j=(inH 0 j.mo ((M:Int) - 1) && (inH 0 j.ha ((nh:Int) - 1) && inH 0 j.vi ((nv:Int) - 1))):=by
 rw [inH0,inH0,inH0,Bool.eq_iff_iff]
 simp only [jobB,Bool.and_eq_true,decide_eq_true_eq]
 omega
def S98:PSpec where
 R args w v:=∃ (vv hv fv:Value) (vs:List HVn) (hs:List HHd) (fs:List (List (Int × Int))) (j:HJb),args=[.agg ⟨[vv,hv,fv]⟩,.agg ⟨jbC j⟩]∧SeaV w vv hv fv vs hs fs∧vs.length≤6∧hs.length≤6∧fs.length≤6∧v=.bool (jobB vs.length hs.length fs.length j)
 uniq:=by
  rintro _ _ _ _ ⟨a,b,c,vs,hs,fs,j,rfl,h1,_,_,_,rfl⟩ ⟨a',b',c',vs',hs',fs',j',e,k1,_,_,_,rfl⟩
  simp only [List.cons.injEq,and_true,Value.agg.injEq,Array.mk.injEq,true_and] at e
  obtain ⟨⟨rfl,rfl,rfl⟩,e1⟩:=e
  obtain ⟨rfl,rfl,rfl⟩:=h1.uniq k1
  rw [jbC_inj _ _ e1]
 shut:=by rintro _ _ _ ⟨a,b,c,vs,hs,fs,j,e,h1,h2⟩; exact ⟨a,b,c,vs,hs,fs,j,e,⟨h1.v,h1.h,h1.f⟩,h2⟩
theorem run98 {ov:Ov} (ho':∀ args w,ov 98 args w=none) (h74:HasP ov 74 S74.F) (vv hv fv:Value) (vs:List HVn) (hs:List HHd) (fs:List (List (Int × Int))) (j:HJb) (w:AW) (hl:w.lim=w.next) (hS:SeaV w vv hv fv vs hs fs) (b1:vs.length≤6) (b2:hs.length≤6) (b3:fs.length≤6):∃ v w',(run Try.prog ov 2).call 98 [.agg ⟨[vv,hv,fv]⟩,.agg ⟨jbC j⟩] w .none=.ok (.ret v) w' .none∧v=.bool (jobB vs.length hs.length fs.length j):=by
 refine call_wp text98 (by simp) (ho' _ _) ?_
 obtain ⟨nv,nh,nf⟩:=hS.nj
 have hl1:=fun w2=>len22V (w':=w2) hS.v
 have hl2:=fun w2=>len23V (w':=w2) hS.h
 have hl3:=fun w2=>len24V (w':=w2) hS.f
 have r74:=fun n a w=>S74.call1 (P:=Try.prog) h74 (w:=w) ⟨n,a,rfl,rfl⟩
 have e1:IntKind.wrap .i64 ((vs.length:Int) - 1)=(vs.length:Int) - 1:=wrap64_in (by omega) (by omega)
 have e2:IntKind.wrap .i64 ((hs.length:Int) - 1)=(hs.length:Int) - 1:=wrap64_in (by omega) (by omega)
 have e3:IntKind.wrap .i64 ((fs.length:Int) - 1)=(fs.length:Int) - 1:=wrap64_in (by omega) (by omega)
 rw [jobB_eq]
 obtain ⟨mo,hr,ha,vi,ma⟩:=j
 simp only [jbC]
 cases k1:inH 0 mo ((fs.length:Int) - 1) with
 | false=>simp [mc98,cellsOf_agg,nv,nh,nf,hl1,hl2,hl3,e1,e2,e3,r74,k1,tupV]
 | true =>
  cases k2:inH 0 ha ((hs.length:Int) - 1) with
  | false=>simp [mc98,cellsOf_agg,nv,nh,nf,hl1,hl2,hl3,e1,e2,e3,r74,k1,k2,tupV]
  | true=>simp [mc98,cellsOf_agg,nv,nh,nf,hl1,hl2,hl3,e1,e2,e3,r74,k1,k2,tupV]
def S81:PSpec where
 R args w v:=∃ (n:Int) (x:Value) (L:List Int),args=[.int .i64 n,x]∧RowsV intC w x L∧L.length≤10∧v=.int .i64 (L.foldl min n)
 uniq:=by
  rintro _ _ _ _ ⟨n,x,L,rfl,h1,_,rfl⟩ ⟨_,_,L',h,h2,_,rfl⟩
  cases h
  rw [h1.uniq (m:=1) intC_length intC_inj h2]
 shut h:=h
theorem run81 {ov:Ov} (ho:∀ args w,ov 81 args w=none) (n:Int) (x:Value) (L:List Int) (hL:L.length≤10) (w:AW) (hx:RowsV intC w x L):∃ v w',(run Try.prog ov 2).call 81 [.int .i64 n,x] w .none=.ok (.ret v) w' .none∧v=.int .i64 (L.foldl min n):=by
 refine call_wp text81 (by simp) (ho _ _) ?_
 have hl1:=fun w2=>len42V (w':=w2) hx
 simp [mc81,hl1]
 refine wp_seqX (wp_blockX (wp_rounds (fun i t w'=>w'=w∧tget t 0=.int .i64 ((L.take i).foldl min n)∧tget t 7=x∧tget t 8=.int .i64 (L.length:Nat)∧tget t 9=.int .i64 (i:Nat)∧i≤L.length) 20 (by decide) ⟨rfl,by simp,by simp,by simp,by simp,Nat.zero_le _⟩ ?_))
 rintro i t w' ⟨rfl,t0,t7,t8,t9,hi⟩
 by_cases hlt:i < L.length
 ·obtain ⟨z,hz⟩:=lt_get hlt
  obtain ⟨p,ia,_,ld,_⟩:=getR un42 sz3 intC_length hx rfl hz
  have ld:=ld 0 _ rfl
  simp only [Nat.add_zero] at ld
  have hw1:IntKind.wrap .i64 ((i:Int) + 1)=(i:Int) + 1:=wrap64_in (by omega) (by omega)
  have e:(L.take (i + 1)).foldl min n=min ((L.take i).foldl min n) z:=by
   rw [List.take_add_one,hz,List.foldl_append]; rfl
  simp [mc81_l0,t0,t7,t8,t9,hlt,ia,ld,hw1]
  exact ⟨by omega,e.symm,hlt⟩
 ·have hi':i=L.length:=by omega
  subst hi'
  rw [List.take_length] at t0
  simp [mc81_l0,t0,t8,t9,tupV]
theorem call93 {ov:Ov} (m:Nat) (ho:∀ args w,ov 93 args w=none) (j:HJb) (w:AW) (hl:w.lim≤w.next):∃ v w',(run Try.prog ov (m + 1)).call 93 [.agg ⟨jbC j⟩] w .none=.ok (.ret v) w' .none∧RowsV intC w' v [j.mo,j.ho,j.ha,j.vi]∧notJunk v=some v∧Up w w':=by
 refine call_wp text93 (by simp) (ho _ _) ?_
 obtain ⟨mo,hr,ha,vi,ma⟩:=j
 simp only [jbC]
 have u1:Up w ⟨(w.heap.put w.next (some (.cells (jbC ⟨mo,hr,ha,vi,ma⟩) 67 false))).put (w.next + 1) (some (.cells [.int .i64 mo,.int .i64 hr,.int .i64 ha,.int .i64 vi] 3 false)),w.next + 1 + 1,w.lim⟩:=((Up.refl w).add _).put (Nat.le_succ _) (Nat.le_succ _)
 simp [mc93,cellsOf_agg,tupV]
 refine ⟨.inr ⟨w.next + 1,0,some 2,4,rfl,⟨[],[],3,false,?_,rfl⟩,?_⟩,u1⟩
 ·show T.get (T.put _ _ _) _=_
  rw [get_put,if_pos rfl]; rfl
 ·show w.next + 1 < w.next + 1 + 1; omega
def lexH:List Int→List Int→Int
 | a::l,b::m=>if cmpH a b=0 then lexH l m else cmpH a b
 | _,_=>0
theorem cmpH_zero {a b:Int}:cmpH a b=0 ↔ a=b:=by
 unfold cmpH
 constructor
 ·intro h; split at h
  ·omega
  ·split at h <;> omega
 ·rintro rfl; rw [if_neg (by omega),if_neg (by omega)]
theorem lex_drop {L M:List Int} {i:Nat} {a b:Int} (h1:L[i]?=some a) (h2:M[i]?=some b):lexH (L.drop i) (M.drop i)=if cmpH a b=0 then lexH (L.drop (i + 1)) (M.drop (i + 1)) else cmpH a b:=by
 obtain ⟨k1,e1⟩:=List.getElem?_eq_some_iff.1 h1
 obtain ⟨k2,e2⟩:=List.getElem?_eq_some_iff.1 h2
 rw [List.drop_eq_getElem_cons k1,List.drop_eq_getElem_cons k2,e1,e2]
 rfl
theorem lex_cons (a b:Int) (l m:List Int):decide (lexH (a::l) (b::m) < 0)=(decide (a < b) || (decide (a=b) && decide (lexH l m < 0))):=by
 show decide ((if cmpH a b=0 then lexH l m else cmpH a b) < 0)=_
 by_cases h:a=b
 ·subst h; rw [if_pos (cmpH_zero.2 rfl)]; simp
 ·rw [if_neg (fun k=>h (cmpH_zero.1 k))]
  unfold cmpH
  by_cases h1:a < b
  ·rw [if_pos h1]; simp [h1]
  ·rw [if_neg h1,if_pos (by omega)]; simp [h1,h]
theorem lex_ltJ (a b:HJb):ltJ a b=decide (lexH [a.mo,a.ho,a.ha,a.vi] [b.mo,b.ho,b.ha,b.vi] < 0):=by
 rw [lex_cons,lex_cons,lex_cons,lex_cons]
 simp [ltJ,lexH]
def S92:PSpec where
 R args w v:=∃ (x y:Value) (L M:List Int),args=[x,y]∧RowsV intC w x L∧RowsV intC w y M∧L.length=M.length∧L.length≤10∧v=.int .i64 (lexH L M)
 uniq:=by
  rintro _ _ _ _ ⟨x,y,L,M,rfl,h1,h2,_,_,rfl⟩ ⟨_,_,L',M',h,k1,k2,_,_,rfl⟩
  cases h
  rw [h1.uniq (m:=1) intC_length intC_inj k1,h2.uniq (m:=1) intC_length intC_inj k2]
 shut h:=h
theorem run92 {ov:Ov} (ho:∀ args w,ov 92 args w=none) (h102:HasP ov 102 S102.F) (x y:Value) (L M:List Int) (hLM:L.length=M.length) (hL:L.length≤10) (w:AW) (hx:RowsV intC w x L) (hy:RowsV intC w y M):∃ v w',(run Try.prog ov 2).call 92 [x,y] w .none=.ok (.ret v) w' .none∧v=.int .i64 (lexH L M):=by
 refine call_wp text92 (by simp) (ho _ _) ?_
 have hl1:=fun w2=>len42V (w':=w2) hx
 have hl2:=fun w2=>len42V (w':=w2) hy
 have r102:=fun a b w=>S102.call1 (P:=Try.prog) h102 (w:=w) ⟨a,b,rfl,rfl⟩
 simp [mc92,hl1]
 refine wp_seqX (wp_blockX (wp_rounds (fun i t w'=>w'=w∧tget t 0=x∧tget t 1=y∧tget t 9=x∧tget t 10=.int .i64 (L.length:Nat)∧tget t 11=.int .i64 (i:Nat)∧i≤L.length∧lexH (L.drop i) (M.drop i)=lexH L M) 20 (by decide) ⟨rfl,by simp,by simp,by simp,by simp,by simp,Nat.zero_le _,by simp⟩ ?_))
 rintro i t w' ⟨rfl,t0,t1,t9,t10,t11,hi,he⟩
 by_cases hlt:i < L.length
 ·obtain ⟨z,hz⟩:=lt_get hlt
  obtain ⟨u,hu⟩:=lt_get (show i < M.length by omega)
  obtain ⟨p,ia,_,ld,_⟩:=getR un42 sz3 intC_length hx rfl hz
  obtain ⟨q,ib,_,le,_⟩:=getR un42 sz3 intC_length hy rfl hu
  have ld:=ld 0 _ rfl
  have le:=le 0 _ rfl
  simp only [Nat.add_zero] at ld le
  rw [lex_drop hz hu] at he
  have hw1:IntKind.wrap .i64 ((i:Int) + 1)=(i:Int) + 1:=wrap64_in (by omega) (by omega)
  have hlt2:i < M.length:=by omega
  have hge:¬ (M.length:Int)≤(i:Int):=by omega
  have hge':¬ M.length≤i:=by omega
  by_cases k:cmpH z u=0
  ·rw [if_pos k] at he
   simp [mc92_l0,t0,t1,t9,t10,t11,hlt,hl2,hge,hge',ia,ld,ib,le,r102,k,hw1]
   exact ⟨by omega,hlt,he⟩
  ·rw [if_neg k] at he
   rw [← he]
   simp [mc92_l0,t0,t1,t9,t10,t11,hlt,hl2,hge,hge',ia,ld,ib,le,r102,k,hw1,tupV]
 ·have hi':i=L.length:=by omega
  have e0:lexH L M=0:=by
   rw [← he,List.drop_eq_nil_of_le (by omega),List.drop_eq_nil_of_le (by omega)]; rfl
  have hn:¬ (L.length:Int) < (M.length:Int):=by omega
  have hn':¬ L.length < M.length:=by omega
  simp [mc92_l0,t0,t1,t10,t11,hi',hl1,hl2,hn,hn',e0,tupV]
abbrev Sf:Type:=Int × Int × Int
def shC (k:Sf):Value:=.agg ⟨[.int .i64 k.1,.int .i64 k.2.1,.int .i64 k.2.2]⟩
def inV (z:Int):Value:=.int .i64 z
theorem sh_ok:KeyOk (true,[0,0,0]) shC:=by
 refine ⟨fun a=>rfl,fun a b=>?_⟩
 obtain ⟨a1,a2,a3⟩:=a
 obtain ⟨b1,b2,b3⟩:=b
 by_cases h1:a1=b1 <;> by_cases h2:a2=b2 <;> by_cases h3:a3=b3 <;> simp [shC,eqFlat,flatCells,sameL,same1,sameInt,sameK_refl,intEq_eq,h1,h2,h3]
theorem map149:mapOf Try.prog 149=some (3,(true,[0,0,0])):=by kernel_rfl
theorem zero3:zeroA Try.prog 3=some (.int .i64 0):=by kernel_rfl
noncomputable def mc99_r2:MC:=.seq (.seq (.ops [⟨true,none,some 43,149,.move (.tmp 0)⟩]) (.seq (.ops [⟨true,none,some 44,157,.load 157 (.tmp 6)⟩]) (.seq (.ops [⟨true,none,some 45,3,.lookup 149 (.tmp 43) (.tmp 44) false⟩]) (.seq (.ops [⟨true,none,some 46,0,.fieldAddr 67 (.tmp 3) 4⟩]) (.seq (.ops [⟨true,none,some 47,3,.load 3 (.tmp 46)⟩]) (.seq (.ops [⟨true,none,some 48,3,.binOp .sub 3 (.tmp 45) (.tmp 47) 3⟩]) (.seq (.ops [⟨false,none,some 49,0,.mapEntry 149 (.tmp 43) (.tmp 44)⟩]) (.seq (.ops [⟨true,none,some 50,3,.extract (.tmp 49) 1⟩]) (.seq (.chk [⟨true,none,some 45,3,.lookup 149 (.tmp 43) (.tmp 44) false⟩]) (.seq (.ops [⟨false,none,none,0,.entryStore 149 (.tmp 43) (.tmp 50) (.tmp 48)⟩]) (.chk []))))))))))) (.seq (.ops [⟨false,none,some 4,4,.assign (.const (.bool true))⟩]) (.ret))
noncomputable def mc99_r1:MC:=.seq (.seq (.ops [⟨true,none,some 35,149,.move (.tmp 0)⟩]) (.seq (.ops [⟨true,none,some 36,157,.load 157 (.tmp 5)⟩]) (.seq (.ops [⟨true,none,some 37,3,.lookup 149 (.tmp 35) (.tmp 36) false⟩]) (.seq (.ops [⟨true,none,some 38,0,.fieldAddr 67 (.tmp 3) 4⟩]) (.seq (.ops [⟨true,none,some 39,3,.load 3 (.tmp 38)⟩]) (.seq (.ops [⟨true,none,some 40,3,.binOp .sub 3 (.tmp 37) (.tmp 39) 3⟩]) (.seq (.ops [⟨false,none,some 41,0,.mapEntry 149 (.tmp 35) (.tmp 36)⟩]) (.seq (.ops [⟨true,none,some 42,3,.extract (.tmp 41) 1⟩]) (.seq (.chk [⟨true,none,some 37,3,.lookup 149 (.tmp 35) (.tmp 36) false⟩]) (.seq (.ops [⟨false,none,none,0,.entryStore 149 (.tmp 35) (.tmp 42) (.tmp 40)⟩]) (.chk []))))))))))) mc99_r2
theorem mc99_eq:mc99=.seq (.ops [⟨false,none,some 3,0,.box 67 (.tmp 1)⟩,⟨false,none,some 4,4,.assign (.const (.bool false))⟩]) (.seq (.seq (.ops [⟨true,none,some 7,0,.fieldAddr 67 (.tmp 3) 0⟩]) (.seq (.ops [⟨true,none,some 8,3,.load 3 (.tmp 7)⟩]) (.seq (.ops [⟨true,none,some 9,0,.fieldAddr 67 (.tmp 3) 2⟩]) (.seq (.ops [⟨true,none,some 10,3,.load 3 (.tmp 9)⟩]) (.seq (.ops [⟨true,none,some 11,157,.build 157 #[(0,.tmp 8),(1,.tmp 10),(2,.const (.int .i64 (-1)))]⟩]) (.seq (.ops [⟨true,none,some 12,0,.fieldAddr 67 (.tmp 3) 0⟩]) (.seq (.ops [⟨true,none,some 13,3,.load 3 (.tmp 12)⟩]) (.seq (.ops [⟨true,none,some 14,0,.fieldAddr 67 (.tmp 3) 2⟩]) (.seq (.ops [⟨true,none,some 15,3,.load 3 (.tmp 14)⟩]) (.seq (.ops [⟨true,none,some 16,0,.fieldAddr 67 (.tmp 3) 1⟩]) (.seq (.ops [⟨true,none,some 17,3,.load 3 (.tmp 16)⟩]) (.seq (.ops [⟨true,none,some 18,157,.build 157 #[(0,.tmp 13),(1,.tmp 15),(2,.tmp 17)]⟩]) (.seq (.ops [⟨true,none,some 5,0,.alloc 157⟩]) (.seq (.ops [⟨true,none,some 6,0,.alloc 157⟩]) (.seq (.chk [⟨true,none,some 17,3,.load 3 (.tmp 16)⟩,⟨true,none,some 15,3,.load 3 (.tmp 14)⟩,⟨true,none,some 13,3,.load 3 (.tmp 12)⟩,⟨true,none,some 10,3,.load 3 (.tmp 9)⟩,⟨true,none,some 8,3,.load 3 (.tmp 7)⟩]) (.seq (.ops [⟨false,none,none,0,.store 157 (.tmp 5) (.tmp 11)⟩]) (.seq (.chk [⟨true,none,some 17,3,.load 3 (.tmp 16)⟩,⟨true,none,some 15,3,.load 3 (.tmp 14)⟩,⟨true,none,some 13,3,.load 3 (.tmp 12)⟩]) (.seq (.ops [⟨false,none,none,0,.store 157 (.tmp 6) (.tmp 18)⟩]) (.chk []))))))))))))))))))) (.seq (.seq (.seq (.ops [⟨true,none,some 19,0,.fieldAddr 67 (.tmp 3) 4⟩]) (.seq (.ops [⟨true,none,some 20,3,.load 3 (.tmp 19)⟩]) (.seq (.ops [⟨true,none,some 21,4,.binOp .lss 3 (.tmp 20) (.const (.int .i64 1)) 3⟩]) (.seq (.ops [⟨true,none,some 22,4,.move (.tmp 21)⟩]) (.seq (.ops [⟨true,some (22,false),some 23,0,.fieldAddr 67 (.tmp 3) 4⟩]) (.seq (.ops [⟨true,some (22,false),some 24,3,.load 3 (.tmp 23)⟩]) (.seq (.ops [⟨true,some (22,false),some 25,149,.move (.tmp 0)⟩]) (.seq (.ops [⟨true,some (22,false),some 26,157,.load 157 (.tmp 5)⟩]) (.seq (.ops [⟨true,some (22,false),some 27,3,.lookup 149 (.tmp 25) (.tmp 26) false⟩]) (.seq (.ops [⟨true,some (22,false),some 28,149,.move (.tmp 0)⟩]) (.seq (.ops [⟨true,some (22,false),some 29,157,.load 157 (.tmp 6)⟩]) (.seq (.ops [⟨true,some (22,false),some 30,3,.lookup 149 (.tmp 28) (.tmp 29) false⟩]) (.seq (.ops [⟨true,some (22,false),some 31,42,.buildSlice 42 1 #[(0,.tmp 30)]⟩]) (.seq (.chk [⟨true,some (22,false),some 30,3,.lookup 149 (.tmp 28) (.tmp 29) false⟩,⟨true,some (22,false),some 29,157,.load 157 (.tmp 6)⟩,⟨true,some (22,false),some 27,3,.lookup 149 (.tmp 25) (.tmp 26) false⟩,⟨true,some (22,false),some 26,157,.load 157 (.tmp 5)⟩,⟨true,some (22,false),some 24,3,.load 3 (.tmp 23)⟩,⟨true,none,some 20,3,.load 3 (.tmp 19)⟩]) (.seq (.ops [⟨false,some (22,false),some 32,3,.call ⟨.value (.func 81),#[.tmp 27,.tmp 31],#[3,42]⟩⟩]) (.seq (.ops [⟨true,some (22,false),some 33,4,.binOp .gtr 3 (.tmp 24) (.tmp 32) 3⟩]) (.seq (.ops [⟨true,none,some 34,4,.pick (.tmp 22) (.const (.bool true)) (.tmp 33)⟩]) (.chk [⟨true,some (22,false),some 24,3,.load 3 (.tmp 23)⟩])))))))))))))))))) (.cond (.tmp 34) (.seq (.ops [⟨false,none,some 4,4,.assign (.const (.bool false))⟩]) (.ret)) (.skip))) mc99_r1)):=rfl
section
variable {ov:Ov} {km B3 B5 B6:Nat} {j:HJb}
structure Mk (km:Nat) (w w':AW):Prop where
 keep:∀ b,b ≠ km→w'.heap.get b=w.heap.get b
 next:w'.next=w.next
 lim:w'.lim=w.lim
theorem updK_same {α β:Type} [DecidableEq α] {k:α} {v:β}:∀ {L:List (α × β)},lookK L k=some v→updK L k v=L
 | [],h=>by simp at h
 | p::L,h=>by
  rw [lookK_cons] at h
  unfold updK
  by_cases e:k=p.1
  ·rw [if_pos e] at h ⊢
   cases h; rfl
  ·rw [if_neg e] at h ⊢
   rw [updK_same h]
theorem part99b (M:Nat) {L:List (Sf × Int)} (t:Tm) (w:AW) (hm:MapAt shC inV w km L) (hl:w.lim≤km) (t0:tget t 0=.map (some km)) (t3:tget t 3=.pointer (some ⟨B3,0,none⟩)) (t6:tget t 6=.pointer (some ⟨B6,0,none⟩)) (g3:w.heap.get B3=some (.cells (jbC j) 67 false)) (g6:w.heap.get B6=some (.cells [.int .i64 j.mo,.int .i64 j.ha,.int .i64 j.ho] 157 false)) (n3:¬ B3=km) (n6:¬ B6=km) {x:Int} (hk:lookK L (j.mo,j.ha,j.ho)=some x) (hx:IntKind.wrap .i64 (x - j.ma)=x - j.ma) (Q:Ex→Tm→AW→Prop)
  (hQ:∀ t w',tget t 4=.bool true→Mk km w w'→MapAt shC inV w' km (updK L (j.mo,j.ha,j.ho) (x - j.ma))→Q .ret t w'):wp (exM Try.prog (run Try.prog ov M) mc99_r2 t w) Q:=by
 have hlk:=lookup_k (P:=Try.prog) (s:=149) map149 sh_ok zero3 hm (j.mo,j.ha,j.ho) false
 rw [hk] at hlk
 have he:=entry_k (P:=Try.prog) (s:=149) (z:=(0:Int)) map149 sh_ok zero3 hm hl (j.mo,j.ha,j.ho)
 rw [hk,Option.getD_some,updK_same hk] at he
 have hm2:MapAt shC inV ⟨w.heap.put km (some (.map (entsK shC inV 0 L) L.length)),w.next,w.lim⟩ km L:=by
  unfold MapAt
  show (w.heap.put km _).get km=_
  rw [get_put,if_pos rfl]
 have hlk2:=lookup_k (P:=Try.prog) (s:=149) map149 sh_ok zero3 hm2 (j.mo,j.ha,j.ho) false
 rw [hk] at hlk2
 have hst:=store_k hm2 hl (j.mo,j.ha,j.ho) (x - j.ma) (by rw [hk]; rfl)
 obtain ⟨mo,ho,ha,vi,ma⟩:=j
 simp only [jbC] at g3
 have hlk:lookupA Try.prog w 149 (.map (some km)) (.agg ⟨[.int .i64 mo,.int .i64 ha,.int .i64 ho]⟩) false=.val (.int .i64 x) w:=hlk
 have he:mapEntryA Try.prog w 149 (.map (some km)) (.agg ⟨[.int .i64 mo,.int .i64 ha,.int .i64 ho]⟩)=.val (.tuple ⟨[.int .i64 x,.int .i64 (posN L (mo,ha,ho):Nat)]⟩) ⟨w.heap.put km (some (.map (entsK shC inV 0 L) L.length)),w.next,w.lim⟩:=he
 have hlk2:lookupA Try.prog ⟨w.heap.put km (some (.map (entsK shC inV 0 L) L.length)),w.next,w.lim⟩ 149 (.map (some km)) (.agg ⟨[.int .i64 mo,.int .i64 ha,.int .i64 ho]⟩) false=.val (.int .i64 x) ⟨w.heap.put km (some (.map (entsK shC inV 0 L) L.length)),w.next,w.lim⟩:=hlk2
 have hst:entryStoreA ⟨w.heap.put km (some (.map (entsK shC inV 0 L) L.length)),w.next,w.lim⟩ (.map (some km)) (.int .i64 (posN L (mo,ha,ho):Nat)) (.int .i64 (x - ma))=.val undef ⟨(w.heap.put km (some (.map (entsK shC inV 0 L) L.length))).put km (some (.map (entsK shC inV 0 (updK L (mo,ha,ho) (x - ma))) (updK L (mo,ha,ho) (x - ma)).length)),w.next,w.lim⟩:=hst
 simp only at g6 hx
 simp [mc99_r2,t0,t3,t6,g3,g6,n3,n6,hlk,hx,he,hlk2,hst]
 refine hQ _ _ (by simp) ⟨fun b hb=>?_,rfl,rfl⟩ ?_
 ·simp [hb]
 ·unfold MapAt
  simp
theorem part99a (M:Nat) {L:List (Sf × Int)} (t:Tm) (w:AW) (hm:MapAt shC inV w km L) (hl:w.lim≤km) (t0:tget t 0=.map (some km)) (t3:tget t 3=.pointer (some ⟨B3,0,none⟩)) (t5:tget t 5=.pointer (some ⟨B5,0,none⟩)) (t6:tget t 6=.pointer (some ⟨B6,0,none⟩)) (g3:w.heap.get B3=some (.cells (jbC j) 67 false)) (g5:w.heap.get B5=some (.cells [.int .i64 j.mo,.int .i64 j.ha,.int .i64 (-1)] 157 false)) (g6:w.heap.get B6=some (.cells [.int .i64 j.mo,.int .i64 j.ha,.int .i64 j.ho] 157 false)) (n3:¬ B3=km) (n5:¬ B5=km) (n6:¬ B6=km) {x y:Int} (hk:lookK L (j.mo,j.ha, -1)=some x) (hx:IntKind.wrap .i64 (x - j.ma)=x - j.ma) (hk2:lookK L (j.mo,j.ha,j.ho)=some y) (hy:IntKind.wrap .i64 (y - j.ma)=y - j.ma) (h1:j.ho ≠ -1) (Q:Ex→Tm→AW→Prop)
  (hQ:∀ t w',tget t 4=.bool true→Mk km w w'→MapAt shC inV w' km (updK (updK L (j.mo,j.ha, -1) (x - j.ma)) (j.mo,j.ha,j.ho) (y - j.ma))→Q .ret t w'):wp (exM Try.prog (run Try.prog ov M) mc99_r1 t w) Q:=by
 have hlk:=lookup_k (P:=Try.prog) (s:=149) map149 sh_ok zero3 hm (j.mo,j.ha, -1) false
 rw [hk] at hlk
 have he:=entry_k (P:=Try.prog) (s:=149) (z:=(0:Int)) map149 sh_ok zero3 hm hl (j.mo,j.ha, -1)
 rw [hk,Option.getD_some,updK_same hk] at he
 have hm2:MapAt shC inV ⟨w.heap.put km (some (.map (entsK shC inV 0 L) L.length)),w.next,w.lim⟩ km L:=by
  unfold MapAt
  show (w.heap.put km _).get km=_
  rw [get_put,if_pos rfl]
 have hlk2:=lookup_k (P:=Try.prog) (s:=149) map149 sh_ok zero3 hm2 (j.mo,j.ha, -1) false
 rw [hk] at hlk2
 have hst:=store_k hm2 hl (j.mo,j.ha, -1) (x - j.ma) (by rw [hk]; rfl)
 have key:=fun t' w'=>part99b (ov:=ov) (km:=km) (B3:=B3) (B6:=B6) (j:=j) (L:=updK L (j.mo,j.ha, -1) (x - j.ma)) M t' w'
 have hne:¬ ((j.mo,j.ha,j.ho):Sf)=(j.mo,j.ha, -1):=fun e=>h1 (by injection e with _ e; injection e)
 have hl2:lookK (updK L (j.mo,j.ha, -1) (x - j.ma)) (j.mo,j.ha,j.ho)=some y:=by rw [lookK_upd,if_neg hne,hk2]
 have g3':=g3
 obtain ⟨mo,ho,ha,vi,ma⟩:=j
 simp only [jbC] at g3'
 have hlk:lookupA Try.prog w 149 (.map (some km)) (.agg ⟨[.int .i64 mo,.int .i64 ha,.int .i64 (-1)]⟩) false=.val (.int .i64 x) w:=hlk
 have he:mapEntryA Try.prog w 149 (.map (some km)) (.agg ⟨[.int .i64 mo,.int .i64 ha,.int .i64 (-1)]⟩)=.val (.tuple ⟨[.int .i64 x,.int .i64 (posN L (mo,ha, -1):Nat)]⟩) ⟨w.heap.put km (some (.map (entsK shC inV 0 L) L.length)),w.next,w.lim⟩:=he
 have hlk2:lookupA Try.prog ⟨w.heap.put km (some (.map (entsK shC inV 0 L) L.length)),w.next,w.lim⟩ 149 (.map (some km)) (.agg ⟨[.int .i64 mo,.int .i64 ha,.int .i64 (-1)]⟩) false=.val (.int .i64 x) ⟨w.heap.put km (some (.map (entsK shC inV 0 L) L.length)),w.next,w.lim⟩:=hlk2
 have hst:entryStoreA ⟨w.heap.put km (some (.map (entsK shC inV 0 L) L.length)),w.next,w.lim⟩ (.map (some km)) (.int .i64 (posN L (mo,ha, -1):Nat)) (.int .i64 (x - ma))=.val undef ⟨(w.heap.put km (some (.map (entsK shC inV 0 L) L.length))).put km (some (.map (entsK shC inV 0 (updK L (mo,ha, -1) (x - ma))) (updK L (mo,ha, -1) (x - ma)).length)),w.next,w.lim⟩:=hst
 simp only at g5 hx
 simp [mc99_r1,t0,t3,t5,g3',g5,n3,n5,hlk,hx,he,hlk2,hst]
 refine key _ _ ?_ ?_ ?_ ?_ ?_ ?_ ?_ n3 n6 hl2 hy _ ?_
 ·unfold MapAt; simp
 ·exact hl
 ·simp [t0]
 ·simp [t3]
 ·simp [t6]
 ·simp [n3,g3]
 ·simp [n6,g6]
 ·intro t w' t4 hM hm'
  refine hQ t w' t4 ⟨fun b hb=>?_,hM.next,hM.lim⟩ hm'
  rw [hM.keep b hb]
  simp [hb]
end
structure Kb (S:Nat→Prop) (w w':AW):Prop where
 keep:∀ b,b < w.next→¬ S b→w'.heap.get b=w.heap.get b
 next:w.next≤w'.next
 lim:w'.lim=w.lim
theorem Kb.of {S:Nat→Prop} {w w':AW} (h:Up w w'):Kb S w w':=⟨fun b hb _=>h.at hb,h.next,h.lim⟩
theorem Kb.trans {S:Nat→Prop} {a b c:AW} (h:Kb S a b) (k:Kb S b c):Kb S a c:=⟨fun x hx hn=>(k.keep x (Nat.lt_of_lt_of_le hx h.next) hn).trans (h.keep x hx hn),Nat.le_trans h.next k.next,k.lim.trans h.lim⟩
theorem Kb.mk' {km:Nat} {w w':AW} (h:Mk km w w'):Kb (fun x=>x=km) w w':=⟨fun b _ hn=>h.keep b hn,by rw [h.next]; exact Nat.le_refl _,h.lim⟩
theorem mapAt_up {α β:Type} {kC:α→Value} {vC:β→Value} {w w':AW} {b:Nat} {L:List (α × β)} (h:MapAt kC vC w b L) (k:Up w w') (hb:b < w.next):MapAt kC vC w' b L:=by
 unfold MapAt; rw [k.at hb]; exact h
def tkB (j:HJb) (x y:Int):Bool:=decide (1≤j.ma) && decide (j.ma≤min x y)
set_option maxHeartbeats 1000000 in
theorem call99 {ov:Ov} (m:Nat) (ho:∀ args w,ov 99 args w=none) (h81:HasP ov 81 S81.F) {km:Nat} {L:List (Sf × Int)} (j:HJb) (w:AW) (hm:MapAt shC inV w km L) (hk0:km < w.next) (hlk0:w.lim≤km) {x y:Int} (hk:lookK L (j.mo,j.ha, -1)=some x) (hk2:lookK L (j.mo,j.ha,j.ho)=some y) (hx:0≤x∧x≤1000) (hy:0≤y∧y≤1000) (h1:j.ho ≠ -1) :
  ∃ v w',(run Try.prog ov (m + 2)).call 99 [.map (some km),.agg ⟨jbC j⟩] w .none=.ok (.ret v) w' .none∧v=.bool (tkB j x y)∧Kb (fun b=>b=km) w w'∧MapAt shC inV w' km (if tkB j x y=true then updK (updK L (j.mo,j.ha, -1) (x - j.ma)) (j.mo,j.ha,j.ho) (y - j.ma) else L):=by
 refine call_wp text99 (by simp) (ho _ _) ?_
 rw [mc99_eq]
 obtain ⟨w1,hw1⟩:∃ w1:AW,w1=⟨((((w.heap.put w.next (some (.cells (jbC j) 67 false))).put (w.next + 1) (some (.cells [.int .i64 0,.int .i64 0,.int .i64 0] 157 false))).put (w.next + 1 + 1) (some (.cells [.int .i64 0,.int .i64 0,.int .i64 0] 157 false))).put (w.next + 1) (some (.cells [.int .i64 j.mo,.int .i64 j.ha,.int .i64 (-1)] 157 false))).put (w.next + 1 + 1) (some (.cells [.int .i64 j.mo,.int .i64 j.ha,.int .i64 j.ho] 157 false)),w.next + 1 + 1 + 1,w.lim⟩:=⟨_,rfl⟩
 have u1:Up w w1:=by rw [hw1]; exact (((((Up.refl w).add _).put (Nat.le_succ _) (Nat.le_succ _)).put (by omega) (Nat.le_succ _)).put (by omega) (Nat.le_refl _)).put (by omega) (Nat.le_refl _)
 have g3:w1.heap.get w.next=some (.cells (jbC j) 67 false):=by rw [hw1]; simp
 have g5:w1.heap.get (w.next + 1)=some (.cells [.int .i64 j.mo,.int .i64 j.ha,.int .i64 (-1)] 157 false):=by rw [hw1]; simp
 have g6:w1.heap.get (w.next + 1 + 1)=some (.cells [.int .i64 j.mo,.int .i64 j.ha,.int .i64 j.ho] 157 false):=by rw [hw1]; simp
 have n1:w1.next=w.next + 1 + 1 + 1:=by rw [hw1]
 have l1:w1.lim=w.lim:=u1.lim
 have hm1:MapAt shC inV w1 km L:=mapAt_up hm u1 hk0
 have u2:Up w1 ⟨w1.heap.put w1.next (some (.cells [.int .i64 y] 3 false)),w1.next + 1,w1.lim⟩:=(Up.refl _).add _
 have hm2:=mapAt_up hm1 u2 (by omega)
 have q1:=lookup_k (P:=Try.prog) (s:=149) map149 sh_ok zero3 hm1 (j.mo,j.ha, -1) false
 have q2:=lookup_k (P:=Try.prog) (s:=149) map149 sh_ok zero3 hm1 (j.mo,j.ha,j.ho) false
 have q3:=lookup_k (P:=Try.prog) (s:=149) map149 sh_ok zero3 hm2 (j.mo,j.ha, -1) false
 have q4:=lookup_k (P:=Try.prog) (s:=149) map149 sh_ok zero3 hm2 (j.mo,j.ha,j.ho) false
 rw [hk] at q1 q3
 rw [hk2] at q2 q4
 have hrow:RowsV intC ⟨w1.heap.put w1.next (some (.cells [.int .i64 y] 3 false)),w1.next + 1,w1.lim⟩ (.slice (some ⟨w1.next,0,some 2⟩) 1 1) [y] :=
  .inr ⟨w1.next,0,some 2,1,rfl,⟨[],[],3,false,by show (w1.heap.put w1.next _).get w1.next=_; rw [get_put,if_pos rfl]; rfl,rfl⟩,by show w1.next < w1.next + 1; omega⟩
 have r81:=S81.call (P:=Try.prog) h81 (m:=m) (w:=⟨w1.heap.put w1.next (some (.cells [.int .i64 y] 3 false)),w1.next + 1,w1.lim⟩) ⟨x,_,[y],rfl,hrow,by simp,rfl⟩
 have fin:∀ t w' (Q:Ex→Tm→AW→Prop),Up w1 w'→tget t 0=.map (some km)→tget t 3=.pointer (some ⟨w.next,0,none⟩)→tget t 5=.pointer (some ⟨w.next + 1,0,none⟩)→tget t 6=.pointer (some ⟨w.next + 1 + 1,0,none⟩)→j.ma≤min x y→1≤j.ma→(∀ t w2,tget t 4=.bool true→Kb (fun b=>b=km) w w2→MapAt shC inV w2 km (updK (updK L (j.mo,j.ha, -1) (x - j.ma)) (j.mo,j.ha,j.ho) (y - j.ma))→Q .ret t w2)→wp (exM Try.prog (run Try.prog ov (m + 1)) mc99_r1 t w') Q:=by
  intro t w' Q u t0 t3 t5 t6 hle1 hle2 hQ
  have i1:j.ma≤x:=by omega
  have i2:j.ma≤y:=by omega
  refine part99a (km:=km) (j:=j) (L:=L) (B3:=w.next) (B5:=w.next + 1) (B6:=w.next + 1 + 1) (m + 1) t w' (mapAt_up hm1 u (by omega)) (by rw [u.lim,l1]; exact hlk0) t0 t3 t5 t6 ?_ ?_ ?_ (by omega) (by omega) (by omega) hk (wrap64_in (by omega) (by omega)) hk2 (wrap64_in (by omega) (by omega)) h1 Q ?_
  ·rw [u.at (by omega)]; exact g3
  ·rw [u.at (by omega)]; exact g5
  ·rw [u.at (by omega)]; exact g6
  ·intro t w2 t4 hM hm3
   exact hQ t w2 t4 ((Kb.of (u1.trans u)).trans (Kb.mk' hM)) hm3
 have kb1:Kb (fun b=>b=km) w w1:=.of u1
 have kb2:Kb (fun b=>b=km) w ⟨w1.heap.put w1.next (some (.cells [.int .i64 y] 3 false)),w1.next + 1,w1.lim⟩:=.of (u1.trans u2)
 have hle:w.lim≤w.next:=by omega
 have hle1:w.lim≤w.next + 1:=by omega
 have hle2:w.lim≤w.next + 1 + 1:=by omega
 obtain ⟨mo,ho,ha,vi,ma⟩:=j
 have q1:lookupA Try.prog w1 149 (.map (some km)) (.agg ⟨[.int .i64 mo,.int .i64 ha,.int .i64 (-1)]⟩) false=.val (.int .i64 x) w1:=q1
 have q2:lookupA Try.prog w1 149 (.map (some km)) (.agg ⟨[.int .i64 mo,.int .i64 ha,.int .i64 ho]⟩) false=.val (.int .i64 y) w1:=q2
 have q3:lookupA Try.prog ⟨w1.heap.put w1.next (some (.cells [.int .i64 y] 3 false)),w1.next + 1,w1.lim⟩ 149 (.map (some km)) (.agg ⟨[.int .i64 mo,.int .i64 ha,.int .i64 (-1)]⟩) false=.val (.int .i64 x) _:=q3
 have q4:lookupA Try.prog ⟨w1.heap.put w1.next (some (.cells [.int .i64 y] 3 false)),w1.next + 1,w1.lim⟩ 149 (.map (some km)) (.agg ⟨[.int .i64 mo,.int .i64 ha,.int .i64 ho]⟩) false=.val (.int .i64 y) _:=q4
 simp only [jbC] at hw1 ⊢
 simp only [tkB]
 rw [hw1] at q1 q2 q3 q4 r81 kb1 kb2 hm1 hm2 fin
 have e1:[y].foldl min x=min x y:=rfl
 rw [e1] at r81
 by_cases k1:ma < 1
 ·have k1':¬ 1≤ma:=by omega
  simp [cellsOf_agg,hle,hle1,hle2,k1,k1',smi3,tupV]
  exact ⟨kb1,hm1⟩
 ·have k1':1≤ma:=by omega
  by_cases k2:min x y < ma
  ·have k2':¬ ma≤min x y:=by omega
   simp [cellsOf_agg,hle,hle1,hle2,k1,k1',k2,k2',smi3,q1,q2,q3,q4,r81,tupV]
   exact ⟨kb2,hm2⟩
  ·have k2':ma≤min x y:=by omega
   simp [cellsOf_agg,hle,hle1,hle2,k1,k1',k2,k2',smi3,q1,q2,q3,q4,r81]
   refine fin _ _ _ ?_ ?_ ?_ ?_ ?_ k2' k1' ?_
   ·exact (Up.refl _).add _
   ·simp
   ·simp
   ·simp
   ·simp
   ·intro t w2 t4 hK hm3
    simp [t4,tupV]
    exact ⟨hK,hm3⟩
end Go.Proofs.Ytiokkkjahkhbfaa.walk
