/- Part of a proof: see the text with the theorem. -/
import Derived.Test.YtiokkkjahkhbfaaUg
import Derived.Test.YtiokkkjahkhbfaaUh
import Derived.Test.YtiokkkjahkhbfaaUj
import Derived.Test.YtiokkkjahkhbfaaSiF
import Derived.Test.YtiokkkjahkhbfaaRows
import Derived.WalkKit
import Derived.ProofKit
import Derived.OpenShut
import Derived.Deep.DeepHandedRow
import Derived.Deep.DeepWitnessRowRef
set_option linter.all false
namespace Go.Proofs.Ytiokkkjahkhbfaa.walk
open Go Go.Sh
set_option maxRecDepth 100000
theorem works_ov:OvOk Try.prog worksOv:=memo_ok no_count mixed pure_okB most (by kernel_rfl) (by kernel_rfl) (by rw [globals0]; exact Nat.zero_le _) (by kernel_rfl) pure_ok2
noncomputable def oW:Ov:=memoOv 18 [] [] (.bool true) noOv
theorem okW':OvOk Try.prog oW:=memo_ok no_count mixed works_ov works_true (by kernel_rfl) (by kernel_rfl) (by rw [globals0]; exact Nat.le_refl _) (by kernel_rfl) ov_none
theorem oW_none {f:Nat} (hf:f ≠ 18) (args:List Value) (w:AW):oW f args w=none:=by
 have:Nat.beq f 18=false:=by rw [← Bool.not_eq_true]; intro h; exact hf (Nat.eq_of_beq_eq_true h)
 simp [oW,memoOv,this,noOv]
theorem oW_has:HasW oW:=fun w=>by
 simp [oW,memoOv,hasAll,sameL5,sameVal.sameVals]
theorem HasW.skip {f:Nat} {F:PureF} {rest:Ov} (hf:18 ≠ f) (h:HasW rest):HasW (ovP f F rest):=fun w=>by simp [ovP,hf,h w]
noncomputable def ovL:List (Nat × PureF)→Ov
 | []=>oW
 | x::l=>ovP x.1 x.2 (ovL l)
def keyB (g:Nat):List (Nat × PureF)→Bool
 | []=>Nat.beq g 18
 | x::l=>Nat.beq g x.1 || keyB g l
def lookF (g:Nat):List (Nat × PureF)→Option PureF
 | []=>none
 | x::l=>bif Nat.beq g x.1 then some x.2 else lookF g l
theorem beq_no {a b:Nat} (h:Nat.beq a b=false):a ≠ b:=fun e=>by rw [e,Nat.beq_refl] at h; cases h
theorem chN {g:Nat}:∀ {l:List (Nat × PureF)},keyB g l=false→∀ args w,ovL l g args w=none
 | [],h=>oW_none (beq_no h)
 | x::l,h=>by
  simp only [keyB,Bool.or_eq_false_iff] at h
  exact ovP_none (beq_no h.1) (chN h.2)
theorem chH {g:Nat} {F:PureF}:∀ {l:List (Nat × PureF)},lookF g l=some F→HasP (ovL l) g F
 | [],h=>by cases h
 | x::l,h=>by
  simp only [lookF] at h
  cases hb:Nat.beq g x.1 with
  | true =>
   rw [hb] at h
   cases h
   have e:=Nat.eq_of_beq_eq_true hb
   subst e
   exact .here
  | false =>
   rw [hb] at h
   exact HasP.skip (beq_no hb) (chH h)
def memB (g:Nat):List (Nat × PureF)→Bool
 | []=>false
 | x::l=>Nat.beq g x.1 || memB g l
theorem chW:∀ {l:List (Nat × PureF)},memB 18 l=false→HasW (ovL l)
 | [],_=>oW_has
 | x::l,h=>by
  simp only [memB,Bool.or_eq_false_iff] at h
  exact HasW.skip (beq_no h.1) (chW h.2)
noncomputable def cl38:List (Nat × PureF):=(38,S38.F)::[]
noncomputable def o38:Ov:=ovL cl38
theorem ok38:OvOk Try.prog (ovP 38 S38.F (ovL [])):=S38.ok no_count mixed okW' fun args w v hl h=>by
 obtain ⟨n,a,b,rfl,rfl⟩:=h
 obtain ⟨v',w',hc,e⟩:=run38 (ov:=(ovL [])) (chN rfl) n a b w
 exact ⟨rfl,2,v',w',_,hc,e⟩
noncomputable def cl70:List (Nat × PureF):=(70,S70.F)::cl38
noncomputable def o70:Ov:=ovL cl70
theorem ok70:OvOk Try.prog (ovP 70 S70.F o38):=S70.ok no_count mixed ok38 fun args w v hl h=>by
 obtain ⟨s,k,rfl,hk,rfl⟩:=h
 obtain ⟨v',w',hc,e⟩:=run70 (ov:=o38) (chN rfl) s k hk w
 exact ⟨rfl,2,v',w',_,hc,e⟩
noncomputable def cl87:List (Nat × PureF):=(87,S70.F)::cl70
noncomputable def o87:Ov:=ovL cl87
theorem ok87:OvOk Try.prog (ovP 87 S70.F o70):=S70.ok no_count mixed ok70 fun args w v hl h=>by
 obtain ⟨s,k,rfl,hk,rfl⟩:=h
 obtain ⟨v',w',hc,e⟩:=run87 (ov:=o70) (chN rfl) s k hk w
 exact ⟨rfl,2,v',w',_,hc,e⟩
noncomputable def cl74:List (Nat × PureF):=(74,S74.F)::cl87
noncomputable def o74:Ov:=ovL cl74
theorem ok74:OvOk Try.prog (ovP 74 S74.F o87):=S74.ok no_count mixed ok87 fun args w v hl h=>by
 obtain ⟨n,a,rfl,rfl⟩:=h
 obtain ⟨v',w',hc,e⟩:=run74 (ov:=o87) (chN rfl) n a w
 exact ⟨rfl,2,v',w',_,hc,e⟩
noncomputable def cl73:List (Nat × PureF):=(73,S73.F)::cl74
noncomputable def o73:Ov:=ovL cl73
theorem ok73:OvOk Try.prog (ovP 73 S73.F o74):=S73.ok no_count mixed ok74 fun args w v hl h=>by
 obtain ⟨n,a,rfl,rfl⟩:=h
 obtain ⟨v',w',hc,e⟩:=run73 (ov:=o74) (chN rfl) n a w
 exact ⟨rfl,2,v',w',_,hc,e⟩
noncomputable def cl75:List (Nat × PureF):=(75,S75.F)::cl73
noncomputable def o75:Ov:=ovL cl75
theorem ok75:OvOk Try.prog (ovP 75 S75.F o73):=S75.ok no_count mixed ok73 fun args w v hl h=>by
 obtain ⟨n,k,rfl,hk,rfl⟩:=h
 obtain ⟨v',w',hc,e⟩:=run75 (ov:=o73) (chN rfl) n k hk w
 exact ⟨rfl,2,v',w',_,hc,e⟩
noncomputable def cl102:List (Nat × PureF):=(102,S102.F)::cl75
noncomputable def o102:Ov:=ovL cl102
theorem ok102:OvOk Try.prog (ovP 102 S102.F o75):=S102.ok no_count mixed ok75 fun args w v hl h=>by
 obtain ⟨n,a,rfl,rfl⟩:=h
 obtain ⟨v',w',hc,e⟩:=run102 (ov:=o75) (chN rfl) (chN rfl) n a w
 exact ⟨rfl,2,v',w',_,hc,e⟩
noncomputable def cl46:List (Nat × PureF):=(46,S46.F)::cl102
noncomputable def o46:Ov:=ovL cl46
theorem ok46:OvOk Try.prog (ovP 46 S46.F o102):=S46.ok no_count mixed ok102 fun args w v hl h=>by
 obtain ⟨x,l,rfl,hv,rfl⟩:=h
 obtain ⟨v',w',hc,e⟩:=run46 (ov:=o102) (chN rfl) (chH rfl) (chH rfl) l x w hl hv
 exact ⟨rfl,2,v',w',_,hc,e⟩
noncomputable def cl47:List (Nat × PureF):=(47,S47.F)::cl46
noncomputable def o47:Ov:=ovL cl47
theorem ok47:OvOk Try.prog (ovP 47 S47.F o46):=S47.ok no_count mixed ok46 fun args w v hl h=>by
 obtain ⟨x,l,n,rfl,hv,hn,rfl⟩:=h
 obtain ⟨v',w',hc,e⟩:=run47 (ov:=o46) (chN rfl) (chH rfl) (chH rfl) (chH rfl) l n hn x w hl hv
 exact ⟨rfl,2,v',w',_,hc,e⟩
noncomputable def cl48:List (Nat × PureF):=(48,S48.F)::cl47
noncomputable def o48:Ov:=ovL cl48
theorem ok48:OvOk Try.prog (ovP 48 S48.F o47):=S48.ok no_count mixed ok47 fun args w v hl h=>by
 obtain ⟨x,l,n,rfl,hv,hn,rfl⟩:=h
 obtain ⟨v',w',hc,e⟩:=run48 (ov:=o47) (chN rfl) l n hn x w hl hv
 exact ⟨rfl,2,v',w',_,hc,e⟩
noncomputable def cl14:List (Nat × PureF):=(14,S14.F)::cl48
noncomputable def o14:Ov:=ovL cl14
theorem ok14:OvOk Try.prog (ovP 14 S14.F o48):=S14.ok no_count mixed ok48 fun args w v hl h=>by
 obtain ⟨vv,hv,fv,vs,hs,fs,rfl,hS,rfl⟩:=h
 obtain ⟨v',w',hc,e⟩:=run14 (ov:=o48) (chN rfl) (chH rfl) (chH rfl) (chH rfl) vs hs fs vv hv fv w hl hS
 exact ⟨rfl,2,v',w',_,hc,e⟩
noncomputable def cl86:List (Nat × PureF):=(86,S86.F)::cl14
noncomputable def o86:Ov:=ovL cl86
theorem ok86:OvOk Try.prog (ovP 86 S86.F o14):=S86.ok no_count mixed ok14 fun args w v hl h=>by
 obtain ⟨vv,hv,fv,tv,vs,hs,fs,tr,rfl,hS,hT,hB,rfl⟩:=h
 obtain ⟨v',w',hc,e⟩:=run86 (ov:=o14) (chN rfl) vs hs fs tr vv hv fv tv w hl hS hT hB
 exact ⟨rfl,2,v',w',_,hc,e⟩
noncomputable def cl59:List (Nat × PureF):=(59,S59.F)::cl86
noncomputable def o59:Ov:=ovL cl59
theorem ok59:OvOk Try.prog (ovP 59 S59.F o86):=S59.ok no_count mixed ok86 fun args w v hl h=>by
 obtain ⟨vv,hv,fv,tv,vs,hs,fs,tr,rfl,hS,hT,rfl⟩:=h
 obtain ⟨v',w',hc,e⟩:=run59 (ov:=o86) (chN rfl) (chH rfl) (chH rfl) vs hs fs tr vv hv fv tv w hl hS hT
 exact ⟨rfl,2,v',w',_,hc,e⟩
noncomputable def cl72:List (Nat × PureF):=(72,S72.F)::cl59
noncomputable def o72:Ov:=ovL cl72
theorem ok72:OvOk Try.prog (ovP 72 S72.F o59):=S72.ok no_count mixed ok59 fun args w v hl h=>by
 obtain ⟨h,gv,vs,x,ho,k,rfl,hg,hx,rfl⟩:=h
 obtain ⟨v',w',hc,e⟩:=run72 (ov:=o59) (chN rfl) (chH rfl) h gv vs x ho k w hl hg hx
 exact ⟨rfl,2,v',w',_,hc,e⟩
noncomputable def cl81:List (Nat × PureF):=(81,S81.F)::cl72
noncomputable def o81:Ov:=ovL cl81
theorem ok81:OvOk Try.prog (ovP 81 S81.F o72):=S81.ok no_count mixed ok72 fun args w v hl h=>by
 obtain ⟨n,x,L,rfl,hx,hL,rfl⟩:=h
 obtain ⟨v',w',hc,e⟩:=run81 (ov:=o72) (chN rfl) n x L hL w hx
 exact ⟨rfl,2,v',w',_,hc,e⟩
noncomputable def cl92:List (Nat × PureF):=(92,S92.F)::cl81
noncomputable def o92:Ov:=ovL cl92
theorem ok92:OvOk Try.prog (ovP 92 S92.F o81):=S92.ok no_count mixed ok81 fun args w v hl h=>by
 obtain ⟨x,y,L,M,rfl,hx,hy,hLM,hL,rfl⟩:=h
 obtain ⟨v',w',hc,e⟩:=run92 (ov:=o81) (chN rfl) (chH rfl) x y L M hLM hL w hx hy
 exact ⟨rfl,2,v',w',_,hc,e⟩
noncomputable def cl98:List (Nat × PureF):=(98,S98.F)::cl92
noncomputable def o98:Ov:=ovL cl98
theorem ok98:OvOk Try.prog (ovP 98 S98.F o92):=S98.ok no_count mixed ok92 fun args w v hl h=>by
 obtain ⟨vv,hv,fv,vs,hs,fs,j,rfl,hS,b1,b2,b3,rfl⟩:=h
 obtain ⟨v',w',hc,e⟩:=run98 (ov:=o92) (chN rfl) (chH rfl) vv hv fv vs hs fs j w hl hS b1 b2 b3
 exact ⟨rfl,2,v',w',_,hc,e⟩
noncomputable def cl83:List (Nat × PureF):=(83,S83.F)::cl98
noncomputable def o83:Ov:=ovL cl83
theorem ok83:OvOk Try.prog (ovP 83 S83.F o98):=S83.ok no_count mixed ok98 fun args w v hl h=>by
 obtain ⟨vv,hv,fv,pv,vs,hs,fs,l,rfl,hS,hP,hB,rfl⟩:=h
 obtain ⟨v',w',hc,e⟩:=run83 (ov:=o98) (chN rfl) (chN rfl) (chH rfl) (chH rfl) (chN rfl) (chN rfl) (chH rfl) (chN rfl) (chH rfl) vs hs fs l vv hv fv pv w hl hS hP hB
 exact ⟨rfl,3,v',w',_,hc,e⟩
noncomputable def cl84:List (Nat × PureF):=(84,S84.F)::cl83
noncomputable def o84:Ov:=ovL cl84
theorem ok84:OvOk Try.prog (ovP 84 S84.F o83):=S84.ok no_count mixed ok83 fun args w v hl h=>by
 obtain ⟨x,L,rfl,hx,hL,hb,rfl⟩:=h
 obtain ⟨v',w',hc,e⟩:=run84 (ov:=o83) (chN rfl) x L hL hb w hx
 exact ⟨rfl,2,v',w',_,hc,e⟩
noncomputable def cl37:List (Nat × PureF):=(37,S84.F)::cl84
noncomputable def o37:Ov:=ovL cl37
theorem ok37:OvOk Try.prog (ovP 37 S84.F o84):=S84.ok no_count mixed ok84 fun args w v hl h=>by
 obtain ⟨x,L,rfl,hx,hL,hb,rfl⟩:=h
 obtain ⟨v',w',hc,e⟩:=run37 (ov:=o84) (chN rfl) x L hL hb w hx
 exact ⟨rfl,2,v',w',_,hc,e⟩
noncomputable def cl55:List (Nat × PureF):=(55,S55.F)::cl37
noncomputable def o55:Ov:=ovL cl55
theorem ok55:OvOk Try.prog (ovP 55 S55.F o37):=S55.ok no_count mixed ok37 fun args w v hl h=>by
 obtain ⟨vv,hv,fv,tv,pv,vs,hs,fs,tr,l,rfl,hS,hT,hP,rfl⟩:=h
 obtain ⟨v',w',hc,e⟩:=run55 (ov:=o37) (chN rfl) (chH rfl) (chH rfl) w hl hS hT hP
 exact ⟨rfl,2,v',w',_,hc,e⟩
noncomputable def cl56:List (Nat × PureF):=(56,S56.F)::cl55
noncomputable def o56:Ov:=ovL cl56
theorem ok56:OvOk Try.prog (ovP 56 S56.F o55):=S56.ok no_count mixed ok55 fun args w v hl h=>by
 obtain ⟨vv,hv,fv,tv,pv,vs,hs,fs,tr,l,rfl,hS,hT,hP,hB,hTr,hPl,rfl⟩:=h
 obtain ⟨v',w',hc,e⟩:=run56 (ov:=o55) (chN rfl) (chN rfl) (chN rfl) (chH rfl) (chH rfl) w hl hS hT hP hB hTr hPl
 exact ⟨rfl,3,v',w',_,hc,e⟩
noncomputable def cl19:List (Nat × PureF):=(19,S19.F)::cl56
noncomputable def o19:Ov:=ovL cl19
theorem ok19:OvOk Try.prog (ovP 19 S19.F o56):=S19.ok no_count mixed ok56 fun args w v hl h=>by
 obtain ⟨vv,hv,fv,tv,pv,vs,hs,fs,tr,l,rfl,hS,hT,hP,rfl⟩:=h
 obtain ⟨v',w',hc,e⟩:=run19 (ov:=o56) (chN rfl) (chH rfl) (chH rfl) w hl hS hT hP
 exact ⟨rfl,2,v',w',_,hc,e⟩
noncomputable def cl39:List (Nat × PureF):=(39,S39.F)::cl19
noncomputable def o39:Ov:=ovL cl39
theorem ok39:OvOk Try.prog (ovP 39 S39.F o19):=S39.ok no_count mixed ok19 fun args w v hl h=>by
 obtain ⟨n,s,rfl,hs,rfl⟩:=h
 obtain ⟨v',w',hc,e⟩:=run39 (ov:=o19) (chN rfl) n s hs w
 exact ⟨rfl,2,v',w',_,hc,e⟩
noncomputable def cl69:List (Nat × PureF):=(69,S69.F)::cl39
noncomputable def o69:Ov:=ovL cl69
theorem ok69:OvOk Try.prog (ovP 69 S69.F o39):=S69.ok no_count mixed ok39 fun args w v hl h=>by
 obtain ⟨lv,L,i,rfl,hv,hs,rfl⟩:=h
 obtain ⟨v',w',hc,e⟩:=run69 (ov:=o39) (chN rfl) (chH rfl) lv L i w hv hs
 exact ⟨rfl,2,v',w',_,hc,e⟩
noncomputable def cl68:List (Nat × PureF):=(68,S68.F)::cl69
noncomputable def o68:Ov:=ovL cl68
theorem ok68:OvOk Try.prog (ovP 68 S68.F o69):=S68.ok no_count mixed ok69 fun args w v hl h=>by
 obtain ⟨a,b,n,rfl,hb,rfl⟩:=h
 obtain ⟨v',w',hc,e⟩:=run68 (ov:=o69) (chN rfl) (chH rfl) a b n hb w
 exact ⟨rfl,2,v',w',_,hc,e⟩
noncomputable def cl34:List (Nat × PureF):=(34,S34.F)::cl68
noncomputable def o34:Ov:=ovL cl34
theorem ok34:OvOk Try.prog (ovP 34 S34.F o68):=S34.ok no_count mixed ok68 fun args w v hl h=>by
 obtain ⟨vv,hv,fv,vs,hs,fs,rfl,hS,rfl⟩:=h
 obtain ⟨v',w',hc,e⟩:=run34 (ov:=o68) (chN rfl) (chH rfl) (chH rfl) vs hs fs vv hv fv w hl hS
 exact ⟨rfl,2,v',w',_,hc,e⟩
theorem top_true (vs:List HVn) (hs:List HHd) (fs:List (List (Int × Int))) (vv hv fv pv bv:Value) (l:List HJb) (bits:List Int) (hlen:l.length≤2 ^ 60) (hbits:bits.length≤2 ^ 60) (w:AW) (hl:w.lim=w.next) (hS:SeaV w vv hv fv vs hs fs) (hP:RowsV jbC w pv l) (hb:RowsV intC w bv bits) :
  ∃ w' x',(run Try.prog o34 8).call 8 [.agg ⟨[vv,hv,fv]⟩,pv,bv] w .none=.ok (.ret (.bool true)) w' x':=by
 obtain ⟨v,w',hc,rfl⟩:=call8 (ov:=o34) 3 (chN rfl) (chN rfl) (chN rfl) (chN rfl) (chN rfl) (chN rfl) (chW rfl) (chH rfl) (chH rfl) (chH rfl) (chH rfl) (chH rfl) (chH rfl) (chH rfl) (chH rfl) (chH rfl) (chH rfl) w (Nat.le_of_eq hl) hS hP hlen hb hbits
 exact ⟨w',_,hc⟩
open Go Go.Sh Go.ChangeShapes Go.WideShapes Go.ChangeAt Go.RowKit
theorem u3:Try.prog.underlying 3=some (.int .i64):=by kernel_rfl
theorem u26:Try.prog.underlying 26=some (.struct (fieldsOf Try.prog 26)):=by kernel_rfl
theorem f26:(fieldsOf Try.prog 26).toList.map (fun f=>(f.type,f.offset))=[(22,0),(23,1),(24,2)]:=by kernel_rfl
theorem u65:Try.prog.underlying 65=some (.struct (fieldsOf Try.prog 65)):=by kernel_rfl
theorem f65:(fieldsOf Try.prog 65).toList.map (fun f=>(f.type,f.offset))=[(3,0),(3,1),(3,2)]:=by kernel_rfl
theorem c65:Try.prog.cellsOf 65=3:=by kernel_rfl
theorem u77:Try.prog.underlying 77=some (.struct (fieldsOf Try.prog 77)):=by kernel_rfl
theorem f77:(fieldsOf Try.prog 77).toList.map (fun f=>(f.type,f.offset))=[(3,0),(3,1),(3,2),(3,3),(3,4)]:=by kernel_rfl
theorem c77:Try.prog.cellsOf 77=5:=by kernel_rfl
theorem u34:Try.prog.underlying 34=some (.struct (fieldsOf Try.prog 34)):=by kernel_rfl
theorem f34:(fieldsOf Try.prog 34).toList.map (fun f=>(f.type,f.offset))=[(3,0),(3,1)]:=by kernel_rfl
theorem c34:Try.prog.cellsOf 34=2:=by kernel_rfl
theorem u67:Try.prog.underlying 67=some (.struct (fieldsOf Try.prog 67)):=by kernel_rfl
theorem f67:(fieldsOf Try.prog 67).toList.map (fun f=>(f.type,f.offset))=[(3,0),(3,1),(3,2),(3,3),(3,4)]:=by kernel_rfl
theorem c67:Try.prog.cellsOf 67=5:=by kernel_rfl
theorem c3:Try.prog.cellsOf 3=1:=by kernel_rfl
theorem c22:Try.prog.cellsOf 22=1:=by kernel_rfl
theorem c23:Try.prog.cellsOf 23=1:=by kernel_rfl
theorem c24:Try.prog.cellsOf 24=1:=by kernel_rfl
theorem c69:Try.prog.cellsOf 69=1:=by kernel_rfl
theorem c26:Try.prog.cellsOf 26=3:=by kernel_rfl
theorem one65 {H:T AObj} {n:Nat} {cs:List Value} (h:WT Try.prog H n 65 cs):∃ p,cs=vnC p:=by
 obtain ⟨hl,hf⟩:=h.toStruct u65
 rw [f65] at hf
 rw [c65] at hl
 obtain ⟨a0,h0,_⟩:=(hf (3,0) (by simp)).toInt u3
 obtain ⟨a1,h1,_⟩:=(hf (3,1) (by simp)).toInt u3
 obtain ⟨a2,h2,_⟩:=(hf (3,2) (by simp)).toInt u3
 rw [c3] at h0 h1 h2
 match cs,hl with
 | [x0,x1,x2],_ =>
  simp at h0 h1 h2
  exact ⟨⟨a0,a1,a2⟩,by rw [h0,h1,h2]; rfl⟩
theorem one77 {H:T AObj} {n:Nat} {cs:List Value} (h:WT Try.prog H n 77 cs):∃ p,cs=hhC p:=by
 obtain ⟨hl,hf⟩:=h.toStruct u77
 rw [f77] at hf
 rw [c77] at hl
 obtain ⟨a0,h0,_⟩:=(hf (3,0) (by simp)).toInt u3
 obtain ⟨a1,h1,_⟩:=(hf (3,1) (by simp)).toInt u3
 obtain ⟨a2,h2,_⟩:=(hf (3,2) (by simp)).toInt u3
 obtain ⟨a3,h3,_⟩:=(hf (3,3) (by simp)).toInt u3
 obtain ⟨a4,h4,_⟩:=(hf (3,4) (by simp)).toInt u3
 rw [c3] at h0 h1 h2 h3 h4
 match cs,hl with
 | [x0,x1,x2,x3,x4],_ =>
  simp at h0 h1 h2 h3 h4
  exact ⟨⟨a0,a1,a2,a3,a4⟩,by rw [h0,h1,h2,h3,h4]; rfl⟩
theorem one34 {H:T AObj} {n:Nat} {cs:List Value} (h:WT Try.prog H n 34 cs):∃ p,cs=hsC p:=by
 obtain ⟨hl,hf⟩:=h.toStruct u34
 rw [f34] at hf
 rw [c34] at hl
 obtain ⟨a0,h0,_⟩:=(hf (3,0) (by simp)).toInt u3
 obtain ⟨a1,h1,_⟩:=(hf (3,1) (by simp)).toInt u3
 rw [c3] at h0 h1
 match cs,hl with
 | [x0,x1],_ =>
  simp at h0 h1
  exact ⟨(a0,a1),by rw [h0,h1]; rfl⟩
theorem one67 {H:T AObj} {n:Nat} {cs:List Value} (h:WT Try.prog H n 67 cs):∃ p,cs=jbC p:=by
 obtain ⟨hl,hf⟩:=h.toStruct u67
 rw [f67] at hf
 rw [c67] at hl
 obtain ⟨a0,h0,_⟩:=(hf (3,0) (by simp)).toInt u3
 obtain ⟨a1,h1,_⟩:=(hf (3,1) (by simp)).toInt u3
 obtain ⟨a2,h2,_⟩:=(hf (3,2) (by simp)).toInt u3
 obtain ⟨a3,h3,_⟩:=(hf (3,3) (by simp)).toInt u3
 obtain ⟨a4,h4,_⟩:=(hf (3,4) (by simp)).toInt u3
 rw [c3] at h0 h1 h2 h3 h4
 match cs,hl with
 | [x0,x1,x2,x3,x4],_ =>
  simp at h0 h1 h2 h3 h4
  exact ⟨⟨a0,a1,a2,a3,a4⟩,by rw [h0,h1,h2,h3,h4]; rfl⟩
theorem rows_ofW {α:Type} {f:α→List Value} {m:Nat} {H:T AObj} {n lim:Nat} {t e:TypeId} {cs:List Value} (hu:Try.prog.underlying t=some (.slice e)) (hc:Try.prog.cellsOf e=m) (hf:∀ a,(f a).length=m) (hone:∀ cs,WT Try.prog H n e cs→∃ a,cs=f a) (h:WT Try.prog H n t cs) :
  ∃ v l,cs=[v]∧RowsV f ⟨H,n,lim⟩ v l:=rows_of_WT (lim:=lim) hu hc hf hone h
def RowT (α:Type) (f:α→List Value) (w:AW):Type:={ x:Value × List α // RowsV f w x.1 x.2 }
def rowTC {α:Type} {f:α→List Value} {w:AW} (a:RowT α f w):List Value:=[a.1.1]
theorem flat_rowT {α:Type} {f:α→List Value} {w:AW}:∀ l:List (RowT α f w),l.flatMap rowTC=(l.map fun a=>a.1).flatMap rwC
 | []=>rfl
 | a::l=>by rw [List.flatMap_cons,List.map_cons,List.flatMap_cons,flat_rowT l]; rfl
theorem rows_rowT {α:Type} {f:α→List Value} {w:AW} {v:Value} {l:List (RowT α f w)} (h:RowsV rowTC w v l):Rows2 f w v (l.map fun a=>a.1.2):=by
 refine ⟨l.map fun a=>a.1,by rw [List.map_map]; rfl,?_,fun p hp=>?_⟩
 ·rcases h with ⟨rfl,a,c,rfl⟩ | ⟨b,off,sq,c,hv,⟨pre,rest,e,ro,h1,h2⟩,h3⟩
  ·exact .inl ⟨rfl,a,c,rfl⟩
  ·exact .inr ⟨b,off,sq,c,by rw [hv,List.length_map],⟨pre,rest,e,ro,by rw [h1,flat_rowT],h2⟩,h3⟩
 ·obtain ⟨a,_,rfl⟩:=List.mem_map.1 hp
  exact a.2
theorem ints_of {H:T AObj} {n lim:Nat} {cs:List Value} (h:WT Try.prog H n 42 cs):∃ v l,cs=[v]∧RowsV intC ⟨H,n,lim⟩ v l :=
 rows_ofW un42 c3 intC_length (fun cs h=>by
  obtain ⟨z,hz,_⟩:=h.toInt u3
  exact ⟨z,hz⟩) h
theorem sea_arg {A:AW} {m:Value} (h:ArgT Try.prog A.heap A.next 26 m):∃ vv hv fv vs hs fs,m=.agg ⟨[vv,hv,fv]⟩∧SeaV A vv hv fv vs hs fs:=by
 unfold ArgT at h
 rw [u26] at h
 obtain ⟨c,rfl,h⟩:=h
 obtain ⟨hl,hf⟩:=h.toStruct u26
 rw [f26] at hf
 rw [c26] at hl
 obtain ⟨vv,vs,h0,hV⟩:=rows_ofW (lim:=A.lim) un22 c65 vnC_length (fun cs h=>one65 h) (hf (22,0) (by simp))
 obtain ⟨hv,hs,h1,hH⟩:=rows_ofW (lim:=A.lim) un23 c77 hhC_length (fun cs h=>one77 h) (hf (23,1) (by simp))
 obtain ⟨fv,l,h2,hF⟩:=rows_ofW (lim:=A.lim) (α:=RowT (Int × Int) hsC A) (f:=rowTC) un24 c69 (fun _=>rfl) (fun cs h=>by
  obtain ⟨v,l,e,hr⟩:=rows_ofW (lim:=A.lim) un69 c34 hsC_length (fun cs h=>one34 h) h
  exact ⟨⟨(v,l),hr⟩,e⟩) (hf (24,2) (by simp))
 rw [c22] at h0
 rw [c23] at h1
 rw [c24] at h2
 match c,hl with
 | [x0,x1,x2],_ =>
  simp at h0 h1 h2
  exact ⟨vv,hv,fv,vs,hs,_,by rw [h0,h1,h2],hV,hH,rows_rowT hF⟩
theorem job_arg {A:AW} {m:Value} (h:ArgT Try.prog A.heap A.next 39 m):∃ l,RowsV jbC A m l:=by
 unfold ArgT at h
 rw [un39] at h
 obtain ⟨v,l,hv,hr⟩:=rows_ofW (lim:=A.lim) un39 c67 jbC_length (fun cs h=>one67 h) h
 cases hv
 exact ⟨l,hr⟩
theorem ints_arg {A:AW} {m:Value} (h:ArgT Try.prog A.heap A.next 42 m):∃ l,RowsV intC A m l:=by
 unfold ArgT at h
 rw [un42] at h
 obtain ⟨v,l,hv,hr⟩:=ints_of (lim:=A.lim) h
 cases hv
 exact ⟨l,hr⟩
theorem b3:Try.prog.bytesOf 3=8:=by kernel_rfl
theorem short_of {A:AW} {m:Value} {L:List Int} (h:RowsV intC A m L) (k:∀ (a:Option Addr) (n c:Nat),m=.slice a n c→n * Try.prog.bytesOf 3≤reachBytes):L.length≤2 ^ 60:=by
 obtain ⟨a,c,e⟩:=h.len
 have:=k a _ c e
 rw [b3] at this
 unfold reachBytes at this
 omega
theorem b67:Try.prog.bytesOf 67=40:=by kernel_rfl
theorem short_j {A:AW} {m:Value} {L:List HJb} (h:RowsV jbC A m L) (k:∀ (a:Option Addr) (n c:Nat),m=.slice a n c→n * Try.prog.bytesOf 67≤reachBytes):L.length≤2 ^ 60:=by
 obtain ⟨a,c,e⟩:=h.len
 have:=k a _ c e
 rw [b67] at this
 unfold reachBytes at this
 omega
theorem ty26:tyOk Try.prog 6 26=true:=by kernel_rfl
theorem ty39:tyOk Try.prog 6 39=true:=by kernel_rfl
theorem ty42:tyOk Try.prog 6 42=true:=by kernel_rfl
theorem start_true (A:AW) (ms:List Value) (hl:A.lim=A.next) (hG:Try.prog.globals.size≤A.next) (hs:∀ b,b < Try.prog.globals.size→A.heap.get b=(startH []).get b) (hms:ArgsT Try.prog A.heap A.next [26,39,42] ms) (hz:∀ (j:Nat) t e a k c,[26,39,42][j]?=some t→Try.prog.underlying t=some (.slice e)→ms[j]?=some (.slice a k c)→k * Try.prog.bytesOf e≤reachBytes) :
  ∃ A' x',(run Try.prog o34 8).call 8 ms A .none=.ok (.ret (.bool true)) A' x':=by
 match ms,hms,hz with
 | [m1,m2,m3],hm,hz =>
  obtain ⟨vv,hv,fv,vs,hs,fs,rfl,hS⟩:=sea_arg hm.1
  obtain ⟨l,hP⟩:=job_arg hm.2.1
  obtain ⟨bits,hb⟩:=ints_arg hm.2.2.1
  exact top_true vs hs fs vv hv fv m2 m3 l bits (short_j hP fun a n c e=>hz 1 39 67 a n c rfl un39 (by rw [e]; rfl)) (short_of hb fun a n c e=>hz 2 42 3 a n c rfl un42 (by rw [e]; rfl)) A hl hS hP hb
end Go.Proofs.Ytiokkkjahkhbfaa.walk
