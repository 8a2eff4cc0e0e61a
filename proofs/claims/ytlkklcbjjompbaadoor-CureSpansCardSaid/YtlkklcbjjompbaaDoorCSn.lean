/- Part of a proof by a machine of ones own: see the text with the theorem. -/
import Derived.Test.YtlkklcbjjompbaaDoorCWn
import Derived.Test.YtlkklcbjjompbaaDoorCF1
import Derived.Test.YtlkklcbjjompbaaDoorShF
import Derived.Test.YtlkklcbjjompbaaDoorCards
import Derived.Test.YtlkklcbjjompbaaDoorTie
import Derived.WalkKit
import Derived.ProofKit
import Derived.OpenShut
import Derived.Deep.DeepHandedRow
import Derived.Deep.DeepWitnessRowRef
namespace Go.Proofs.YtlkklcbjjompbaaDoor.walk
open Go Go.Sh
set_option maxRecDepth 100000
theorem mixed:Tryd.prog.follows .mixedOrders=true:=by kernel_rfl
theorem globals1:Tryd.prog.globals.size=1:=by kernel_rfl
theorem no_count:NoCount Tryd.prog:=NoCount.of (by kernel_rfl)
noncomputable def oW:Ov:=memoOv 19 [] laidL (.bool true) noOv
theorem okW':OvOk Tryd.prog oW:=memo_ok no_count mixed ov_none works_true (by kernel_rfl) (by kernel_rfl) (by rw [globals1]; exact Nat.le_refl _) (by kernel_rfl) ov_none
theorem oW_none {f:Nat} (hf:f ≠ 19) (args:List Value) (w:AW):oW f args w=none:=by
 have:Nat.beq f 19=false:=by rw [← Bool.not_eq_true]; intro h; exact hf (Nat.eq_of_beq_eq_true h)
 simp [oW,memoOv,this,noOv]
theorem oW_has:HasW oW:=fun w hw=>by
 have:=hasAll_lim hw
 simp [oW,memoOv,this,sameL5,sameVal.sameVals]
theorem HasW.skip {f:Nat} {F:PureF} {rest:Ov} (hf:19 ≠ f) (h:HasW rest):HasW (ovP f F rest):=fun w hw=>by simp [ovP,hf,h w hw]
theorem ovP_none {f g:Nat} {F:PureF} {rest:Ov} (hne:g ≠ f) (h:∀ args w,rest g args w=none) (args:List Value) (w:AW):ovP f F rest g args w=none:=by simp [ovP,hne,h]
theorem stgR_ground (o:Option Stg):groundC 3 (stgR o)=true:=by cases o <;> rfl
noncomputable def ovL:List (Nat × PureF)→Ov
 | []=>oW
 | x::l=>ovP x.1 x.2 (ovL l)
def keyB (g:Nat):List (Nat × PureF)→Bool
 | []=>Nat.beq g 19
 | x::l=>Nat.beq g x.1 || keyB g l
def lookF (g:Nat):List (Nat × PureF)→Option PureF
 | []=>none
 | x::l=>bif Nat.beq g x.1 then some x.2 else lookF g l
theorem beq_no {a b:Nat} (h:Nat.beq a b=false):a ≠ b:=fun e=>by rw [e,Nat.beq_refl] at h; cases h
theorem chN {g:Nat}:∀ {l:List (Nat × PureF)},keyB g l=false→∀ args w,ovL l g args w=none
 | [],h=>oW_none (beq_no h)
 | x::l,h=>by
  simp only [keyB,Bool.or_eq_false_iff] at h
  exact ovP_none (beq_no h.1) (chN h.2)
theorem chH {g:Nat} {F:PureF}:∀ {l:List (Nat × PureF)},lookF g l=some F→HasP (ovL l) g F
 | [],h=>by cases h
 | x::l,h=>by
  simp only [lookF] at h
  cases hb:Nat.beq g x.1 with
  | true =>
   rw [hb] at h
   cases h
   have e:=Nat.eq_of_beq_eq_true hb
   subst e
   exact .here
  | false =>
   rw [hb] at h
   exact HasP.skip (beq_no hb) (chH h)
def memB (g:Nat):List (Nat × PureF)→Bool
 | []=>false
 | x::l=>Nat.beq g x.1 || memB g l
theorem chW:∀ {l:List (Nat × PureF)},memB 19 l=false→HasW (ovL l)
 | [],_=>oW_has
 | x::l,h=>by
  simp only [memB,Bool.or_eq_false_iff] at h
  exact HasW.skip (beq_no h.1) (chW h.2)
theorem all_ground (n:Nat):∀ l:List Sp,groundC.allC (groundC (n + 1)) (l.flatMap spC)=true
 | []=>rfl
 | _::l=>by
  rw [List.flatMap_cons]
  exact all_ground n l
theorem rows_ground (l:List Sp):groundC 3 (.agg ⟨l.flatMap spC⟩)=true:=all_ground 1 l
theorem narR_ground (o:Option (List Sp)):groundC 3 (narR o)=true:=by
 cases o with
 | none=>rfl
 | some V =>
  show (bif groundC 2 (.agg ⟨V.flatMap spC⟩) then (bif true then true else false) else false)=true
  rw [show groundC 2 (.agg ⟨V.flatMap spC⟩)=true from all_ground 0 V]
  rfl
noncomputable def l39:List (Nat × PureF):=(39,S39.F)::[]
noncomputable def o39:Ov:=ovL l39
theorem ok39:OvOk Tryd.prog (ovP 39 S39.F (ovL [])):=S39.ok no_count mixed okW' fun args w v hl h=>by
 obtain ⟨n,a,b,rfl,rfl⟩:=h
 obtain ⟨v',w',hc,e⟩:=run39 (ov:=(ovL [])) (chN rfl) n a b w
 exact ⟨rfl,2,v',w',_,hc,e⟩
noncomputable def l46:List (Nat × PureF):=(46,S46.F)::l39
noncomputable def o46:Ov:=ovL l46
theorem ok46:OvOk Tryd.prog (ovP 46 S46.F o39):=S46.ok no_count mixed ok39 fun args w v hl h=>by
 obtain ⟨s,k,rfl,hk,rfl⟩:=h
 obtain ⟨v',w',hc,e⟩:=run46 (ov:=o39) (chN rfl) s k hk w
 exact ⟨rfl,2,v',w',_,hc,e⟩
noncomputable def l82:List (Nat × PureF):=(82,S82.F)::l46
noncomputable def o82:Ov:=ovL l82
theorem ok82:OvOk Tryd.prog (ovP 82 S82.F o46):=S82.ok no_count mixed ok46 fun args w v hl h=>by
 obtain ⟨n,a,b,rfl,rfl⟩:=h
 obtain ⟨v',w',hc,e⟩:=run82 (ov:=o46) (chN rfl) n a b w
 exact ⟨rfl,2,v',w',_,hc,e⟩
noncomputable def l92:List (Nat × PureF):=(92,S92.F)::l82
noncomputable def o92:Ov:=ovL l92
theorem ok92:OvOk Tryd.prog (ovP 92 S92.F o82):=S92.ok no_count mixed ok82 fun args w v hl h=>by
 obtain ⟨a,b,rfl,rfl⟩:=h
 obtain ⟨v',w',hc,e⟩:=run92 (ov:=o82) (chN rfl) a b w
 exact ⟨rfl,2,v',w',_,hc,e⟩
noncomputable def l93:List (Nat × PureF):=(93,S93.F)::l92
noncomputable def o93:Ov:=ovL l93
theorem ok93:OvOk Tryd.prog (ovP 93 S93.F o92):=S93.ok no_count mixed ok92 fun args w v hl h=>by
 obtain ⟨a,b,c,d,rfl,rfl⟩:=h
 obtain ⟨v',w',hc,e⟩:=run93 (ov:=o92) (chN rfl) a b c d w
 exact ⟨rfl,2,v',w',_,hc,e⟩
noncomputable def l81:List (Nat × PureF):=(81,S81.F)::l93
noncomputable def o81:Ov:=ovL l81
theorem ok81:OvOk Tryd.prog (ovP 81 S81.F o93):=S81.ok no_count mixed ok93 fun args w v hl h=>by
 obtain ⟨q,n,s,rfl,hq,hL,rfl⟩:=h
 obtain ⟨v',w',hc,e⟩:=run81 (ov:=o93) (chN rfl) (chH rfl) q n s hq w hL
 exact ⟨rfl,2,v',w',_,hc,e⟩
noncomputable def l70:List (Nat × PureF):=(70,S70.F)::l81
noncomputable def o70:Ov:=ovL l70
theorem ok70:OvOk Tryd.prog (ovP 70 S70.F o81):=S70.ok no_count mixed ok81 fun args w v hl h=>by
 obtain ⟨q,a,b,s,rfl,hq,hL,rfl⟩:=h
 obtain ⟨v',w',hc,e⟩:=run70 (ov:=o81) (chN rfl) (chH rfl) (chH rfl) q a b s hq w hl hL
 exact ⟨rfl,2,v',w',_,hc,e⟩
noncomputable def l94:List (Nat × PureF):=(94,S94.F)::l70
noncomputable def o94:Ov:=ovL l94
theorem ok94:OvOk Tryd.prog (ovP 94 S94.F o70):=S94.ok no_count mixed ok70 fun args w v hl h=>by
 obtain ⟨b,rfl,hL,rfl⟩:=h
 obtain ⟨v',w',hc,e⟩:=run94 (ov:=o70) (chN rfl) (chH rfl) b w hl hL
 exact ⟨rfl,2,v',w',_,hc,e⟩
noncomputable def l55:List (Nat × PureF):=(55,S55.F)::l94
noncomputable def o55:Ov:=ovL l55
theorem ok55:OvOk Tryd.prog (ovP 55 S55.F o94):=S55.ok no_count mixed ok94 fun args w v hl h=>by
 obtain ⟨lo,hi,a,b,rfl,rfl⟩:=h
 obtain ⟨v',w',hc,e⟩:=run55 (ov:=o94) (chN rfl) lo hi a b w
 exact ⟨rfl,2,v',w',_,hc,e⟩
noncomputable def l53:List (Nat × PureF):=(53,S53.F)::l55
noncomputable def o53:Ov:=ovL l53
theorem ok53:OvOk Tryd.prog (ovP 53 S53.F o55):=S53.ok no_count mixed ok55 fun args w v hl h=>by
 obtain ⟨x,r,rfl,hv,hL,rfl⟩:=h
 obtain ⟨v',w',hc,e⟩:=run53 (ov:=o55) (chN rfl) (chH rfl) (chH rfl) r x w hl hv hL
 exact ⟨rfl,2,v',w',_,hc,e⟩
noncomputable def l54:List (Nat × PureF):=(54,S54.F)::l53
noncomputable def o54:Ov:=ovL l54
theorem ok54:OvOk Tryd.prog (ovP 54 S54.F o53):=S54.ok no_count mixed ok53 fun args w v hl h=>by
 obtain ⟨x,d,rfl,hv,hL,rfl⟩:=h
 obtain ⟨v',w',hc,e⟩:=run54 (ov:=o53) (chN rfl) (chH rfl) d x w hl hv hL
 exact ⟨rfl,2,v',w',_,hc,e⟩
noncomputable def l14:List (Nat × PureF):=(14,S14.F)::l54
noncomputable def o14:Ov:=ovL l14
theorem ok14:OvOk Tryd.prog (ovP 14 S14.F o54):=S14.ok no_count mixed ok54 fun args w v hl h=>by
 obtain ⟨x,y,r,d,rfl,hv,hd,hL,rfl⟩:=h
 obtain ⟨v',w',hc,e⟩:=run14 (ov:=o54) (chN rfl) (chH rfl) (chH rfl) r d x y w hv hd hL
 exact ⟨rfl,2,v',w',_,hc,e⟩
noncomputable def l15:List (Nat × PureF):=(15,S15.F)::l14
noncomputable def o15:Ov:=ovL l15
theorem ok15:OvOk Tryd.prog (ovP 15 S15.F o14):=S15.ok no_count mixed ok14 fun args w v hl h=>by
 obtain ⟨x,y,r,d,rfl,hv,hd,rfl⟩:=h
 obtain ⟨v',w',hc,e⟩:=run15 (ov:=o14) (chN rfl) (chH rfl) (chH rfl) r d x y w hv hd
 exact ⟨rfl,2,v',w',_,hc,e⟩
noncomputable def l100:List (Nat × PureF):=(100,S100.F)::l15
noncomputable def o100:Ov:=ovL l100
theorem ok100:OvOk Tryd.prog (ovP 100 S100.F o15):=S100.ok no_count mixed ok15 fun args w v hl h=>by
 obtain ⟨s,a,n,rfl,hs,ha,_,rfl⟩:=h
 obtain ⟨v',w',hc,e⟩:=run100 (ov:=o15) (chN rfl) s a n hs ha w hl
 exact ⟨rfl,2,v',w',_,hc,e⟩
noncomputable def l78:List (Nat × PureF):=(78,S78.F)::l100
noncomputable def o78:Ov:=ovL l78
theorem ok78:OvOk Tryd.prog (ovP 78 S78.F o100):=S78.ok no_count mixed ok100 fun args w v hl h=>by
 obtain ⟨rfl,_,rfl⟩:=h
 obtain ⟨v',w',hc,e⟩:=run78 (ov:=o100) (chN rfl) w hl
 exact ⟨rfl,2,v',w',_,hc,e⟩
noncomputable def l107:List (Nat × PureF):=(107,S107.F)::l78
noncomputable def o107:Ov:=ovL l107
theorem ok107:OvOk Tryd.prog (ovP 107 S107.F o78):=S107.ok no_count mixed ok78 fun args w v hl h=>by
 obtain ⟨x,n,y,s,rfl,hs,rfl⟩:=h
 obtain ⟨v',w',hc,e⟩:=run107 (ov:=o78) (chN rfl) x n y s w
 exact ⟨rfl,2,v',w',_,hc,e⟩
noncomputable def l108:List (Nat × PureF):=(108,S108.F)::l107
noncomputable def o108:Ov:=ovL l108
theorem ok108:OvOk Tryd.prog (ovP 108 S108.F o107):=S108.ok no_count mixed ok107 fun args w v hl h=>by
 obtain ⟨x,n,y,s,rfl,hs,rfl⟩:=h
 obtain ⟨v',w',hc,e⟩:=run108 (ov:=o107) (chN rfl) x n y s w
 exact ⟨rfl,2,v',w',_,hc,e⟩
noncomputable def l109:List (Nat × PureF):=(109,S109.F)::l108
noncomputable def o109:Ov:=ovL l109
theorem ok109:OvOk Tryd.prog (ovP 109 S109.F o108):=S109.ok no_count mixed ok108 fun args w v hl h=>by
 obtain ⟨x,n,y,s,rfl,hs,rfl⟩:=h
 obtain ⟨v',w',hc,e⟩:=run109 (ov:=o108) (chN rfl) x n y s hs w
 exact ⟨rfl,2,v',w',_,hc,e⟩
noncomputable def l110:List (Nat × PureF):=(110,S110.F)::l109
noncomputable def o110:Ov:=ovL l110
theorem ok110:OvOk Tryd.prog (ovP 110 S110.F o109):=S110.ok no_count mixed ok109 fun args w v hl h=>by
 obtain ⟨x,n,y,s,rfl,hs,rfl⟩:=h
 obtain ⟨v',w',hc,e⟩:=run110 (ov:=o109) (chN rfl) x n y s w
 exact ⟨rfl,2,v',w',_,hc,e⟩
noncomputable def l51:List (Nat × PureF):=(51,S51.F)::l110
noncomputable def o51:Ov:=ovL l51
theorem ok51:OvOk Tryd.prog (ovP 51 S51.F o110):=S51.ok no_count mixed ok110 fun args w v hl h=>by
 obtain ⟨rv,dv,av,r,d,acts,rfl,h1,h2,h3,hR,hD,rfl⟩:=h
 obtain ⟨v',w',hc,e⟩:=run51 (ov:=o110) (chN rfl) (chN rfl) (chN rfl) (chN rfl) (chH rfl) (chH rfl) (chH rfl) (chH rfl) (chH rfl) (chH rfl) r d hR hD acts rv dv av w hl h1 h2 h3
 exact ⟨(stgR_ground _),4,v',w',_,hc,e⟩
noncomputable def l80:List (Nat × PureF):=(80,S80.F)::l51
noncomputable def o80:Ov:=ovL l80
theorem ok80:OvOk Tryd.prog (ovP 80 S80.F o51):=S80.ok no_count mixed ok51 fun args w v hl h=>by
 obtain ⟨rv,dv,sv,r,d,so,a,rfl,h1,h2,h3,hR,hD,hso,rfl⟩:=h
 obtain ⟨v',w',hc,e⟩:=run80 (ov:=o51) (chN rfl) (chH rfl) (chH rfl) r d hR hD so a hso rv dv sv w hl h1 h2 h3
 exact ⟨rfl,2,v',w',_,hc,e⟩
noncomputable def l52:List (Nat × PureF):=(52,S52.F)::l80
noncomputable def o52:Ov:=ovL l52
theorem ok52:OvOk Tryd.prog (ovP 52 S52.F o80):=S52.ok no_count mixed ok80 fun args w v hl h=>by
 obtain ⟨rv,dv,av,r,d,acts,rfl,h1,h2,h3,hc,hR,hD,rfl⟩:=h
 obtain ⟨v',w',hc,e⟩:=run52 (ov:=o80) (chN rfl) (chH rfl) r d hR hD acts rv dv av w h1 h2 h3 hc
 exact ⟨rfl,2,v',w',_,hc,e⟩
noncomputable def l73:List (Nat × PureF):=(73,S73.F)::l52
noncomputable def o73:Ov:=ovL l73
theorem ok73:OvOk Tryd.prog (ovP 73 S73.F o52):=S73.ok no_count mixed ok52 fun args w v hl h=>by
 obtain ⟨rv,dv,r,d,b,rfl,h1,h2,hL,rfl⟩:=h
 obtain ⟨v',w',hc,e⟩:=run73 (ov:=o52) (chN rfl) (chH rfl) (chH rfl) r d b rv dv w h1 h2 hL
 exact ⟨rfl,2,v',w',_,hc,e⟩
noncomputable def l76:List (Nat × PureF):=(76,S76.F)::l73
noncomputable def o76:Ov:=ovL l76
theorem ok76:OvOk Tryd.prog (ovP 76 S76.F o73):=S76.ok no_count mixed ok73 fun args w v hl h=>by
 obtain ⟨rv,dv,r,d,b,rfl,h1,h2,rfl⟩:=h
 obtain ⟨v',w',hc,e⟩:=run76 (ov:=o73) (chN rfl) (chH rfl) (chH rfl) r d b rv dv w h1 h2
 exact ⟨rfl,2,v',w',_,hc,e⟩
noncomputable def l56:List (Nat × PureF):=(56,S56.F)::l76
noncomputable def o56:Ov:=ovL l56
theorem ok56:OvOk Tryd.prog (ovP 56 S56.F o76):=S56.ok no_count mixed ok76 fun args w v hl h=>by
 obtain ⟨rv,dv,av,r,d,b,acts,rfl,h1,h2,h3,hL,_,rfl⟩:=h
 obtain ⟨v',w',hc,e⟩:=run56 (ov:=o76) (chN rfl) (chH rfl) (chH rfl) r d b acts rv dv av w hl h1 h2 h3 hL
 exact ⟨rfl,2,v',w',_,hc,e⟩
noncomputable def l60:List (Nat × PureF):=(60,S60r.F)::l56
noncomputable def o60:Ov:=ovL l60
theorem ok60:OvOk Tryd.prog (ovP 60 S60r.F o56):=S60r.ok no_count mixed ok56 fun args w v hl h=>by
 obtain ⟨rv,dv,av,lv,r,d,b,acts,l,rfl,h1,h2,h3,h4,hc,rfl⟩:=h
 obtain ⟨v',w',hc,e⟩:=run60r (ov:=o56) (chN rfl) (chH rfl) (chH rfl) (chH rfl) r d b acts l rv dv av lv w h1 h2 h3 h4 hc
 exact ⟨rfl,2,v',w',_,hc,e⟩
noncomputable def l101:List (Nat × PureF):=(101,S101.F)::l60
noncomputable def o101:Ov:=ovL l101
theorem ok101:OvOk Tryd.prog (ovP 101 S101.F o60):=S101.ok no_count mixed ok60 fun args w v hl h=>by
 obtain ⟨c,b,rfl,hc,hb,rfl⟩:=h
 obtain ⟨v',w',hc,e⟩:=run101 (ov:=o60) (chN rfl) c b hc hb w
 exact ⟨rfl,2,v',w',_,hc,e⟩
noncomputable def l85:List (Nat × PureF):=(85,S85.F)::l101
noncomputable def o85:Ov:=ovL l85
theorem ok85:OvOk Tryd.prog (ovP 85 S85.F o101):=S85.ok no_count mixed ok101 fun args w v hl h=>by
 obtain ⟨c,b,rfl,hc,hb,rfl⟩:=h
 obtain ⟨v',w',hc,e⟩:=run85 (ov:=o101) (chN rfl) (chH rfl) c b hc hb w
 exact ⟨rfl,2,v',w',_,hc,e⟩
noncomputable def l61:List (Nat × PureF):=(61,S61.F)::l85
noncomputable def o61:Ov:=ovL l61
theorem ok61:OvOk Tryd.prog (ovP 61 S61.F o85):=S61.ok no_count mixed ok85 fun args w v hl h=>by
 obtain ⟨x,s,rfl,h,rfl⟩:=h
 obtain ⟨v',w',hc,e⟩:=run61 (ov:=o85) (chN rfl) (chH rfl) x s h w
 exact ⟨rfl,2,v',w',_,hc,e⟩
noncomputable def l84:List (Nat × PureF):=(84,S84.F)::l61
noncomputable def o84:Ov:=ovL l84
theorem ok84:OvOk Tryd.prog (ovP 84 S84.F o61):=S84.ok no_count mixed ok61 fun args w v hl h=>by
 obtain ⟨x,s,rfl,h,rfl⟩:=h
 obtain ⟨v',w',hc,e⟩:=run84 (ov:=o61) (chN rfl) x s h w
 exact ⟨rfl,2,v',w',_,hc,e⟩
noncomputable def l18:List (Nat × PureF):=(18,S18.F)::l84
noncomputable def o18:Ov:=ovL l18
theorem ok18:OvOk Tryd.prog (ovP 18 S18.F o84):=S18.ok no_count mixed ok84 fun args w v hl h=>by
 obtain ⟨a,b,L,rfl,h1,h2,hlen,rfl⟩:=h
 obtain ⟨v',w',hc,e⟩:=run18 (ov:=o84) (chN rfl) L hlen a b w h1 h2
 exact ⟨rfl,2,v',w',_,hc,e⟩
noncomputable def l22:List (Nat × PureF):=(22,S22.F)::l18
noncomputable def o22:Ov:=ovL l22
theorem ok22:OvOk Tryd.prog (ovP 22 S22.F o18):=S22.ok no_count mixed ok18 fun args w v hl h=>by
 obtain ⟨a,b,L,rfl,h1,h2,hlen,rfl⟩:=h
 obtain ⟨v',w',hc,e⟩:=run22 (ov:=o18) (chN rfl) L hlen a b w h1 h2
 exact ⟨rfl,2,v',w',_,hc,e⟩
noncomputable def l129:List (Nat × PureF):=(129,S129.F)::l22
noncomputable def o129:Ov:=ovL l129
theorem ok129:OvOk Tryd.prog (ovP 129 S129.F o22):=S129.ok no_count mixed ok22 fun args w v hl h=>by
 obtain ⟨p,rfl,h1,_,rfl⟩:=h
 obtain ⟨v',w',hc,e⟩:=run129 (ov:=o22) (chN rfl) p h1 w hl
 exact ⟨rfl,2,v',w',_,hc,e⟩
noncomputable def l130:List (Nat × PureF):=(130,S130.F)::l129
noncomputable def o130:Ov:=ovL l130
theorem ok130:OvOk Tryd.prog (ovP 130 S130.F o129):=S130.ok no_count mixed ok129 fun args w v hl h=>by
 obtain ⟨p,rfl,h1,h2,_,rfl⟩:=h
 obtain ⟨v',w',hc,e⟩:=run130 (ov:=o129) (chN rfl) p h1 h2 w hl
 exact ⟨rfl,2,v',w',_,hc,e⟩
noncomputable def l131:List (Nat × PureF):=(131,S131.F)::l130
noncomputable def o131:Ov:=ovL l131
theorem ok131:OvOk Tryd.prog (ovP 131 S131.F o130):=S131.ok no_count mixed ok130 fun args w v hl h=>by
 obtain ⟨p,rfl,h1,h2,_,rfl⟩:=h
 obtain ⟨v',w',hc,e⟩:=run131 (ov:=o130) (chN rfl) p h1 h2 w hl
 exact ⟨rfl,2,v',w',_,hc,e⟩
noncomputable def l111:List (Nat × PureF):=(111,S111.F)::l131
noncomputable def o111:Ov:=ovL l111
theorem ok111:OvOk Tryd.prog (ovP 111 S111.F o131):=S111.ok no_count mixed ok131 fun args w v hl h=>by
 obtain ⟨s,p,lv,rfl,hv,h1,h2,_,rfl⟩:=h
 obtain ⟨v',w',hc,e⟩:=run111 (ov:=o131) (chN rfl) (chH rfl) s p lv h1 h2 w hl hv
 exact ⟨rfl,2,v',w',_,hc,e⟩
noncomputable def l112:List (Nat × PureF):=(112,S112.F)::l111
noncomputable def o112:Ov:=ovL l112
theorem ok112:OvOk Tryd.prog (ovP 112 S112.F o111):=S112.ok no_count mixed ok111 fun args w v hl h=>by
 obtain ⟨s,p,lv,rfl,hv,h1,h2,_,rfl⟩:=h
 obtain ⟨v',w',hc,e⟩:=run112 (ov:=o111) (chN rfl) (chH rfl) s p lv h1 h2 w hl hv
 exact ⟨rfl,2,v',w',_,hc,e⟩
noncomputable def l102:List (Nat × PureF):=(102,S102.F)::l112
noncomputable def o102:Ov:=ovL l102
theorem ok102:OvOk Tryd.prog (ovP 102 S102.F o112):=S102.ok no_count mixed ok112 fun args w v hl h=>by
 obtain ⟨s,l,lv,rfl,hv,h1,h2,_,rfl⟩:=h
 obtain ⟨v',w',hc,e⟩:=run102 (ov:=o112) (chN rfl) (chH rfl) s l lv h1 h2 w hl hv
 exact ⟨rfl,2,v',w',_,hc,e⟩
noncomputable def l104:List (Nat × PureF):=(104,S104.F)::l102
noncomputable def o104:Ov:=ovL l104
theorem ok104:OvOk Tryd.prog (ovP 104 S104.F o102):=S104.ok no_count mixed ok102 fun args w v hl h=>by
 obtain ⟨b,pv,L,W,rfl,hv,h1,hL,h2,h3,_,rfl⟩:=h
 obtain ⟨v',w',hc,e⟩:=run104 (ov:=o102) (chN rfl) (chN rfl) (chH rfl) (chH rfl) (chH rfl) b pv L W h1 hL h2 h3 w hl hv
 exact ⟨(narR_ground _),3,v',w',_,hc,e⟩
noncomputable def l64:List (Nat × PureF):=(64,S64.F)::l104
noncomputable def o64:Ov:=ovL l64
theorem ok64:OvOk Tryd.prog (ovP 64 S64.F o104):=S64.ok no_count mixed ok104 fun args w v hl h=>by
 obtain ⟨b,p,n,c,rfl,hn,rfl⟩:=h
 obtain ⟨v',w',hc,e⟩:=run64 (ov:=o104) (chN rfl) b p n c hn w
 exact ⟨rfl,2,v',w',_,hc,e⟩
noncomputable def l86:List (Nat × PureF):=(86,S86.F)::l64
noncomputable def o86:Ov:=ovL l86
theorem ok86:OvOk Tryd.prog (ovP 86 S86.F o64):=S86.ok no_count mixed ok64 fun args w v hl h=>by
 obtain ⟨b,pv,lv,L,l,rfl,hpv,hlen,hL,hb,hlv,h10,hR,hLim,_,rfl⟩:=h
 obtain ⟨v',w',hc,e⟩:=run86 (ov:=o64) (chN rfl) (chN rfl) (chH rfl) (chH rfl) (chH rfl) b hb L hlen hL l h10 hR pv lv w hl hLim hpv hlv
 exact ⟨(narR_ground _),3,v',w',_,hc,e⟩
noncomputable def l88:List (Nat × PureF):=(88,S88.F)::l86
noncomputable def o88:Ov:=ovL l88
theorem ok88:OvOk Tryd.prog (ovP 88 S88.F o86):=S88.ok no_count mixed ok86 fun args w v hl h=>by
 obtain ⟨b,pv,L,V,D,rfl,hpv,hlen,hL,hV,hVb,hD,_,rfl⟩:=h
 obtain ⟨v',w',hc,e⟩:=run88 (ov:=o86) (chN rfl) (chH rfl) (chH rfl) b pv L V D hlen hL hV hVb hD w hl hpv
 exact ⟨(rows_ground _),2,v',w',_,hc,e⟩
noncomputable def l89:List (Nat × PureF):=(89,S89.F)::l88
noncomputable def o89:Ov:=ovL l89
theorem ok89:OvOk Tryd.prog (ovP 89 S89.F o88):=S89.ok no_count mixed ok88 fun args w v hl h=>by
 obtain ⟨lv,l,n,rfl,hv,hL,_,rfl⟩:=h
 obtain ⟨v',w',hc,e⟩:=run89 (ov:=o88) (chN rfl) (chH rfl) l n lv w hl hL hv
 exact ⟨rfl,2,v',w',_,hc,e⟩
noncomputable def l68:List (Nat × PureF):=(68,S68.F)::l89
noncomputable def o68:Ov:=ovL l68
theorem ok68:OvOk Tryd.prog (ovP 68 S68.F o89):=S68.ok no_count mixed ok89 fun args w v hl h=>by
 obtain ⟨rv,dv,av,lv,r,d,b,acts,l,rfl,h1,h2,h3,h4,hL,_,rfl⟩:=h
 obtain ⟨v',w',hc,e⟩:=run68 (ov:=o89) (chN rfl) (chH rfl) (chH rfl) r d b acts l rv dv av lv w hl hL h1 h2 h3 h4
 exact ⟨rfl,2,v',w',_,hc,e⟩
noncomputable def l43:List (Nat × PureF):=(43,S43.F)::l68
noncomputable def o43:Ov:=ovL l43
theorem ok43:OvOk Tryd.prog (ovP 43 S43.F o68):=S43.ok no_count mixed ok68 fun args w v hl h=>by
 obtain ⟨av,bv,a,b,rfl,h1,h2,h3,h4,rfl⟩:=h
 obtain ⟨v',w',hc,e⟩:=run43 (ov:=o68) (chN rfl) av bv a b w h1 h2 h3 h4
 exact ⟨rfl,2,v',w',_,hc,e⟩
noncomputable def l113:List (Nat × PureF):=(113,S113.F)::l43
noncomputable def o113:Ov:=ovL l113
theorem ok113:OvOk Tryd.prog (ovP 113 S113.F o43):=S113.ok no_count mixed ok43 fun args w v hl h=>by
 obtain ⟨lv,L,x,rfl,h1,h2,rfl⟩:=h
 obtain ⟨v',w',hc,e⟩:=run113 (ov:=o43) (chN rfl) lv L x w h1 h2
 exact ⟨rfl,2,v',w',_,hc,e⟩
noncomputable def l105:List (Nat × PureF):=(105,S105.F)::l113
noncomputable def o105:Ov:=ovL l105
theorem ok105:OvOk Tryd.prog (ovP 105 S105.F o113):=S105.ok no_count mixed ok113 fun args w v hl h=>by
 obtain ⟨lv,L,x,rfl,h1,h2,rfl⟩:=h
 obtain ⟨v',w',hc,e⟩:=run105 (ov:=o113) (chN rfl) (chH rfl) lv L x w h1 h2
 exact ⟨rfl,2,v',w',_,hc,e⟩
noncomputable def l87:List (Nat × PureF):=(87,S87.F)::l105
noncomputable def o87:Ov:=ovL l87
theorem ok87:OvOk Tryd.prog (ovP 87 S87.F o105):=S87.ok no_count mixed ok105 fun args w v hl h=>by
 obtain ⟨a,b,rfl,_,rfl⟩:=h
 obtain ⟨v',w',hc,e⟩:=run87 (ov:=o105) (chN rfl) a b w hl
 exact ⟨rfl,2,v',w',_,hc,e⟩
theorem top_true (r:List CAct) (d:List CDay) (b:CBox) (acts:List Int) (l:List CRead) (rv dv av lv:Value) (w:AW) (hl:w.lim=w.next) (hL:LimW w) (hrv:RowsV actC w rv r) (hdv:RowsV cdayC w dv d) (hav:RowsV intC w av acts) (hcap:CapV av) (hlv:RowsV readC w lv l):∃ w' x',(run Tryd.prog o87 16).call 4 [.agg ⟨curC rv dv b av⟩,lv] w .none=.ok (.ret (.bool true)) w' x':=by
 obtain ⟨_,w',h1,rfl⟩:=call4 (ov:=o87) (chN rfl) (chN rfl) (chN rfl) (chN rfl) (chN rfl) (chN rfl) (chN rfl) (chN rfl) (chN rfl) (chN rfl) (chN rfl) (chN rfl) (chN rfl) (chN rfl) (chN rfl) (chN rfl) (chN rfl) (chN rfl) (chH rfl) (chH rfl) (chH rfl) (chH rfl) (chH rfl) (chH rfl) (chH rfl) (chH rfl) (chH rfl) (chH rfl) (chH rfl) (chH rfl) (chH rfl) (chW rfl) r d b acts l rv dv av lv w hl hL hrv hdv hav hcap hlv
 exact ⟨w',_,h1⟩
end Go.Proofs.YtlkklcbjjompbaaDoor.walk
namespace Go.Proofs.YtlkklcbjjompbaaDoor.walk
open Go Go.Sh Go.ChangeShapes Go.WideShapes Go.ChangeAt Go.RowKit
set_option maxRecDepth 100000
theorem u3:Tryd.prog.underlying 3=some (.int .i64):=by kernel_rfl
theorem u4:Tryd.prog.underlying 4=some .bool:=by kernel_rfl
theorem u22:Tryd.prog.underlying 22=some (.slice 78):=by kernel_rfl
theorem u23:Tryd.prog.underlying 23=some (.slice 83):=by kernel_rfl
theorem u28:Tryd.prog.underlying 28=some (.slice 3):=by kernel_rfl
theorem u25:Tryd.prog.underlying 25=some (.struct (fieldsOf Tryd.prog 25)):=by kernel_rfl
theorem u27:Tryd.prog.underlying 27=some (.struct (fieldsOf Tryd.prog 27)):=by kernel_rfl
theorem u30:Tryd.prog.underlying 30=some (.struct (fieldsOf Tryd.prog 30)):=by kernel_rfl
theorem u78:Tryd.prog.underlying 78=some (.struct (fieldsOf Tryd.prog 78)):=by kernel_rfl
theorem u83:Tryd.prog.underlying 83=some (.struct (fieldsOf Tryd.prog 83)):=by kernel_rfl
theorem f25:(fieldsOf Tryd.prog 25).toList.map (fun f=>(f.type,f.offset))=[(3,0),(3,1)]:=by kernel_rfl
theorem f27:(fieldsOf Tryd.prog 27).toList.map (fun f=>(f.type,f.offset))=[(25,0),(25,2)]:=by kernel_rfl
theorem f30:(fieldsOf Tryd.prog 30).toList.map (fun f=>(f.type,f.offset))=[(22,0),(23,1),(27,2),(28,6)]:=by kernel_rfl
theorem f78:(fieldsOf Tryd.prog 78).toList.map (fun f=>(f.type,f.offset))=[(3,0),(3,1),(4,2),(4,3),(3,4),(25,5)]:=by kernel_rfl
theorem f83:(fieldsOf Tryd.prog 83).toList.map (fun f=>(f.type,f.offset))=[(25,0),(4,2)]:=by kernel_rfl
theorem c3:Tryd.prog.cellsOf 3=1:=by kernel_rfl
theorem c4:Tryd.prog.cellsOf 4=1:=by kernel_rfl
theorem c22:Tryd.prog.cellsOf 22=1:=by kernel_rfl
theorem c23:Tryd.prog.cellsOf 23=1:=by kernel_rfl
theorem c28:Tryd.prog.cellsOf 28=1:=by kernel_rfl
theorem c25:Tryd.prog.cellsOf 25=2:=by kernel_rfl
theorem c27:Tryd.prog.cellsOf 27=4:=by kernel_rfl
theorem c30:Tryd.prog.cellsOf 30=7:=by kernel_rfl
theorem c78:Tryd.prog.cellsOf 78=7:=by kernel_rfl
theorem c83:Tryd.prog.cellsOf 83=3:=by kernel_rfl
theorem toBoolW {H:T AObj} {n:Nat} {cs:List Value} (h:WT Tryd.prog H n 4 cs):∃ b,cs=[.bool b]:=by
 cases h with
 | bool hu=>exact ⟨_,rfl⟩
 | int hu _=>rw [u4] at hu; cases hu
 | string hu _=>rw [u4] at hu; cases hu
 | slNil hu=>rw [u4] at hu; cases hu
 | sl0 hu=>rw [u4] at hu; cases hu
 | sl hu _ _ _ _ _ _=>rw [u4] at hu; cases hu
 | struct hu _ _=>rw [u4] at hu; cases hu
 | array hu _ _=>rw [u4] at hu; cases hu
theorem span_of {H:T AObj} {n:Nat} {cs:List Value} (h:WT Tryd.prog H n 25 cs):∃ a b,cs=[.int .i64 a,.int .i64 b]:=by
 obtain ⟨hl,hf⟩:=h.toStruct u25
 rw [f25] at hf
 rw [c25] at hl
 obtain ⟨a,ha,_⟩:=(hf (3,0) (by simp)).toInt u3
 obtain ⟨b,hb,_⟩:=(hf (3,1) (by simp)).toInt u3
 rw [c3] at ha hb
 match cs,hl with
 | [x,y],_ =>
  simp at ha hb
  exact ⟨a,b,by rw [ha,hb]⟩
theorem act_ofW {H:T AObj} {n:Nat} {cs:List Value} (h:WT Tryd.prog H n 78 cs):∃ a,cs=actC a:=by
 obtain ⟨hl,hf⟩:=h.toStruct u78
 rw [f78] at hf
 rw [c78] at hl
 obtain ⟨a,ha,_⟩:=(hf (3,0) (by simp)).toInt u3
 obtain ⟨b,hb,_⟩:=(hf (3,1) (by simp)).toInt u3
 obtain ⟨c,hc⟩:=toBoolW (hf (4,2) (by simp))
 obtain ⟨d,hd⟩:=toBoolW (hf (4,3) (by simp))
 obtain ⟨e,he,_⟩:=(hf (3,4) (by simp)).toInt u3
 obtain ⟨p,q,hp⟩:=span_of (hf (25,5) (by simp))
 rw [c3] at ha hb he
 rw [c4] at hc hd
 rw [c25] at hp
 match cs,hl with
 | [x0,x1,x2,x3,x4,x5,x6],_ =>
  simp at ha hb hc hd he hp
  exact ⟨⟨a,b,c,d,e,p,q⟩,by rw [ha,hb,hc,hd,he,hp.1,hp.2]; rfl⟩
theorem day_ofW {H:T AObj} {n:Nat} {cs:List Value} (h:WT Tryd.prog H n 83 cs):∃ a,cs=cdayC a:=by
 obtain ⟨hl,hf⟩:=h.toStruct u83
 rw [f83] at hf
 rw [c83] at hl
 obtain ⟨p,q,hp⟩:=span_of (hf (25,0) (by simp))
 obtain ⟨c,hc⟩:=toBoolW (hf (4,2) (by simp))
 rw [c4] at hc
 rw [c25] at hp
 match cs,hl with
 | [x0,x1,x2],_ =>
  simp at hc hp
  exact ⟨⟨p,q,c⟩,by rw [hc,hp.1,hp.2]; rfl⟩
theorem box_ofW {H:T AObj} {n:Nat} {cs:List Value} (h:WT Tryd.prog H n 27 cs):∃ b,cs=boxC b:=by
 obtain ⟨hl,hf⟩:=h.toStruct u27
 rw [f27] at hf
 rw [c27] at hl
 obtain ⟨a,b,ha⟩:=span_of (hf (25,0) (by simp))
 obtain ⟨c,d,hc⟩:=span_of (hf (25,2) (by simp))
 rw [c25] at ha hc
 match cs,hl with
 | [x0,x1,x2,x3],_ =>
  simp at ha hc
  exact ⟨⟨a,b,c,d⟩,by rw [ha.1,ha.2,hc.1,hc.2]; rfl⟩
theorem rows_ofW {α:Type} {f:α→List Value} {m:Nat} {H:T AObj} {n lim:Nat} {t e:TypeId} {cs:List Value} (hu:Tryd.prog.underlying t=some (.slice e)) (hc:Tryd.prog.cellsOf e=m) (hf:∀ a,(f a).length=m) (hone:∀ cs,WT Tryd.prog H n e cs→∃ a,cs=f a) (h:WT Tryd.prog H n t cs) :
  ∃ v l,cs=[v]∧RowsV f ⟨H,n,lim⟩ v l∧CapV v:=by
 obtain ⟨v,l,hv,hr⟩:=rows_of_WT (lim:=lim) hu hc hf hone h
 refine ⟨v,l,hv,hr,?_⟩
 rcases WT.toSlice hu h with ⟨a,ha⟩ | ⟨b,k,c,ty,ro,ha,_⟩
 ·rw [hv] at ha; cases ha; exact ⟨a,0,0,rfl,Nat.le_refl _⟩
 ·rw [hv] at ha; cases ha; exact ⟨_,k,k,rfl,Nat.le_refl _⟩
theorem ints_of {H:T AObj} {n lim:Nat} {cs:List Value} (h:WT Tryd.prog H n 28 cs):∃ v l,cs=[v]∧RowsV intC ⟨H,n,lim⟩ v l∧CapV v :=
 rows_ofW u28 c3 intC_length (fun cs h=>by
  obtain ⟨z,hz,_⟩:=h.toInt u3
  exact ⟨z,hz⟩) h
theorem cured_arg {A:AW} {m:Value} (h:ArgT Tryd.prog A.heap A.next 30 m):∃ rv dv b av r d acts,m=.agg ⟨curC rv dv b av⟩∧RowsV actC A rv r∧RowsV cdayC A dv d∧RowsV intC A av acts∧CapV av:=by
 unfold ArgT at h
 rw [u30] at h
 obtain ⟨c,rfl,h⟩:=h
 obtain ⟨hl,hf⟩:=h.toStruct u30
 rw [f30] at hf
 rw [c30] at hl
 obtain ⟨rv,r,hr,hR,_⟩:=rows_ofW (lim:=A.lim) u22 c78 actC_length (fun cs h=>act_ofW h) (hf (22,0) (by simp))
 obtain ⟨dv,d,hd,hD,_⟩:=rows_ofW (lim:=A.lim) u23 c83 cdayC_length (fun cs h=>day_ofW h) (hf (23,1) (by simp))
 obtain ⟨b,hb⟩:=box_ofW (hf (27,2) (by simp))
 obtain ⟨av,acts,ha,hA,hC⟩:=ints_of (lim:=A.lim) (hf (28,6) (by simp))
 rw [c22] at hr
 rw [c23] at hd
 rw [c27] at hb
 rw [c28] at ha
 match c,hl with
 | [x0,x1,x2,x3,x4,x5,x6],_ =>
  simp [boxC] at hr hd hb ha
  exact ⟨rv,dv,b,av,r,d,acts,by rw [hr,hd,hb.1,hb.2.1,hb.2.2.1,hb.2.2.2,ha]; rfl,hR,hD,hA,hC⟩
theorem u42:Tryd.prog.underlying 42=some (.slice 72):=by kernel_rfl
theorem u72:Tryd.prog.underlying 72=some (.struct (fieldsOf Tryd.prog 72)):=by kernel_rfl
theorem f72:(fieldsOf Tryd.prog 72).toList.map (fun f=>(f.type,f.offset))=[(3,0),(3,1),(3,2)]:=by kernel_rfl
theorem c72:Tryd.prog.cellsOf 72=3:=by kernel_rfl
theorem read_ofW {H:T AObj} {n:Nat} {cs:List Value} (h:WT Tryd.prog H n 72 cs):∃ a,cs=readC a:=by
 obtain ⟨hl,hf⟩:=h.toStruct u72
 rw [f72] at hf
 rw [c72] at hl
 obtain ⟨a,ha,_⟩:=(hf (3,0) (by simp)).toInt u3
 obtain ⟨b,hb,_⟩:=(hf (3,1) (by simp)).toInt u3
 obtain ⟨c,hc,_⟩:=(hf (3,2) (by simp)).toInt u3
 rw [c3] at ha hb hc
 match cs,hl with
 | [x0,x1,x2],_ =>
  simp at ha hb hc
  exact ⟨⟨a,b,c⟩,by rw [ha,hb,hc]; rfl⟩
theorem reads_arg {A:AW} {m:Value} (h:ArgT Tryd.prog A.heap A.next 42 m):∃ l,RowsV readC A m l:=by
 unfold ArgT at h
 rw [u42] at h
 obtain ⟨v,l,hv,hr,_⟩:=rows_ofW (lim:=A.lim) u42 c72 readC_length (fun cs h=>read_ofW h) h
 cases hv
 exact ⟨l,hr⟩
theorem lim_start:(startH laidL).get 0=some (.cells limC 141 true):=by
 show ((startH []).put 0 (some (.cells limC 141 true))).get 0=_
 rw [get_put,if_pos rfl]
theorem lim_atA {A:AW} (hG:Tryd.prog.globals.size≤A.next) (hs:∀ b,b < Tryd.prog.globals.size→A.heap.get b=(startH laidL).get b):LimW A:=by
 rw [globals1] at hG hs
 exact ⟨⟨true,by rw [hs 0 (by decide),lim_start]⟩,hG⟩
theorem ty30:tyOk Tryd.prog 6 30=true:=by kernel_rfl
theorem ty42:tyOk Tryd.prog 6 42=true:=by kernel_rfl
theorem start_true (A:AW) (ms:List Value) (hl:A.lim=A.next) (hG:Tryd.prog.globals.size≤A.next) (hs:∀ b,b < Tryd.prog.globals.size→A.heap.get b=(startH laidL).get b) (hms:ArgsT Tryd.prog A.heap A.next [30,42] ms) (_hz:∀ (j:Nat) t e a k c,[30,42][j]?=some t→Tryd.prog.underlying t=some (.slice e)→ms[j]?=some (.slice a k c)→k * Tryd.prog.bytesOf e≤reachBytes) :
  ∃ A' x',(run Tryd.prog o87 16).call 4 ms A .none=.ok (.ret (.bool true)) A' x':=by
 have hL:=lim_atA hG hs
 match ms,hms with
 | [m1,m2],hm =>
  obtain ⟨rv,dv,b,av,r,d,acts,rfl,h1,h2,h3,hc⟩:=cured_arg hm.1
  obtain ⟨l,h4⟩:=reads_arg hm.2.1
  exact top_true r d b acts l rv dv av m2 A hl hL h1 h2 h3 hc h4
end Go.Proofs.YtlkklcbjjompbaaDoor.walk
