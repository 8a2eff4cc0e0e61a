/- Part of a proof: see the text with the theorem. -/
import Derived.Test.YtnjknghdpobcmaaGreatDoorZEb
import Derived.Test.YtnjknghdpobcmaaGreatDoorZF1
import Derived.Test.YtnjknghdpobcmaaGreatDoorZK1
import Derived.Test.YtnjknghdpobcmaaGreatDoorShF
set_option linter.all false
namespace Go.Proofs.YtnjknghdpobcmaaGreatDoor.walk
open Go Go.Sh
set_option maxRecDepth 100000
theorem sz_le:Tryz.prog.globals.size≤9:=by rw [globals9]; exact Nat.le_refl _
noncomputable def oZ:Ov:=memoOv 22 [] laidL (.bool true) noOv
theorem okZ:OvOk Tryz.prog oZ:=memo_ok no_count mixed pure_okZ works_true (by kernel_rfl) (by kernel_rfl) sz_le (by kernel_rfl) ov_none
theorem oZ_none {f:Nat} (hf:f ≠ 22) (args:List Value) (w:AW):oZ f args w=none:=by
 have:Nat.beq f 22=false:=by rw [← Bool.not_eq_true]; intro h; exact hf (Nat.eq_of_beq_eq_true h)
 simp [oZ,memoOv,this,noOv]
theorem oZ_has:HasZ oZ:=fun w hw=>by
 simp [oZ,memoOv,hw,sameL5,sameVal.sameVals]
theorem HasZ.skip {f:Nat} {F:PureF} {rest:Ov} (hf:22 ≠ f) (h:HasZ rest):HasZ (ovP f F rest):=fun w hw=>by simp [ovP,hf,h w hw]
noncomputable def ovL:List (Nat × PureF)→Ov
 | []=>oZ
 | x::l=>ovP x.1 x.2 (ovL l)
def keyB (g:Nat):List (Nat × PureF)→Bool
 | []=>Nat.beq g 22
 | x::l=>Nat.beq g x.1 || keyB g l
def lookF (g:Nat):List (Nat × PureF)→Option PureF
 | []=>none
 | x::l=>bif Nat.beq g x.1 then some x.2 else lookF g l
theorem beq_no {a b:Nat} (h:Nat.beq a b=false):a ≠ b:=fun e=>by rw [e,Nat.beq_refl] at h; cases h
theorem chN {g:Nat}:∀ {l:List (Nat × PureF)},keyB g l=false→∀ args w,ovL l g args w=none
 | [],h=>oZ_none (beq_no h)
 | x::l,h=>by
  simp only [keyB,Bool.or_eq_false_iff] at h
  exact ovP_none (beq_no h.1) (chN h.2)
theorem chH {g:Nat} {F:PureF}:∀ {l:List (Nat × PureF)},lookF g l=some F→HasP (ovL l) g F
 | [],h=>by cases h
 | x::l,h=>by
  simp only [lookF] at h
  cases hb:Nat.beq g x.1 with
  | true =>
   rw [hb] at h
   cases h
   have e:=Nat.eq_of_beq_eq_true hb
   subst e
   exact .here
  | false =>
   rw [hb] at h
   exact HasP.skip (beq_no hb) (chH h)
def memB (g:Nat):List (Nat × PureF)→Bool
 | []=>false
 | x::l=>Nat.beq g x.1 || memB g l
theorem chZ:∀ {l:List (Nat × PureF)},memB 22 l=false→HasZ (ovL l)
 | [],_=>oZ_has
 | x::l,h=>by
  simp only [memB,Bool.or_eq_false_iff] at h
  exact HasZ.skip (beq_no h.1) (chZ h.2)
noncomputable def cl138:List (Nat × PureF):=(138,S138.F)::[]
noncomputable def oq138:Ov:=ovL cl138
theorem okq138:OvOk Tryz.prog (ovP 138 S138.F (ovL [])):=S138.ok no_count mixed okZ fun args w v hl h=>by
 obtain ⟨c,rfl,rfl⟩:=h
 obtain ⟨_,w',hc,rfl⟩:=run138 (ov:=(ovL [])) (chN rfl) c w
 exact ⟨rfl,2,_,w',_,hc,rfl⟩
noncomputable def cl139:List (Nat × PureF):=(139,S139.F)::cl138
noncomputable def oq139:Ov:=ovL cl139
theorem okq139:OvOk Tryz.prog (ovP 139 S139.F oq138):=S139.ok no_count mixed okq138 fun args w v hl h=>by
 obtain ⟨c,rfl,rfl⟩:=h
 obtain ⟨_,w',hc,rfl⟩:=run139 (ov:=oq138) (chN rfl) c w
 exact ⟨rfl,2,_,w',_,hc,rfl⟩
noncomputable def cl99:List (Nat × PureF):=(99,S99.F)::cl139
noncomputable def oq99:Ov:=ovL cl99
theorem okq99:OvOk Tryz.prog (ovP 99 S99.F oq139):=S99.ok no_count mixed okq139 fun args w v hl h=>by
 obtain ⟨s,rfl,rfl⟩:=h
 obtain ⟨_,w',hc,rfl⟩:=run99 (ov:=oq139) (chN rfl) (chH rfl) (chH rfl) s w
 exact ⟨rfl,2,_,w',_,hc,rfl⟩
noncomputable def cl100:List (Nat × PureF):=(100,S100.F)::cl99
noncomputable def oq100:Ov:=ovL cl100
theorem okq100:OvOk Tryz.prog (ovP 100 S100.F oq99):=S100.ok no_count mixed okq99 fun args w v hl h=>by
 obtain ⟨n,a,b,rfl,rfl⟩:=h
 obtain ⟨_,w',hc,rfl⟩:=run100 (ov:=oq99) (chN rfl) n a b w
 exact ⟨rfl,2,_,w',_,hc,rfl⟩
noncomputable def cl122:List (Nat × PureF):=(122,S122.F)::cl100
noncomputable def oq122:Ov:=ovL cl122
theorem okq122:OvOk Tryz.prog (ovP 122 S122.F oq100):=S122.ok no_count mixed okq100 fun args w v hl h=>by
 obtain ⟨n,rfl,rfl⟩:=h
 obtain ⟨_,w',hc,rfl⟩:=run122 (ov:=oq100) (chN rfl) (chH rfl) n w
 exact ⟨rfl,2,_,w',_,hc,rfl⟩
noncomputable def cl68:List (Nat × PureF):=(68,S68.F)::cl122
noncomputable def oq68:Ov:=ovL cl68
theorem okq68:OvOk Tryz.prog (ovP 68 S68.F oq122):=S68.ok no_count mixed okq122 fun args w v hl h=>by
 obtain ⟨n,rfl,rfl⟩:=h
 obtain ⟨_,w',hc,rfl⟩:=run68 (ov:=oq122) (chN rfl) (chH rfl) n w
 exact ⟨rfl,2,_,w',_,hc,rfl⟩
noncomputable def cl67:List (Nat × PureF):=(67,S67.F)::cl68
noncomputable def oq67:Ov:=ovL cl67
theorem okq67:OvOk Tryz.prog (ovP 67 S67.F oq68):=S67.ok no_count mixed okq68 fun args w v hl h=>by
 obtain ⟨u,L,rfl,hv,hn,rfl⟩:=h
 obtain ⟨_,w',hc,rfl⟩:=run67 (ov:=oq68) (chN rfl) (chH rfl) u L w hv hn
 exact ⟨rfl,2,_,w',_,hc,rfl⟩
noncomputable def cl89:List (Nat × PureF):=(89,S89.F)::cl67
noncomputable def oq89:Ov:=ovL cl89
theorem okq89:OvOk Tryz.prog (ovP 89 S89.F oq67):=S89.ok no_count mixed okq67 fun args w v hl h=>by
 obtain ⟨n,rfl,rfl⟩:=h
 obtain ⟨_,w',hc,rfl⟩:=run89 (ov:=oq67) (chN rfl) (chH rfl) (chH rfl) (chH rfl) (chH rfl) (chH rfl) n w hl
 exact ⟨rfl,2,_,w',_,hc,rfl⟩
noncomputable def cl57:List (Nat × PureF):=(57,S57.F)::cl89
noncomputable def oq57:Ov:=ovL cl57
theorem okq57:OvOk Tryz.prog (ovP 57 S57.F oq89):=S57.ok no_count mixed okq89 fun args w v hl h=>by
 obtain ⟨u,L,rfl,hv,rfl⟩:=h
 obtain ⟨_,w',hc,rfl⟩:=run57 (ov:=oq89) (chN rfl) (chH rfl) u L w hv (Nat.le_of_eq hl)
 exact ⟨rfl,2,_,w',_,hc,rfl⟩
noncomputable def cl183:List (Nat × PureF):=(183,S183.F)::cl57
noncomputable def oq183:Ov:=ovL cl183
theorem okq183:OvOk Tryz.prog (ovP 183 S183.F oq57):=S183.ok no_count mixed okq57 fun args w v hl h=>by
 obtain ⟨a,rfl,rfl⟩:=h
 obtain ⟨_,w',hc,rfl⟩:=run183 (ov:=oq57) (chN rfl) a w
 exact ⟨rfl,2,_,w',_,hc,rfl⟩
noncomputable def cl184:List (Nat × PureF):=(184,S184.F)::cl183
noncomputable def oq184:Ov:=ovL cl184
theorem okq184:OvOk Tryz.prog (ovP 184 S184.F oq183):=S184.ok no_count mixed okq183 fun args w v hl h=>by
 obtain ⟨a,rfl,rfl⟩:=h
 obtain ⟨_,w',hc,rfl⟩:=run184 (ov:=oq183) (chN rfl) a w
 exact ⟨rfl,2,_,w',_,hc,rfl⟩
noncomputable def cl164:List (Nat × PureF):=(164,S164.F)::cl184
noncomputable def oq164:Ov:=ovL cl164
theorem okq164:OvOk Tryz.prog (ovP 164 S164.F oq184):=S164.ok no_count mixed okq184 fun args w v hl h=>by
 obtain ⟨a,b,rfl,rfl⟩:=h
 obtain ⟨_,w',hc,rfl⟩:=run164 (ov:=oq184) (chN rfl) (chH rfl) a b w
 exact ⟨rfl,2,_,w',_,hc,rfl⟩
noncomputable def cl165:List (Nat × PureF):=(165,S165.F)::cl164
noncomputable def oq165:Ov:=ovL cl165
theorem okq165:OvOk Tryz.prog (ovP 165 S165.F oq164):=S165.ok no_count mixed okq164 fun args w v hl h=>by
 obtain ⟨a,b,rfl,rfl⟩:=h
 obtain ⟨_,w',hc,rfl⟩:=run165 (ov:=oq164) (chN rfl) (chH rfl) a b w
 exact ⟨rfl,2,_,w',_,hc,rfl⟩
noncomputable def cl125:List (Nat × PureF):=(125,S125.F)::cl165
noncomputable def oq125:Ov:=ovL cl125
theorem okq125:OvOk Tryz.prog (ovP 125 S125.F oq165):=S125.ok no_count mixed okq165 fun args w v hl h=>by
 obtain ⟨a,b,rfl,rfl⟩:=h
 obtain ⟨_,w',hc,rfl⟩:=run125 (ov:=oq165) (chN rfl) (chH rfl) a b w
 exact ⟨rfl,2,_,w',_,hc,rfl⟩
noncomputable def cl126:List (Nat × PureF):=(126,S126.F)::cl125
noncomputable def oq126:Ov:=ovL cl126
theorem okq126:OvOk Tryz.prog (ovP 126 S126.F oq125):=S126.ok no_count mixed okq125 fun args w v hl h=>by
 obtain ⟨a,b,rfl,rfl⟩:=h
 obtain ⟨_,w',hc,rfl⟩:=run126 (ov:=oq125) (chN rfl) (chH rfl) a b w
 exact ⟨rfl,2,_,w',_,hc,rfl⟩
noncomputable def cl127:List (Nat × PureF):=(127,S127.F)::cl126
noncomputable def oq127:Ov:=ovL cl127
theorem okq127:OvOk Tryz.prog (ovP 127 S127.F oq126):=S127.ok no_count mixed okq126 fun args w v hl h=>by
 obtain ⟨a,b,rfl,rfl⟩:=h
 obtain ⟨_,w',hc,rfl⟩:=run127 (ov:=oq126) (chN rfl) (chH rfl) a b w
 exact ⟨rfl,2,_,w',_,hc,rfl⟩
noncomputable def cl128:List (Nat × PureF):=(128,S128.F)::cl127
noncomputable def oq128:Ov:=ovL cl128
theorem okq128:OvOk Tryz.prog (ovP 128 S128.F oq127):=S128.ok no_count mixed okq127 fun args w v hl h=>by
 obtain ⟨a,b,rfl,rfl⟩:=h
 obtain ⟨_,w',hc,rfl⟩:=run128 (ov:=oq127) (chN rfl) (chH rfl) a b w
 exact ⟨rfl,2,_,w',_,hc,rfl⟩
noncomputable def cl129:List (Nat × PureF):=(129,S129.F)::cl128
noncomputable def oq129:Ov:=ovL cl129
theorem okq129:OvOk Tryz.prog (ovP 129 S129.F oq128):=S129.ok no_count mixed okq128 fun args w v hl h=>by
 obtain ⟨a,b,rfl,rfl⟩:=h
 obtain ⟨_,w',hc,rfl⟩:=run129 (ov:=oq128) (chN rfl) (chH rfl) a b w
 exact ⟨rfl,2,_,w',_,hc,rfl⟩
noncomputable def cl130:List (Nat × PureF):=(130,S130.F)::cl129
noncomputable def oq130:Ov:=ovL cl130
theorem okq130:OvOk Tryz.prog (ovP 130 S130.F oq129):=S130.ok no_count mixed okq129 fun args w v hl h=>by
 obtain ⟨a,b,rfl,rfl⟩:=h
 obtain ⟨_,w',hc,rfl⟩:=run130 (ov:=oq129) (chN rfl) (chH rfl) a b w
 exact ⟨rfl,2,_,w',_,hc,rfl⟩
noncomputable def cl131:List (Nat × PureF):=(131,S131.F)::cl130
noncomputable def oq131:Ov:=ovL cl131
theorem okq131:OvOk Tryz.prog (ovP 131 S131.F oq130):=S131.ok no_count mixed okq130 fun args w v hl h=>by
 obtain ⟨a,b,rfl,rfl⟩:=h
 obtain ⟨_,w',hc,rfl⟩:=run131 (ov:=oq130) (chN rfl) (chH rfl) a b w
 exact ⟨rfl,2,_,w',_,hc,rfl⟩
noncomputable def cl132:List (Nat × PureF):=(132,S132.F)::cl131
noncomputable def oq132:Ov:=ovL cl132
theorem okq132:OvOk Tryz.prog (ovP 132 S132.F oq131):=S132.ok no_count mixed okq131 fun args w v hl h=>by
 obtain ⟨a,b,rfl,rfl⟩:=h
 obtain ⟨_,w',hc,rfl⟩:=run132 (ov:=oq131) (chN rfl) (chH rfl) a b w
 exact ⟨rfl,2,_,w',_,hc,rfl⟩
noncomputable def cl133:List (Nat × PureF):=(133,S133.F)::cl132
noncomputable def oq133:Ov:=ovL cl133
theorem okq133:OvOk Tryz.prog (ovP 133 S133.F oq132):=S133.ok no_count mixed okq132 fun args w v hl h=>by
 obtain ⟨a,b,rfl,rfl⟩:=h
 obtain ⟨_,w',hc,rfl⟩:=run133 (ov:=oq132) (chN rfl) (chH rfl) a b w
 exact ⟨rfl,2,_,w',_,hc,rfl⟩
noncomputable def cl60:List (Nat × PureF):=(60,S60.F)::cl133
noncomputable def oq60:Ov:=ovL cl60
theorem okq60:OvOk Tryz.prog (ovP 60 S60.F oq133):=S60.ok no_count mixed okq133 fun args w v hl h=>by
 obtain ⟨a,b,rfl,rfl⟩:=h
 obtain ⟨_,w',hc,rfl⟩:=run60 (ov:=oq133) (chN rfl) (chN rfl) ⟨chH rfl,chH rfl,chH rfl,chH rfl,chH rfl,chH rfl,chH rfl,chH rfl,chH rfl⟩ a b w (Nat.le_of_eq hl)
 exact ⟨rfl,3,_,w',_,hc,rfl⟩
noncomputable def cl137:List (Nat × PureF):=(137,S137.F)::cl60
noncomputable def oq137:Ov:=ovL cl137
theorem okq137:OvOk Tryz.prog (ovP 137 S137.F oq60):=S137.ok no_count mixed okq60 fun args w v hl h=>by
 obtain ⟨a,b,rfl,rfl⟩:=h
 obtain ⟨_,w',hc,rfl⟩:=run137 (ov:=oq60) (chN rfl) a b w
 exact ⟨rfl,2,_,w',_,hc,rfl⟩
noncomputable def cl97:List (Nat × PureF):=(97,S97.F)::cl137
noncomputable def oq97:Ov:=ovL cl97
theorem okq97:OvOk Tryz.prog (ovP 97 S97.F oq137):=S97.ok no_count mixed okq137 fun args w v hl h=>by
 obtain ⟨a,b,rfl,rfl⟩:=h
 obtain ⟨_,w',hc,rfl⟩:=run97 (ov:=oq137) (chN rfl) (chH rfl) a b w
 exact ⟨rfl,2,_,w',_,hc,rfl⟩
noncomputable def cl17:List (Nat × PureF):=(17,S17.F)::cl97
noncomputable def oq17:Ov:=ovL cl17
theorem okq17:OvOk Tryz.prog (ovP 17 S17.F oq97):=S17.ok no_count mixed okq97 fun args w v hl h=>by
 obtain ⟨u,L,rfl,hv,rfl⟩:=h
 obtain ⟨_,w',hc,rfl⟩:=run17 (ov:=oq97) (chN rfl) (chH rfl) u L w hv
 exact ⟨rfl,2,_,w',_,hc,rfl⟩
noncomputable def cl49:List (Nat × PureF):=(49,S49.F)::cl17
noncomputable def oq49:Ov:=ovL cl49
theorem okq49:OvOk Tryz.prog (ovP 49 S49.F oq17):=S49.ok no_count mixed okq17 fun args w v hl h=>by
 obtain ⟨n,a,b,rfl,rfl⟩:=h
 obtain ⟨_,w',hc,rfl⟩:=run49 (ov:=oq17) (chN rfl) n a b w
 exact ⟨rfl,2,_,w',_,hc,rfl⟩
noncomputable def cl73:List (Nat × PureF):=(73,S73.F)::cl49
noncomputable def oq73:Ov:=ovL cl73
theorem okq73:OvOk Tryz.prog (ovP 73 S73.F oq49):=S73.ok no_count mixed okq49 fun args w v hl h=>by
 obtain ⟨s,rfl,rfl⟩:=h
 obtain ⟨_,w',hc,rfl⟩:=run73 (ov:=oq49) (chN rfl) (chH rfl) s w
 exact ⟨rfl,2,_,w',_,hc,rfl⟩
noncomputable def cl62:List (Nat × PureF):=(62,S62.F)::cl73
noncomputable def oq62:Ov:=ovL cl62
theorem okq62:OvOk Tryz.prog (ovP 62 S62.F oq73):=S62.ok no_count mixed okq73 fun args w v hl h=>by
 obtain ⟨n,rfl,rfl⟩:=h
 obtain ⟨_,w',hc,rfl⟩:=run62 (ov:=oq73) (chN rfl) (chH rfl) (chH rfl) n w
 exact ⟨rfl,2,_,w',_,hc,rfl⟩
noncomputable def cl18:List (Nat × PureF):=(18,S18.F)::cl62
noncomputable def oq18:Ov:=ovL cl18
theorem okq18:OvOk Tryz.prog (ovP 18 S18.F oq62):=S18.ok no_count mixed okq62 fun args w v hl h=>by
 obtain ⟨u,L,rfl,hv,rfl⟩:=h
 obtain ⟨_,w',hc,rfl⟩:=run18 (ov:=oq62) (chN rfl) (chH rfl) u L w hv
 exact ⟨rfl,2,_,w',_,hc,rfl⟩
noncomputable def cl46:List (Nat × PureF):=(46,S46.F)::cl18
noncomputable def oq46:Ov:=ovL cl46
theorem okq46:OvOk Tryz.prog (ovP 46 S46.F oq18):=S46.ok no_count mixed okq18 fun args w v hl h=>by
 obtain ⟨a,b,rfl,rfl⟩:=h
 obtain ⟨_,w',hc,rfl⟩:=run46 (ov:=oq18) (chN rfl) (chN rfl) a b w
 exact ⟨rfl,3,_,w',_,hc,rfl⟩
noncomputable def cl16:List (Nat × PureF):=(16,S16.F)::cl46
noncomputable def oq16:Ov:=ovL cl16
theorem okq16:OvOk Tryz.prog (ovP 16 S16.F oq46):=S16.ok no_count mixed okq46 fun args w v hl h=>by
 obtain ⟨u1,u2,L,rfl,h1,h2,hL,rfl⟩:=h
 obtain ⟨_,w',hc,rfl⟩:=run16 (ov:=oq46) (chN rfl) u1 u2 L w h1 h2 hL
 exact ⟨rfl,2,_,w',_,hc,rfl⟩
noncomputable def cl21:List (Nat × PureF):=(21,S21.F)::cl16
noncomputable def oq21:Ov:=ovL cl21
theorem okq21:OvOk Tryz.prog (ovP 21 S21.F oq16):=S21.ok no_count mixed okq16 fun args w v hl h=>by
 obtain ⟨u1,u2,L,rfl,h1,h2,hL,rfl⟩:=h
 obtain ⟨_,w',hc,rfl⟩:=run21 (ov:=oq16) (chN rfl) u1 u2 L w h1 h2 hL
 exact ⟨rfl,2,_,w',_,hc,rfl⟩
noncomputable def cl64:List (Nat × PureF):=(64,S64.F)::cl21
noncomputable def oq64:Ov:=ovL cl64
theorem okq64:OvOk Tryz.prog (ovP 64 S64.F oq21):=S64.ok no_count mixed okq21 fun args w v hl h=>by
 obtain ⟨u,L,s,rfl,hv,hL,rfl⟩:=h
 obtain ⟨_,w',hc,rfl⟩:=run64 (ov:=oq21) (chN rfl) u L s w hv hL
 exact ⟨rfl,2,_,w',_,hc,rfl⟩
theorem topOsN:OsN oq64:=⟨chN rfl,chN rfl,chN rfl,chN rfl,chN rfl,chN rfl,chN rfl,chN rfl,chN rfl,chN rfl,chN rfl,chN rfl,chN rfl,chN rfl,chN rfl,chN rfl,chN rfl⟩
theorem topOsW:OsW oq64:=⟨chN rfl,chN rfl,chN rfl,chN rfl,chN rfl,chN rfl,chN rfl,chN rfl,chN rfl,chN rfl,chN rfl,chN rfl,chN rfl,chN rfl,chN rfl,chN rfl,chN rfl⟩
theorem topN:OeN oq64:=⟨topOsN,chN rfl,chN rfl,chN rfl,chN rfl,chN rfl⟩
theorem topW:OeW oq64:=⟨topOsW,chN rfl,chN rfl,chN rfl,chN rfl,chN rfl⟩
theorem top3 (va vb:Value) (A B:List Nt) (w:AW) (hl:w.lim≤w.next) (h9:9≤w.next) (hlaid:hasAll w laidL=true) (ha:RowsV ntC w va A) (hb:RowsV ntC w vb B) (h0:∀ a c,va=.slice a 0 c→a=none→c=0) :
  ∃ w' x',(run Tryz.prog oq64 212).call 3 [va,vb] w .none=.ok (.ret (.bool true)) w' x':=by
 obtain ⟨_,w',hc,rfl⟩:=run3 (ov:=oq64) (chN rfl) (chN rfl) (chN rfl) (chN rfl) (chN rfl) (chN rfl) (chN rfl) (chN rfl) (chN rfl) (chN rfl) (chH rfl) (chH rfl) (chH rfl) (chH rfl) (chH rfl) (chH rfl) (chH rfl) (chH rfl) (chH rfl) topN topW (chZ rfl) va vb A B w hl h9 hlaid ha hb h0
 exact ⟨w',_,hc⟩
open Go Go.Sh Go.ChangeShapes
theorem ty22:tyOk Tryz.prog 6 22=true:=by kernel_rfl
theorem u3:Tryz.prog.underlying 3=some (.int .i64):=by kernel_rfl
theorem u9:Tryz.prog.underlying 9=some .string:=by kernel_rfl
theorem u22:Tryz.prog.underlying 22=some (.slice 62):=by kernel_rfl
theorem u62:Tryz.prog.underlying 62=some (.struct (fieldsOf Tryz.prog 62)):=by kernel_rfl
theorem f62:(fieldsOf Tryz.prog 62).toList.map (fun f=>(f.type,f.offset))=[(3,0),(9,1),(3,2),(9,3),(9,4),(3,5),(3,6),(3,7),(3,8)]:=by kernel_rfl
theorem c3:Tryz.prog.cellsOf 3=1:=by kernel_rfl
theorem c9:Tryz.prog.cellsOf 9=1:=by kernel_rfl
theorem c62:Tryz.prog.cellsOf 62=9:=by kernel_rfl
theorem nt_of {H:T AObj} {n:Nat} {cs:List Value} (h:WT Tryz.prog H n 62 cs):∃ x,cs=ntC x:=by
 obtain ⟨hl,hf⟩:=h.toStruct u62
 rw [f62] at hf
 rw [c62] at hl
 obtain ⟨a0,h0,_⟩:=(hf (3,0) (by simp)).toInt u3
 obtain ⟨⟨⟨a1⟩⟩,h1,_⟩:=(hf (9,1) (by simp)).toStr u9
 obtain ⟨a2,h2,_⟩:=(hf (3,2) (by simp)).toInt u3
 obtain ⟨⟨⟨a3⟩⟩,h3,_⟩:=(hf (9,3) (by simp)).toStr u9
 obtain ⟨⟨⟨a4⟩⟩,h4,_⟩:=(hf (9,4) (by simp)).toStr u9
 obtain ⟨a5,h5,_⟩:=(hf (3,5) (by simp)).toInt u3
 obtain ⟨a6,h6,_⟩:=(hf (3,6) (by simp)).toInt u3
 obtain ⟨a7,h7,_⟩:=(hf (3,7) (by simp)).toInt u3
 obtain ⟨a8,h8,_⟩:=(hf (3,8) (by simp)).toInt u3
 rw [c3] at h0 h2 h5 h6 h7 h8
 rw [c9] at h1 h3 h4
 match cs,hl with
 | [x0,x1,x2,x3,x4,x5,x6,x7,x8],_ =>
  simp at h0 h1 h2 h3 h4 h5 h6 h7 h8
  exact ⟨⟨a0,a1,a2,a3,a4,a5,a6,a7,a8⟩,by rw [h0,h1,h2,h3,h4,h5,h6,h7,h8]; rfl⟩
theorem nts_arg {A:AW} {m:Value} (h:ArgT Tryz.prog A.heap A.next 22 m):∃ l,RowsV ntC A m l∧∀ a c,m=.slice a 0 c→a=none→c=0:=by
 unfold ArgT at h
 rw [u22] at h
 rcases WT.toSlice u22 h with ⟨a,ha⟩ | ⟨b,k,c,ty,ro,ha,hb,hg,hk,_,hl,he⟩
 ·cases ha
  exact ⟨[],.inl ⟨rfl,_,_,rfl⟩,fun a c e _=>by injection e with _ _ e; exact e.symm⟩
 ·obtain ⟨v,l,hv,hr⟩:=rows_of_WT (lim:=A.lim) u22 c62 ntC_length (fun cs h=>nt_of h) h
  cases hv
  refine ⟨l,hr,fun a' c' e ea=>?_⟩
  injection ha with ha
  rw [ha] at e
  injection e with e1 _ _
  rw [ea] at e1
  cases e1
theorem hasAll_start:hasAll (startA 9 laidL) laidL=true:=by kernel_rfl
theorem laid_at {A:AW} (hs:∀ b,b < Tryz.prog.globals.size→A.heap.get b=(startH laidL).get b):hasAll A laidL=true:=by
 rw [globals9] at hs
 rw [← hasAll_start]
 exact hasAll_congr _ fun x hx=>hs x.1 (laid_lt x hx)
theorem start_true (A:AW) (ms:List Value) (hl:A.lim=A.next) (hG:Tryz.prog.globals.size≤A.next) (hs:∀ b,b < Tryz.prog.globals.size→A.heap.get b=(startH laidL).get b) (hms:ArgsT Tryz.prog A.heap A.next [22,22] ms) (hz:∀ (j:Nat) t e a k c,([22,22]:List TypeId)[j]?=some t→Tryz.prog.underlying t=some (.slice e)→ms[j]?=some (.slice a k c)→k * Tryz.prog.bytesOf e≤reachBytes) :
  ∃ A' x',(run Tryz.prog oq64 212).call 3 ms A .none=.ok (.ret (.bool true)) A' x':=by
 rw [globals9] at hG
 match ms,hms,hz with
 | [m1,m2],hm,hz =>
  obtain ⟨l1,h1,k1⟩:=nts_arg hm.1
  obtain ⟨l2,h2,k2⟩:=nts_arg hm.2.1
  exact top3 m1 m2 l1 l2 A (Nat.le_of_eq hl) hG (laid_at hs) h1 h2 k1
end Go.Proofs.YtnjknghdpobcmaaGreatDoor.walk
