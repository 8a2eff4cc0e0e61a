/- Part of a proof: see the text with the theorem. -/
import Derived.Test.YtnjknghdpobcmaaGreatDoorZK0
import Derived.Test.YtnjknghdpobcmaaGreatDoorZAb
set_option linter.all false
namespace Go.Proofs.YtnjknghdpobcmaaGreatDoor.walk
open Go Go.Sh
set_option maxRecDepth 100000
theorem mixed:Tryz.prog.follows .mixedOrders=true:=by kernel_rfl
theorem globals9:Tryz.prog.globals.size=9:=by kernel_rfl
theorem no_count:NoCount Tryz.prog:=NoCount.of (by kernel_rfl)
theorem ovP_none {f g:Nat} {F:PureF} {rest:Ov} (hne:g ≠ f) (h:∀ args w,rest g args w=none) (args:List Value) (w:AW):ovP f F rest g args w=none:=by simp [ovP,hne,h]
theorem no_none (g:Nat) (args:List Value) (w:AW):noOv g args w=none:=rfl
theorem OvOk.sub {P:Program} {ov ov':Ov} (h:OvOk P ov) (k:∀ f args w r,ov' f args w=some r→ov f args w=some r):OvOk P ov':=fun f φ A w args args' cs o A' x' h1 h2 h3=>h f φ A w args args' cs o A' x' h1 h2 (k _ _ _ _ h3)
noncomputable def o138:Ov:=ovP 138 S138.F noOv
noncomputable def o139:Ov:=ovP 139 S139.F o138
noncomputable def o99:Ov:=ovP 99 S99.F o139
noncomputable def o100:Ov:=ovP 100 S100.F o99
noncomputable def o122:Ov:=ovP 122 S122.F o100
noncomputable def o68:Ov:=ovP 68 S68.F o122
noncomputable def o67:Ov:=ovP 67 S67.F o68
noncomputable def o89:Ov:=ovP 89 S89.F o67
noncomputable def o57:Ov:=ovP 57 S57.F o89
theorem n138 {g:Nat} (h:g ≠ 138) (args:List Value) (w:AW):o138 g args w=none:=ovP_none h (no_none g) args w
theorem n139 {g:Nat} (h1:g ≠ 138) (h:g ≠ 139) (args:List Value) (w:AW):o139 g args w=none:=ovP_none h (n138 h1) args w
theorem n99 {g:Nat} (h2:g ≠ 138) (h1:g ≠ 139) (h:g ≠ 99) (args:List Value) (w:AW):o99 g args w=none:=ovP_none h (n139 h2 h1) args w
theorem n100 {g:Nat} (h3:g ≠ 138) (h2:g ≠ 139) (h1:g ≠ 99) (h:g ≠ 100) (args:List Value) (w:AW):o100 g args w=none:=ovP_none h (n99 h3 h2 h1) args w
theorem n122 {g:Nat} (h4:g ≠ 138) (h3:g ≠ 139) (h2:g ≠ 99) (h1:g ≠ 100) (h:g ≠ 122) (args:List Value) (w:AW):o122 g args w=none:=ovP_none h (n100 h4 h3 h2 h1) args w
theorem n68 {g:Nat} (h5:g ≠ 138) (h4:g ≠ 139) (h3:g ≠ 99) (h2:g ≠ 100) (h1:g ≠ 122) (h:g ≠ 68) (args:List Value) (w:AW):o68 g args w=none:=ovP_none h (n122 h5 h4 h3 h2 h1) args w
theorem n67 {g:Nat} (h6:g ≠ 138) (h5:g ≠ 139) (h4:g ≠ 99) (h3:g ≠ 100) (h2:g ≠ 122) (h1:g ≠ 68) (h:g ≠ 67) (args:List Value) (w:AW):o67 g args w=none:=ovP_none h (n68 h6 h5 h4 h3 h2 h1) args w
theorem n89 {g:Nat} (h7:g ≠ 138) (h6:g ≠ 139) (h5:g ≠ 99) (h4:g ≠ 100) (h3:g ≠ 122) (h2:g ≠ 68) (h1:g ≠ 67) (h:g ≠ 89) (args:List Value) (w:AW):o89 g args w=none:=ovP_none h (n67 h7 h6 h5 h4 h3 h2 h1) args w
theorem ok138:OvOk Tryz.prog o138:=S138.ok no_count mixed ov_none fun args w v hl h=>by
 obtain ⟨c,rfl,rfl⟩:=h
 obtain ⟨_,w',h1,rfl⟩:=run138 (ov:=noOv) (no_none _) c w
 exact ⟨rfl,2,_,w',_,h1,rfl⟩
theorem ok139:OvOk Tryz.prog o139:=S139.ok no_count mixed ok138 fun args w v hl h=>by
 obtain ⟨c,rfl,rfl⟩:=h
 obtain ⟨_,w',h1,rfl⟩:=run139 (ov:=o138) (n138 (by decide)) c w
 exact ⟨rfl,2,_,w',_,h1,rfl⟩
theorem ok99:OvOk Tryz.prog o99:=S99.ok no_count mixed ok139 fun args w v hl h=>by
 obtain ⟨s,rfl,rfl⟩:=h
 obtain ⟨_,w',h1,rfl⟩:=run99 (ov:=o139) (n139 (by decide) (by decide)) (HasP.skip (g:=139) (by decide) .here) .here s w
 exact ⟨rfl,2,_,w',_,h1,rfl⟩
theorem ok100:OvOk Tryz.prog o100:=S49.ok no_count mixed ok99 fun args w v hl h=>by
 obtain ⟨n,a,b,rfl,rfl⟩:=h
 obtain ⟨_,w',h1,rfl⟩:=run100 (ov:=o99) (n99 (by decide) (by decide) (by decide)) n a b w
 exact ⟨rfl,2,_,w',_,h1,rfl⟩
theorem ok122:OvOk Tryz.prog o122:=S122.ok no_count mixed ok100 fun args w v hl h=>by
 obtain ⟨n,rfl,rfl⟩:=h
 obtain ⟨_,w',h1,rfl⟩:=run122 (ov:=o100) (n100 (by decide) (by decide) (by decide) (by decide)) .here n w
 exact ⟨rfl,2,_,w',_,h1,rfl⟩
theorem ok68:OvOk Tryz.prog o68:=S68.ok no_count mixed ok122 fun args w v hl h=>by
 obtain ⟨n,rfl,rfl⟩:=h
 obtain ⟨_,w',h1,rfl⟩:=run68 (ov:=o122) (n122 (by decide) (by decide) (by decide) (by decide) (by decide)) (HasP.skip (g:=122) (by decide) .here) n w
 exact ⟨rfl,2,_,w',_,h1,rfl⟩
theorem has99a:HasP o68 99 S99.F:=HasP.skip (g:=68) (by decide) (HasP.skip (g:=122) (by decide) (HasP.skip (g:=100) (by decide) .here))
theorem ok67:OvOk Tryz.prog o67:=S67.ok no_count mixed ok68 fun args w v hl h=>by
 obtain ⟨u,L,rfl,hv,hn,rfl⟩:=h
 obtain ⟨_,w',h1,rfl⟩:=run67 (ov:=o68) (n68 (by decide) (by decide) (by decide) (by decide) (by decide) (by decide)) has99a u L w hv hn
 exact ⟨rfl,2,_,w',_,h1,rfl⟩
theorem ok89:OvOk Tryz.prog o89:=S89.ok no_count mixed ok67 fun args w v hl h=>by
 obtain ⟨n,rfl,rfl⟩:=h
 obtain ⟨_,w',h1,rfl⟩:=run89 (ov:=o67) (n67 (by decide) (by decide) (by decide) (by decide) (by decide) (by decide) (by decide)) (HasP.skip (g:=67) (by decide) has99a) (HasP.skip (g:=67) (by decide) (HasP.skip (g:=68) (by decide) .here)) (HasP.skip (g:=67) (by decide) .here) .here (HasP.skip (g:=67) (by decide) (HasP.skip (g:=68) (by decide) (HasP.skip (g:=122) (by decide) .here))) n w hl
 exact ⟨rfl,2,_,w',_,h1,rfl⟩
theorem ok57:OvOk Tryz.prog o57:=S57.ok no_count mixed ok89 fun args w v hl h=>by
 obtain ⟨u,L,rfl,hv,rfl⟩:=h
 obtain ⟨_,w',h1,rfl⟩:=run57 (ov:=o89) (n89 (by decide) (by decide) (by decide) (by decide) (by decide) (by decide) (by decide) (by decide)) .here u L w hv (Nat.le_of_eq hl)
 exact ⟨rfl,2,_,w',_,h1,rfl⟩
theorem has99:HasP o57 99 S99.F:=HasP.skip (g:=57) (by decide) (HasP.skip (g:=89) (by decide) (HasP.skip (g:=67) (by decide) has99a))
theorem pure_okZ:OvOk Tryz.prog pureOv:=OvOk.sub ok57 fun f args w r h=>by
 unfold pureOv ovP at h
 by_cases e:f=57
 ·subst e
  rw [if_pos rfl] at h
  cases hF:F57c args w with
  | some v =>
   rw [hF] at h
   cases h
   exact HasP.here args w v (S57.F_eq (F57c_some hF))
  | none =>
   rw [hF] at h
   simp [noOv] at h
 ·rw [if_neg e] at h
  by_cases e2:f=99
  ·subst e2
   rw [if_pos rfl] at h
   cases hF:F99c args w with
   | some v =>
    rw [hF] at h
    cases h
    exact has99 args w v (S99.F_eq (F99c_some hF))
   | none=>rw [hF] at h; cases h
  ·rw [if_neg e2] at h; cases h
end Go.Proofs.YtnjknghdpobcmaaGreatDoor.walk
