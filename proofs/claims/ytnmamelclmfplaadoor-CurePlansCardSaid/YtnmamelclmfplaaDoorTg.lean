/- Part of a proof: see the text with the theorem. -/
import Derived.Test.YtnmamelclmfplaaDoorTb
import Derived.Test.YtnmamelclmfplaaDoorTf
set_option linter.all false
namespace Go.Proofs.YtnmamelclmfplaaDoor.walk
open Go Go.Sh
set_option maxRecDepth 100000
def smallS (s:Sp):Prop := -100000000≤s.1∧s.1≤100000000 ∧ -100000000≤s.2∧s.2≤100000000
def pairC (p:Sp × Sp):List Value:=[.int .i64 p.1.1,.int .i64 p.1.2,.int .i64 p.2.1,.int .i64 p.2.2]
@[simp] theorem pairC_length (p:Sp × Sp):(pairC p).length=4:=rfl
theorem pairC_inj (a b:Sp × Sp) (h:pairC a=pairC b):a=b:=by
 obtain ⟨⟨_,_⟩,_,_⟩:=a; obtain ⟨⟨_,_⟩,_,_⟩:=b
 simp [pairC] at h; simp [h]
structure CRead where
 day:Int
 read:Int
 wrong:Int
def readC (r:CRead):List Value:=[.int .i64 r.day,.int .i64 r.read,.int .i64 r.wrong]
@[simp] theorem readC_length (r:CRead):(readC r).length=3:=rfl
theorem readC_inj (a b:CRead) (h:readC a=readC b):a=b:=by
 cases a; cases b; simpa [readC] using h
def readS (r:CRead):Sp:=(r.read - r.wrong,r.read + r.wrong)
def smallR (r:CRead):Prop:=0≤r.read∧r.read≤10000000∧0≤r.wrong∧r.wrong≤10000000
def S130:PSpec where
 R args w v:=∃ p:Sp × Sp,args=[.agg ⟨pairC p⟩]∧smallS p.1∧smallS p.2∧w.lim≤w.next∧v=.agg ⟨spC (restS p.1 p.2)⟩
 uniq:=by
  rintro _ _ _ _ ⟨⟨⟨_,_⟩,_,_⟩,rfl,_,_,_,rfl⟩ ⟨⟨⟨_,_⟩,_,_⟩,h,_,_,_,rfl⟩
  cases h; rfl
 shut:=fun ⟨p,h1,h2,h3,_,h4⟩=>⟨p,h1,h2,h3,Nat.le_refl _,h4⟩
theorem run130 {ov:Ov} (ho:∀ args w,ov 130 args w=none) (p:Sp × Sp) (h1:smallS p.1) (h2:smallS p.2) (w:AW) (hl:w.lim=w.next):∃ x w',(run Tryd.prog ov 2).call 130 [.agg ⟨pairC p⟩] w .none=.ok (.ret x) w' .none∧x=.agg ⟨spC (restS p.1 p.2)⟩:=by
 refine call_wp text130 (by simp) (ho _ _) ?_
 unfold smallS at h1 h2
 have w1:IntKind.wrap .i64 (p.1.1 - p.2.2)=p.1.1 - p.2.2:=wrap64_in (by omega) (by omega)
 have w2:IntKind.wrap .i64 (p.1.2 - p.2.1)=p.1.2 - p.2.1:=wrap64_in (by omega) (by omega)
 have lw:w.lim≤w.next + 1:=by omega
 simp [mc130,pairC,cellsOf_agg,w1,w2,lw,tupV,spC,restS]
def S131:PSpec where
 R args w v:=∃ p:Sp × Sp,args=[.agg ⟨pairC p⟩]∧smallS p.1∧smallS p.2∧w.lim≤w.next∧v=.agg ⟨spC (wholeS p.1 p.2)⟩
 uniq:=by
  rintro _ _ _ _ ⟨⟨⟨_,_⟩,_,_⟩,rfl,_,_,_,rfl⟩ ⟨⟨⟨_,_⟩,_,_⟩,h,_,_,_,rfl⟩
  cases h; rfl
 shut:=fun ⟨p,h1,h2,h3,_,h4⟩=>⟨p,h1,h2,h3,Nat.le_refl _,h4⟩
theorem run131 {ov:Ov} (ho:∀ args w,ov 131 args w=none) (p:Sp × Sp) (h1:smallS p.1) (h2:smallS p.2) (w:AW) (hl:w.lim=w.next):∃ x w',(run Tryd.prog ov 2).call 131 [.agg ⟨pairC p⟩] w .none=.ok (.ret x) w' .none∧x=.agg ⟨spC (wholeS p.1 p.2)⟩:=by
 refine call_wp text131 (by simp) (ho _ _) ?_
 unfold smallS at h1 h2
 have w1:IntKind.wrap .i64 (p.1.1 + p.2.1)=p.1.1 + p.2.1:=wrap64_in (by omega) (by omega)
 have w2:IntKind.wrap .i64 (p.1.2 + p.2.2)=p.1.2 + p.2.2:=wrap64_in (by omega) (by omega)
 have lw:w.lim≤w.next + 1:=by omega
 simp [mc131,pairC,cellsOf_agg,w1,w2,lw,tupV,spC,wholeS]
def S129:PSpec where
 R args w v:=∃ p:CRead,args=[.agg ⟨readC p⟩]∧smallR p∧w.lim≤w.next∧v=.agg ⟨spC (readS p)⟩
 uniq:=by
  rintro _ _ _ _ ⟨⟨_,_,_⟩,rfl,_,_,rfl⟩ ⟨⟨_,_,_⟩,h,_,_,rfl⟩
  cases h; rfl
 shut:=fun ⟨p,h1,h2,_,h4⟩=>⟨p,h1,h2,Nat.le_refl _,h4⟩
theorem run129 {ov:Ov} (ho:∀ args w,ov 129 args w=none) (p:CRead) (h1:smallR p) (w:AW) (hl:w.lim=w.next):∃ x w',(run Tryd.prog ov 2).call 129 [.agg ⟨readC p⟩] w .none=.ok (.ret x) w' .none∧x=.agg ⟨spC (readS p)⟩:=by
 refine call_wp text129 (by simp) (ho _ _) ?_
 unfold smallR at h1
 have w1:IntKind.wrap .i64 (p.read - p.wrong)=p.read - p.wrong:=wrap64_in (by omega) (by omega)
 have w2:IntKind.wrap .i64 (p.read + p.wrong)=p.read + p.wrong:=wrap64_in (by omega) (by omega)
 have lw:w.lim≤w.next + 1:=by omega
 simp [mc129,readC,cellsOf_agg,w1,w2,lw,tupV,spC,readS]
@[simp] theorem smi2 (a b:Int):sameVal 5 (.agg ⟨[.int .i64 a,.int .i64 b]⟩) (.agg ⟨[.int .i64 a,.int .i64 b]⟩)=true:=same_agg _ (by
 intro v hv
 simp only [List.mem_cons,List.not_mem_nil,or_false] at hv
 rcases hv with rfl | rfl <;> exact sameN_int _ _ _)
@[simp] theorem smi3 (a b c:Int):sameVal 5 (.agg ⟨[.int .i64 a,.int .i64 b,.int .i64 c]⟩) (.agg ⟨[.int .i64 a,.int .i64 b,.int .i64 c]⟩)=true:=same_agg _ (by
 intro v hv
 simp only [List.mem_cons,List.not_mem_nil,or_false] at hv
 rcases hv with rfl | rfl | rfl <;> exact sameN_int _ _ _)
@[simp] theorem smi4 (a b c d:Int):sameVal 5 (.agg ⟨[.int .i64 a,.int .i64 b,.int .i64 c,.int .i64 d]⟩) (.agg ⟨[.int .i64 a,.int .i64 b,.int .i64 c,.int .i64 d]⟩)=true:=same_agg _ (by
 intro v hv
 simp only [List.mem_cons,List.not_mem_nil,or_false] at hv
 rcases hv with rfl | rfl | rfl | rfl <;> exact sameN_int _ _ _)
@[simp] theorem op_makeIf {P:Program} {t:Tm} {w:AW} (ty s:TypeId) (x:Operand):(opS P ty (.makeInterface s x)).val t w=ifaceA P w s ((evS x).val t):=rfl
@[simp] theorem op_invoke {P:Program} {t:Tm} {w:AW} (ty:TypeId) (x:Operand) (name:String) (args:Array Operand) (ts:Array TypeId):(opS P ty (.call ⟨.invoke x name,args,ts⟩)).val t w=callM P w ((evS x).val t) name ((evL args.toList).val t):=rfl
@[simp] theorem if166 (a b c d:Int) (w:AW):ifaceA Tryd.prog w 166 (.agg ⟨[.int .i64 a,.int .i64 b,.int .i64 c,.int .i64 d]⟩)=.val (.iface 166 (.agg ⟨[.int .i64 a,.int .i64 b,.int .i64 c,.int .i64 d]⟩)) w:=by kernel_rfl
@[simp] theorem if168 (a b c d:Int) (w:AW):ifaceA Tryd.prog w 168 (.agg ⟨[.int .i64 a,.int .i64 b,.int .i64 c,.int .i64 d]⟩)=.val (.iface 168 (.agg ⟨[.int .i64 a,.int .i64 b,.int .i64 c,.int .i64 d]⟩)) w:=by kernel_rfl
@[simp] theorem if158 (a b c:Int) (w:AW):ifaceA Tryd.prog w 158 (.agg ⟨[.int .i64 a,.int .i64 b,.int .i64 c]⟩)=.val (.iface 158 (.agg ⟨[.int .i64 a,.int .i64 b,.int .i64 c]⟩)) w:=by kernel_rfl
@[simp] theorem cm166 (v:Value) (w:AW):callM Tryd.prog w (.iface 166 v) "rostellum/cure.span" []=.enter 130 [v] w:=by kernel_rfl
@[simp] theorem cm168 (v:Value) (w:AW):callM Tryd.prog w (.iface 168 v) "rostellum/cure.span" []=.enter 131 [v] w:=by kernel_rfl
@[simp] theorem cm158 (v:Value) (w:AW):callM Tryd.prog w (.iface 158 v) "rostellum/cure.span" []=.enter 129 [v] w:=by kernel_rfl
@[simp] theorem fl25_0 (a b:Int) (w:AW):fieldA Tryd.prog w 25 0 (.agg ⟨[.int .i64 a,.int .i64 b]⟩)=.val (.int .i64 a) w:=by kernel_rfl
@[simp] theorem fl25_1 (a b:Int) (w:AW):fieldA Tryd.prog w 25 1 (.agg ⟨[.int .i64 a,.int .i64 b]⟩)=.val (.int .i64 b) w:=by kernel_rfl
theorem len159V {w w':AW} {v:Value} {l:List CRead} (h:RowsV readC w v l):lenB Tryd.prog w' 159 v=.val (.int .i64 (l.length:Nat)) w':=by
 obtain ⟨a,c,rfl⟩:=h.len; simp
def S111:PSpec where
 R args w v:=∃ (s:Sp) (p:Sp × Sp) (lv:Value),args=[.agg ⟨spC s⟩,lv]∧RowsV pairC w lv [p]∧smallS p.1∧smallS p.2∧w.lim≤w.next∧v=.agg ⟨spC (bothS s (restS p.1 p.2))⟩
 uniq:=by
  rintro _ _ _ _ ⟨⟨_,_⟩,p,_,rfl,h1,_,_,_,rfl⟩ ⟨⟨_,_⟩,p',_,h,k1,_,_,_,rfl⟩
  cases h
  have:=h1.uniq (m:=4) pairC_length pairC_inj k1
  cases this; rfl
 shut:=fun ⟨s,p,lv,h1,h2,h3,h4,_,h5⟩=>⟨s,p,lv,h1,h2,h3,h4,Nat.le_refl _,h5⟩
theorem run111 {ov:Ov} (ho:∀ args w,ov 111 args w=none) (h130:HasP ov 130 S130.F) (s:Sp) (p:Sp × Sp) (lv:Value) (h1:smallS p.1) (h2:smallS p.2) (w:AW) (hl:w.lim=w.next) (hlv:RowsV pairC w lv [p]):∃ x w',(run Tryd.prog ov 2).call 111 [.agg ⟨spC s⟩,lv] w .none=.ok (.ret x) w' .none∧x=.agg ⟨spC (bothS s (restS p.1 p.2))⟩:=by
 refine call_wp text111 (by simp) (ho _ _) ?_
 obtain ⟨b,off,sq,c,rfl,hra⟩:=hlv.at_ 0 (by simp)
 have hld:=hra.rd (m:=4) pairC_length (i:=0) (a:=p) rfl
 have hb:=hra.2
 have e1:¬ b=w.next:=by omega
 have e2:¬ b=w.next + 1:=by omega
 have e3:¬ b=w.next + 1 + 1:=by omega
 simp only [Nat.zero_mul,Nat.add_zero,pairC] at hld
 have lw:w.lim≤w.next:=by omega
 have lw1:w.lim≤w.next + 1:=by omega
 have lw2:w.lim≤w.next + 1 + 1:=by omega
 have hia:∀ w,indexAddrA Tryd.prog w 169 (.slice (some ⟨b,off,sq⟩) 1 c) (.int .i64 0)=.val (.pointer (some ((⟨b,off,sq⟩:Addr).add (0 * 4)))) w:=fun w=>ia169 w ⟨b,off,sq⟩ 1 c .i64 0 (by decide)
 have r130:=fun (w:AW) hw=>S130.call1 (P:=Tryd.prog) h130 (w:=w) ⟨p,rfl,h1,h2,hw,rfl⟩
 simp only [pairC,spC] at r130 ⊢
 simp [mc111,cellsOf_agg]
 refine wp_seqX (wp_blockX (wp_rounds (fun i t w'=>(i=0∧w'=⟨(w.heap.put w.next (some (.cells [.int .i64 s.1,.int .i64 s.2] 25 false))).put (w.next + 1) (some (.cells [.int .i64 0,.int .i64 0] 25 false)),w.next + 1 + 1,w.lim⟩∨i=1∧w'.heap.get w.next=some (.cells [.int .i64 (bothS s (restS p.1 p.2)).1,.int .i64 (bothS s (restS p.1 p.2)).2] 25 false)∧w'.heap.get (w.next + 1)=some (.cells [.int .i64 0,.int .i64 0] 25 false)∧w'.lim=w.lim)∧tget t 2=.pointer (some ⟨w.next,0,none⟩)∧tget t 4=.pointer (some ⟨w.next + 1,0,none⟩)∧tget t 7=.slice (some ⟨b,off,sq⟩) 1 c∧tget t 8=.int .i64 1∧tget t 9=.int .i64 (i:Nat)) 20 (by decide) ?_ ?_))
 ·refine ⟨.inl ⟨rfl,rfl⟩,by simp,by simp,by simp,by simp,by simp⟩
 ·rintro i t w' ⟨hi,t2,t4,t7,t8,t9⟩
  rcases hi with ⟨rfl,rfl⟩ | ⟨rfl,g2,g4,hlm⟩
  ·have t9:tget t 9=.int .i64 0:=by simpa using t9
   have r:=r130 ⟨(((w.heap.put w.next (some (.cells [.int .i64 s.1,.int .i64 s.2] 25 false))).put (w.next + 1) (some (.cells [.int .i64 0,.int .i64 0] 25 false))).put (w.next + 1 + 1) (some (.cells [.int .i64 0,.int .i64 0,.int .i64 0,.int .i64 0] 166 false))).put (w.next + 1 + 1) (some (.cells [.int .i64 p.1.1,.int .i64 p.1.2,.int .i64 p.2.1,.int .i64 p.2.2] 166 false)),w.next + 1 + 1 + 1,w.lim⟩ (by show w.lim≤w.next + 1 + 1 + 1; omega)
   simp [mc111_l0,t2,t4,t7,t8,t9,hia,e1,e2,e3,hld,lw,lw1,lw2,r,least2,most2,bothS]
   exact wrap64_in (by decide) (by decide)
  ·have t9:tget t 9=.int .i64 1:=by simpa using t9
   have lw1':w'.lim≤w.next + 1:=by omega
   simp [mc111_l0,t2,t4,t8,t9,g2,g4,lw1',tupV,bothS]
def S112:PSpec where
 R args w v:=∃ (s:Sp) (p:Sp × Sp) (lv:Value),args=[.agg ⟨spC s⟩,lv]∧RowsV pairC w lv [p]∧smallS p.1∧smallS p.2∧w.lim≤w.next∧v=.agg ⟨spC (bothS s (wholeS p.1 p.2))⟩
 uniq:=by
  rintro _ _ _ _ ⟨⟨_,_⟩,p,_,rfl,h1,_,_,_,rfl⟩ ⟨⟨_,_⟩,p',_,h,k1,_,_,_,rfl⟩
  cases h
  have:=h1.uniq (m:=4) pairC_length pairC_inj k1
  cases this; rfl
 shut:=fun ⟨s,p,lv,h1,h2,h3,h4,_,h5⟩=>⟨s,p,lv,h1,h2,h3,h4,Nat.le_refl _,h5⟩
theorem run112 {ov:Ov} (ho:∀ args w,ov 112 args w=none) (h131:HasP ov 131 S131.F) (s:Sp) (p:Sp × Sp) (lv:Value) (h1:smallS p.1) (h2:smallS p.2) (w:AW) (hl:w.lim=w.next) (hlv:RowsV pairC w lv [p]):∃ x w',(run Tryd.prog ov 2).call 112 [.agg ⟨spC s⟩,lv] w .none=.ok (.ret x) w' .none∧x=.agg ⟨spC (bothS s (wholeS p.1 p.2))⟩:=by
 refine call_wp text112 (by simp) (ho _ _) ?_
 obtain ⟨b,off,sq,c,rfl,hra⟩:=hlv.at_ 0 (by simp)
 have hld:=hra.rd (m:=4) pairC_length (i:=0) (a:=p) rfl
 have hb:=hra.2
 have e1:¬ b=w.next:=by omega
 have e2:¬ b=w.next + 1:=by omega
 have e3:¬ b=w.next + 1 + 1:=by omega
 simp only [Nat.zero_mul,Nat.add_zero,pairC] at hld
 have lw:w.lim≤w.next:=by omega
 have lw1:w.lim≤w.next + 1:=by omega
 have lw2:w.lim≤w.next + 1 + 1:=by omega
 have hia:∀ w,indexAddrA Tryd.prog w 170 (.slice (some ⟨b,off,sq⟩) 1 c) (.int .i64 0)=.val (.pointer (some ((⟨b,off,sq⟩:Addr).add (0 * 4)))) w:=fun w=>ia170 w ⟨b,off,sq⟩ 1 c .i64 0 (by decide)
 have r131:=fun (w:AW) hw=>S131.call1 (P:=Tryd.prog) h131 (w:=w) ⟨p,rfl,h1,h2,hw,rfl⟩
 simp only [pairC,spC] at r131 ⊢
 simp [mc112,cellsOf_agg]
 refine wp_seqX (wp_blockX (wp_rounds (fun i t w'=>(i=0∧w'=⟨(w.heap.put w.next (some (.cells [.int .i64 s.1,.int .i64 s.2] 25 false))).put (w.next + 1) (some (.cells [.int .i64 0,.int .i64 0] 25 false)),w.next + 1 + 1,w.lim⟩∨i=1∧w'.heap.get w.next=some (.cells [.int .i64 (bothS s (wholeS p.1 p.2)).1,.int .i64 (bothS s (wholeS p.1 p.2)).2] 25 false)∧w'.heap.get (w.next + 1)=some (.cells [.int .i64 0,.int .i64 0] 25 false)∧w'.lim=w.lim)∧tget t 2=.pointer (some ⟨w.next,0,none⟩)∧tget t 4=.pointer (some ⟨w.next + 1,0,none⟩)∧tget t 7=.slice (some ⟨b,off,sq⟩) 1 c∧tget t 8=.int .i64 1∧tget t 9=.int .i64 (i:Nat)) 20 (by decide) ?_ ?_))
 ·refine ⟨.inl ⟨rfl,rfl⟩,by simp,by simp,by simp,by simp,by simp⟩
 ·rintro i t w' ⟨hi,t2,t4,t7,t8,t9⟩
  rcases hi with ⟨rfl,rfl⟩ | ⟨rfl,g2,g4,hlm⟩
  ·have t9:tget t 9=.int .i64 0:=by simpa using t9
   have r:=r131 ⟨(((w.heap.put w.next (some (.cells [.int .i64 s.1,.int .i64 s.2] 25 false))).put (w.next + 1) (some (.cells [.int .i64 0,.int .i64 0] 25 false))).put (w.next + 1 + 1) (some (.cells [.int .i64 0,.int .i64 0,.int .i64 0,.int .i64 0] 168 false))).put (w.next + 1 + 1) (some (.cells [.int .i64 p.1.1,.int .i64 p.1.2,.int .i64 p.2.1,.int .i64 p.2.2] 168 false)),w.next + 1 + 1 + 1,w.lim⟩ (by show w.lim≤w.next + 1 + 1 + 1; omega)
   simp [mc112_l0,t2,t4,t7,t8,t9,hia,e1,e2,e3,hld,lw,lw1,lw2,r,least2,most2,bothS]
   exact wrap64_in (by decide) (by decide)
  ·have t9:tget t 9=.int .i64 1:=by simpa using t9
   have lw1':w'.lim≤w.next + 1:=by omega
   simp [mc112_l0,t2,t4,t8,t9,g2,g4,lw1',tupV,bothS]
def S102:PSpec where
 R args w v:=∃ (s:Sp) (l:List CRead) (lv:Value),args=[.agg ⟨spC s⟩,lv]∧RowsV readC w lv l∧l.length≤10∧(∀ p ∈ l,smallR p)∧w.lim≤w.next∧v=.agg ⟨spC (l.foldl (fun a p=>bothS a (readS p)) s)⟩
 uniq:=by
  rintro _ _ _ _ ⟨⟨_,_⟩,l,_,rfl,h1,_,_,_,rfl⟩ ⟨⟨_,_⟩,l',_,h,k1,_,_,_,rfl⟩
  cases h
  rw [h1.uniq (m:=3) readC_length readC_inj k1]
 shut:=fun ⟨s,p,lv,h1,h2,h3,h4,_,h5⟩=>⟨s,p,lv,h1,h2,h3,h4,Nat.le_refl _,h5⟩
theorem run102 {ov:Ov} (ho:∀ args w,ov 102 args w=none) (h129:HasP ov 129 S129.F) (s:Sp) (l:List CRead) (lv:Value) (hlen:l.length≤10) (hs:∀ p ∈ l,smallR p) (w:AW) (hl:w.lim=w.next) (hlv:RowsV readC w lv l):∃ x w',(run Tryd.prog ov 2).call 102 [.agg ⟨spC s⟩,lv] w .none=.ok (.ret x) w' .none∧x=.agg ⟨spC (l.foldl (fun a p=>bothS a (readS p)) s)⟩:=by
 refine call_wp text102 (by simp) (ho _ _) ?_
 have hl1:=fun w2=>len159V (w':=w2) hlv
 simp only [spC]
 simp [mc102,cellsOf_agg,hl1]
 refine wp_seqX (wp_blockX (wp_rounds (fun i t w'=>Up w w'∧w.next + 1 + 1≤w'.next∧w'.heap.get w.next=some (.cells (spC ((l.take i).foldl (fun a p=>bothS a (readS p)) s)) 25 false)∧w'.heap.get (w.next + 1)=some (.cells [.int .i64 0,.int .i64 0] 25 false)∧tget t 2=.pointer (some ⟨w.next,0,none⟩)∧tget t 4=.pointer (some ⟨w.next + 1,0,none⟩)∧tget t 7=lv∧tget t 8=.int .i64 (l.length:Nat)∧tget t 9=.int .i64 (i:Nat)∧i≤l.length) 20 (by decide) ?_ ?_))
 ·refine ⟨((Up.refl w).add _).put (Nat.le_succ _) (Nat.le_succ _),by show w.next + 1 + 1≤w.next + 1 + 1; omega,by simp [spC],by simp,by simp,by simp,by simp,by simp,by simp,Nat.zero_le _⟩
 ·rintro i t w' ⟨hup,hnx,g2,g4,t2,t4,t7,t8,t9,hi⟩
  have hlm:w'.lim=w.lim:=hup.lim
  by_cases hlt:i < l.length
  ·obtain ⟨p,hp⟩:∃ p,l[i]?=some p:=⟨_,List.getElem?_eq_getElem hlt⟩
   have hps:=hs p (List.mem_of_getElem? hp)
   obtain ⟨b,off,sq,c,rfl,hra⟩:=hlv.at_ i hlt
   have hld:=hra.rd (m:=3) readC_length hp
   rw [← hup.at hra.2] at hld
   simp only [readC] at hld
   have hia:=fun w=>ia159 w ⟨b,off,sq⟩ l.length c .i64 i hlt
   have hwi:IntKind.wrap .i64 ((i:Int) + 1)=(i:Int) + 1:=wrap64_in (by omega) (by omega)
   have e2:¬ w.next=w'.next:=by omega
   have e4:¬ w.next + 1=w'.next:=by omega
   have lw:w'.lim≤w'.next:=by omega
   have lw2:w'.lim≤w.next:=by omega
   have r129:=fun (w:AW) hw=>S129.call1 (P:=Tryd.prog) h129 (w:=w) ⟨p,rfl,hps,hw,rfl⟩
   have r:=r129 ⟨(w'.heap.put w'.next (some (.cells [.int .i64 0,.int .i64 0,.int .i64 0] 158 false))).put w'.next (some (.cells [.int .i64 p.day,.int .i64 p.read,.int .i64 p.wrong] 158 false)),w'.next + 1,w'.lim⟩ (by show w'.lim≤w'.next + 1; omega)
   have hf:(l.take (i + 1)).foldl (fun a p=>bothS a (readS p)) s=bothS ((l.take i).foldl (fun a p=>bothS a (readS p)) s) (readS p):=by rw [take_snoc hp,List.foldl_append]; rfl
   generalize (l.take i).foldl (fun a p=>bothS a (readS p)) s=a at g2 hf
   simp only [spC] at g2
   simp only [readC,spC] at r
   simp [mc102_l0,t2,t4,t7,t8,t9,hlt,hia,hld,lw,lw2,g2,e2,r,least2,most2,hwi]
   refine ⟨by omega,?_,by omega,?_,?_,hlt⟩
   ·exact ((hup.add _).put hup.next (Nat.le_refl _)).put (by show w.next≤w.next; omega) (Nat.le_refl _)
   ·rw [hf]; simp [spC,bothS]
   ·simp [e4,g4]
  ·have hi':i=l.length:=by omega
   subst hi'
   rw [List.take_length] at g2
   have lw2:w'.lim≤w.next + 1:=by omega
   simp only [spC] at g2
   simp [mc102_l0,t2,t4,t8,t9,g2,g4,lw2,tupV]
def gtS (W:List Sp) (k:Nat):Sp:=W.getD k (0,0)
def lowW (L W:List Sp) (d:Nat):List Sp:=W.set (d + 1) (bothS (gtS W (d + 1)) (restS (gtS W d) (gtS L d)))
def stepW (L W:List Sp) (d:Nat):List Sp:=(lowW L W d).set d (bothS (gtS W d) (wholeS (gtS (lowW L W d) (d + 1)) (gtS L d)))
def badW (W:List Sp) (d:Nat):Bool:=empS (gtS W d) || empS (gtS W (d + 1))
def passW (L:List Sp):Nat→List Sp→Option (List Sp)
 | 0,W=>some W
 | d + 1,W=>match passW L d W with
  | none=>none
  | some V=>if badW (stepW L V d) d=true then none else some (stepW L V d)
def narW (L:List Sp) (N:Nat):Nat→List Sp→Option (List Sp)
 | 0,W=>some W
 | f + 1,W=>match passW L N W with
  | none=>none
  | some V=>if V=W then some V else narW L N f V
theorem gtS_at {W:List Sp} {i:Nat} (h:i < W.length):W[i]?=some (gtS W i):=by
 unfold gtS
 rw [List.getD_eq_getElem?_getD,List.getElem?_eq_getElem h]; rfl
theorem gtS_of {W:List Sp} {i:Nat} {s:Sp} (h:W[i]?=some s):gtS W i=s:=by
 unfold gtS
 rw [List.getD_eq_getElem?_getD,h]; rfl
theorem gtS_set {W:List Sp} {i:Nat} (s:Sp) (h:i < W.length) (k:Nat):gtS (W.set i s) k=if k=i then s else gtS W k:=by
 unfold gtS
 rw [List.getD_eq_getElem?_getD,List.getD_eq_getElem?_getD,List.getElem?_set]
 by_cases e:k=i
 ·subst e; simp [h]
 ·rw [if_neg (fun h=>e h.symm),if_neg e]
@[simp] theorem lowW_length (L W:List Sp) (d:Nat):(lowW L W d).length=W.length:=by simp [lowW]
@[simp] theorem stepW_length (L W:List Sp) (d:Nat):(stepW L W d).length=W.length:=by simp [stepW]
theorem lowW_fn {L W:List Sp} {d:Nat} (h:d + 1 < W.length):gtS (lowW L W d)=lowS (gtS L) d (gtS W):=by
 funext k
 unfold lowW lowS updS
 rw [gtS_set _ h]
theorem stepW_fn {L W:List Sp} {d:Nat} (h:d + 1 < W.length):gtS (stepW L W d)=stepS (gtS L) d (gtS W):=by
 funext k
 unfold stepW stepS
 rw [gtS_set _ (by simp; omega),lowW_fn h]
 unfold updS
 by_cases e:k=d
 ·rw [if_pos e,if_pos e]
  have:lowS (gtS L) d (gtS W) d=gtS W d:=by
   unfold lowS updS; rw [if_neg (by omega)]
  rw [this]
 ·rw [if_neg e,if_neg e]
theorem passW_fn {L W:List Sp}:∀ {d:Nat} {V:List Sp},passW L d W=some V→d < W.length→gtS V=passS (gtS L) (gtS W) d∧V.length=W.length
 | 0,V,h,_=>by cases h; exact ⟨rfl,rfl⟩
 | d + 1,V,h,hd=>by
  simp only [passW] at h
  cases hp:passW L d W with
  | none=>rw [hp] at h; cases h
  | some V' =>
   rw [hp] at h
   simp only at h
   split at h
   ·cases h
   ·cases h
    obtain ⟨h1,h2⟩:=passW_fn hp (by omega)
    exact ⟨by rw [stepW_fn (by omega),h1]; rfl,by rw [stepW_length,h2]⟩
theorem passW_none {L W:List Sp} {d:Nat} (h:passW L d W=none):∀ n,d≤n→passW L n W=none
 | 0,hn=>by
  have:d=0:=by omega
  rw [← this]; exact h
 | n + 1,hn=>by
  by_cases e:d=n + 1
  ·rw [← e]; exact h
  ·simp only [passW]
   rw [passW_none h n (by omega)]
theorem list_ext {W V:List Sp} (hl:V.length=W.length) (h:∀ k,gtS V k=gtS W k):V=W:=by
 refine List.ext_getElem? fun k=>?_
 by_cases hk:k < W.length
 ·rw [gtS_at hk,gtS_at (hl ▸ hk),h]
 ·rw [List.getElem?_eq_none (by omega),List.getElem?_eq_none (by omega)]
def bndS (s:Sp):Prop := -2000000≤s.1∧s.1≤2000000 ∧ -2000000≤s.2∧s.2≤2000000
def BndW (W:List Sp):Prop:=∀ k,bndS (gtS W k)
def LosW (L:List Sp):Prop:=∀ k,0≤(gtS L k).1∧(gtS L k).1≤(gtS L k).2∧(gtS L k).2≤1000000
theorem bnd_small {s:Sp} (h:bndS s):smallS s:=by unfold bndS at h; unfold smallS; omega
theorem los_small {L:List Sp} (h:LosW L) (k:Nat):smallS (gtS L k):=by have:=h k; unfold smallS; omega
theorem low_small {L W:List Sp} (hW:BndW W) (hL:LosW L) {d:Nat} (h:d + 1 < W.length) (k:Nat):smallS (gtS (lowW L W d) k):=by
 unfold lowW
 rw [gtS_set _ h]
 have h1:=hW (d + 1); have h2:=hW d; have h3:=hL d; have h4:=hW k
 split
 ·unfold bndS at h1 h2; unfold smallS bothS restS; simp only; omega
 ·exact bnd_small h4
theorem step_bnd {L W:List Sp} (hW:BndW W) (hL:LosW L) {d:Nat} (h:d + 1 < W.length) (hb:badW (stepW L W d) d=false):BndW (stepW L W d):=by
 intro k
 have e:=congrFun (stepW_fn (L:=L) h)
 simp only [badW,Bool.or_eq_false_iff,empS,decide_eq_false_iff_not] at hb
 rw [e d,e (d + 1),stepS_at,stepS_at,if_pos rfl,if_neg (by omega),if_pos rfl] at hb
 rw [e k,stepS_at]
 have h1:=hW (d + 1); have h2:=hW d; have h3:=hL d; have h4:=hW k
 unfold bndS at *
 by_cases k1:k=d
 ·rw [if_pos k1]
  simp only [bothS,restS,wholeS] at hb ⊢
  omega
 ·rw [if_neg k1]
  by_cases k2:k=d + 1
  ·rw [if_pos k2]
   simp only [bothS,restS,wholeS] at hb ⊢
   omega
  ·rw [if_neg k2]; exact h4
theorem pass_bnd {L W:List Sp} (hW:BndW W) (hL:LosW L):∀ {d:Nat} {V:List Sp},passW L d W=some V→d < W.length→BndW V
 | 0,V,h,_=>by cases h; exact hW
 | d + 1,V,h,hd=>by
  simp only [passW] at h
  cases hp:passW L d W with
  | none=>rw [hp] at h; cases h
  | some V' =>
   rw [hp] at h
   simp only at h
   have h1:=pass_bnd hW hL hp (by omega)
   have h2:=(passW_fn hp (by omega)).2
   split at h
   ·cases h
   ·rename_i hb
    cases h
    exact step_bnd h1 hL (by omega) (by simpa using hb)
def FarW (L:List Sp) (N i:Nat) (W:List Sp):Prop:=i=0∨(FwdT N (gtS L) (gtS W)∧BackT N (gtS L) (gtS W) i)
theorem far_next {L W V:List Sp} {N i:Nat} (hL:LosW L) (hN:N < W.length) (h:FarW L N i W) (hp:passW L N W=some V):FarW L N (i + 1) V:=by
 obtain ⟨e,_⟩:=passW_fn hp hN
 refine .inr ?_
 rw [e]
 have hl:∀ i,i < N→(gtS L i).1≤(gtS L i).2:=fun i _=>(hL i).2.1
 rcases h with rfl | ⟨h1,h2⟩
 ·exact pass_one hl
 ·exact pass_more hl h1 h2
theorem far_end {L W V:List Sp} {N i:Nat} (hL:LosW L) (hN:N < W.length) (h0:0 < N) (h:FarW L N i W) (hi:N≤i) (hp:passW L N W=some V):V=W:=by
 obtain ⟨e,hl⟩:=passW_fn hp hN
 rcases h with rfl | ⟨h1,h2⟩
 ·omega
 ·refine list_ext hl fun k=>?_
  rw [e]
  exact pass_last (fun i _=>(hL i).2.1) h1 (fun d hd _=>h2 d hd (by omega)) k
theorem ia104_0 (w:AW) (a:Addr):indexAddrA Tryd.prog w 104 (.pointer (some a)) (.int .i64 0)=.val (.pointer (some (a.add 0))) w:=by kernel_rfl
theorem ia104_1 (w:AW) (a:Addr):indexAddrA Tryd.prog w 104 (.pointer (some a)) (.int .i64 1)=.val (.pointer (some (a.add 2))) w:=by kernel_rfl
theorem ia104_2 (w:AW) (a:Addr):indexAddrA Tryd.prog w 104 (.pointer (some a)) (.int .i64 2)=.val (.pointer (some (a.add 4))) w:=by kernel_rfl
theorem ia104_3 (w:AW) (a:Addr):indexAddrA Tryd.prog w 104 (.pointer (some a)) (.int .i64 3)=.val (.pointer (some (a.add 6))) w:=by kernel_rfl
theorem ia104_4 (w:AW) (a:Addr):indexAddrA Tryd.prog w 104 (.pointer (some a)) (.int .i64 4)=.val (.pointer (some (a.add 8))) w:=by kernel_rfl
theorem ia104_5 (w:AW) (a:Addr):indexAddrA Tryd.prog w 104 (.pointer (some a)) (.int .i64 5)=.val (.pointer (some (a.add 10))) w:=by kernel_rfl
theorem ia104_6 (w:AW) (a:Addr):indexAddrA Tryd.prog w 104 (.pointer (some a)) (.int .i64 6)=.val (.pointer (some (a.add 12))) w:=by kernel_rfl
theorem ia104_7 (w:AW) (a:Addr):indexAddrA Tryd.prog w 104 (.pointer (some a)) (.int .i64 7)=.val (.pointer (some (a.add 14))) w:=by kernel_rfl
theorem ia104_8 (w:AW) (a:Addr):indexAddrA Tryd.prog w 104 (.pointer (some a)) (.int .i64 8)=.val (.pointer (some (a.add 16))) w:=by kernel_rfl
theorem ia104_9 (w:AW) (a:Addr):indexAddrA Tryd.prog w 104 (.pointer (some a)) (.int .i64 9)=.val (.pointer (some (a.add 18))) w:=by kernel_rfl
theorem ia104_10 (w:AW) (a:Addr):indexAddrA Tryd.prog w 104 (.pointer (some a)) (.int .i64 10)=.val (.pointer (some (a.add 20))) w:=by kernel_rfl
theorem ia104_11 (w:AW) (a:Addr):indexAddrA Tryd.prog w 104 (.pointer (some a)) (.int .i64 11)=.val (.pointer (some (a.add 22))) w:=by kernel_rfl
theorem ia104_12 (w:AW) (a:Addr):indexAddrA Tryd.prog w 104 (.pointer (some a)) (.int .i64 12)=.val (.pointer (some (a.add 24))) w:=by kernel_rfl
theorem ia104_13 (w:AW) (a:Addr):indexAddrA Tryd.prog w 104 (.pointer (some a)) (.int .i64 13)=.val (.pointer (some (a.add 26))) w:=by kernel_rfl
theorem ia104_14 (w:AW) (a:Addr):indexAddrA Tryd.prog w 104 (.pointer (some a)) (.int .i64 14)=.val (.pointer (some (a.add 28))) w:=by kernel_rfl
theorem ia104_15 (w:AW) (a:Addr):indexAddrA Tryd.prog w 104 (.pointer (some a)) (.int .i64 15)=.val (.pointer (some (a.add 30))) w:=by kernel_rfl
theorem ia104 (w:AW) (a:Addr) (i:Nat) (hi:i < 16):indexAddrA Tryd.prog w 104 (.pointer (some a)) (.int .i64 (i:Int))=.val (.pointer (some (a.add (i * 2)))) w:=by
 have:i=0∨i=1∨i=2∨i=3∨i=4∨i=5∨i=6∨i=7∨i=8∨i=9∨i=10∨i=11∨i=12∨i=13∨i=14∨i=15:=by omega
 rcases this with rfl | rfl | rfl | rfl | rfl | rfl | rfl | rfl | rfl | rfl | rfl | rfl | rfl | rfl | rfl | rfl
 ·exact ia104_0 w a
 ·exact ia104_1 w a
 ·exact ia104_2 w a
 ·exact ia104_3 w a
 ·exact ia104_4 w a
 ·exact ia104_5 w a
 ·exact ia104_6 w a
 ·exact ia104_7 w a
 ·exact ia104_8 w a
 ·exact ia104_9 w a
 ·exact ia104_10 w a
 ·exact ia104_11 w a
 ·exact ia104_12 w a
 ·exact ia104_13 w a
 ·exact ia104_14 w a
 ·exact ia104_15 w a
@[simp] theorem isC_tmp (n:Nat):isConst (.tmp n)=false:=rfl
@[simp] theorem isC_const (v:Value):isConst (.const v)=true:=rfl
theorem same_row:∀ (V W:List Sp),V.length=W.length→sameL (List.replicate (V.length * 2) 0) (V.flatMap spC) (W.flatMap spC)=some (decide (V=W))
 | [],[],_=>rfl
 | [],_::_,h=>by simp at h
 | _::_,[],h=>by simp at h
 | v::V,u::W,h=>by
  have ih:=same_row V W (by simpa using h)
  rw [show (v::V).length * 2=V.length * 2 + 1 + 1 by simp; omega,List.replicate_succ,List.replicate_succ]
  simp only [List.flatMap_cons,spC,List.cons_append,List.nil_append,sameL_int,ih]
  obtain ⟨a,b⟩:=v
  obtain ⟨c,d⟩:=u
  by_cases h1:a=c
  ·by_cases h2:b=d
   ·subst h1; subst h2; simp
   ·simp [h1,h2]
  ·simp [h1]
theorem eq_row {V W:List Sp} (hV:V.length=16) (hW:W.length=16):eqFlat true [0,0,0,0,0,0,0,0,0,0,0,0,0,0,0,0,0,0,0,0,0,0,0,0,0,0,0,0,0,0,0,0] (.agg ⟨V.flatMap spC⟩) (.agg ⟨W.flatMap spC⟩)=some (decide (V=W)):=by
 rw [eqFlat_agg]
 have:=same_row V W (by omega)
 rw [hV] at this
 exact this
theorem row_len {W:List Sp} (h:W.length=16):(W.flatMap spC).length=32:=by rw [flat_length spC_length,h]
theorem row_sing:∀ W:List Sp,singles (W.flatMap spC)=true:=flat_singles fun _=>rfl
theorem row_ld {W:List Sp} (h:W.length=16) {i:Nat} (hi:i < 16):((W.flatMap spC).drop (i * 2)).take 2=[.int .i64 (gtS W i).1,.int .i64 (gtS W i).2]∧i * 2 + 2≤32:=by
 have:=flat_at spC_length W i (gtS W i) [] (gtS_at (by omega))
 rw [List.append_nil] at this
 exact ⟨this.1,by omega⟩
theorem row_st {W:List Sp} (h:W.length=16) {i:Nat} (hi:i < 16) (s:Sp):(W.flatMap spC).take (i * 2)++.int .i64 s.1::.int .i64 s.2::(W.flatMap spC).drop (i * 2 + 2)=(W.set i s).flatMap spC:=flat_set spC_length W i s (by omega)
theorem append_zero {P:Program} {st e:TypeId} {sz:Nat} (h0:isList P st=true) (h1:elemA P st=some e) (h2:szOf P e=some sz) (h3:smallT P e=true) {w:AW} {base:Option Addr} {n cap:Nat} {a:Addr} {c:Nat} (hn:n≤100000) :
  append1 P w [st,st] [.slice base n cap,.slice (some a) 0 c]=.val (.slice base n cap) w:=by
 rw [append_eq h0 h1 h2 h3]
 have e1:Nat.ble (n + 0) 1000000=true:=Nat.ble_eq_true_of_le (by omega)
 have e2:Nat.beq (0 * sz) 0=true:=by rw [Nat.zero_mul]; rfl
 have e3:Nat.beq (lenL ([]:List Value) 0) (0 * sz)=true:=by rw [Nat.zero_mul]; rfl
 simp only [lenA,srcCells,e2,cond_true,e1,e3,Bool.and_self,appendB]
 rfl
theorem list43:isList Tryd.prog 43=true:=by kernel_rfl
theorem elem43:elemA Tryd.prog 43=some 25:=by kernel_rfl
theorem sz25:szOf Tryd.prog 25=some 2:=by kernel_rfl
theorem small25:smallT Tryd.prog 25=true:=by kernel_rfl
@[simp] theorem eqn43 (B n c:Nat) (w:AW):(binW Tryd.prog .eql 43 true).val (.slice (some ⟨B,0,none⟩) n c) (.slice none 0 0) w=.val (.bool false) w:=by kernel_rfl
theorem call63 {ov:Ov} (m:Nat) (ho:∀ args w,ov 63 args w=none) (L:List Sp) (hlen:L.length≤1000) (pv:Value) (we:AW) (hlim:we.lim≤we.next) (hpv:ProcV we pv L) :
  ∃ v w',(run Tryd.prog ov (m + 1)).call 63 [pv] we .none=.ok (.ret v) w' .none∧∃ B,v=.slice (some ⟨B,0,none⟩) L.length L.length∧w'.heap.get B=some (.cells (L.flatMap spC) 25 false)∧we.next≤B∧B < w'.next∧Up we w':=by
 refine call_wp text63 (by simp) (ho _ _) ?_
 obtain ⟨B0,rfl,hB,hb⟩:=hpv
 have nj:∀ (a:Addr) n c,notJunk (.slice (some a) n c)=some (.slice (some a) n c):=fun _ _ _=>rfl
 by_cases h0:L.length=0
 ·have hL:L=[]:=List.eq_nil_of_length_eq_zero h0
  subst hL
  have hz:=fun w=>append_zero (P:=Tryd.prog) list43 elem43 sz25 small25 (w:=w) (base:=some ⟨we.next,0,none⟩) (n:=0) (cap:=0) (a:=⟨B0,0,none⟩) (c:=0) (by decide)
  simp [mc63,hz,nj,tupV]
  exact (Up.refl we).add _
 ·have hB':(we.heap.put we.next (some (.cells [] 25 false))).get B0=some (.cells (L.flatMap spC) 25 false):=by rw [get_put,if_neg (by omega)]; exact hB
  have hsrc:srcCells ⟨we.heap.put we.next (some (.cells [] 25 false)),we.next + 1,we.lim⟩ 2 (.slice (some ⟨B0,0,none⟩) L.length L.length)=some (L.flatMap spC):=src_row hB' (flat_length spC_length L) (by omega) (by decide)
  have hap:=append_full (P:=Tryd.prog) list43 elem43 sz25 small25 (w:=⟨we.heap.put we.next (some (.cells [] 25 false)),we.next + 1,we.lim⟩) (B:=we.next) (n:=0) (m:=L.length) (c:=[]) (new:=L.flatMap spC) (x:=.slice (some ⟨B0,0,none⟩) L.length L.length) rfl hsrc (flat_length spC_length L) (flat_singles (fun _=>rfl) L) (by omega) (by omega) (by simp) (by simp) hlim
  simp only [Nat.zero_add,List.nil_append] at hap
  simp [mc63,hap,nj,tupV]
  exact (((Up.refl we).add _).put (Nat.le_refl _) (Nat.le_refl _)).put (Nat.le_succ _) (Nat.le_succ _)
def zerC:List Value:=(List.replicate 16 ((0,0):Sp)).flatMap spC
structure In104 (w0:AW) (c3:Nat) (W:List Sp) (w:AW):Prop where
 row:w.heap.get c3=some (.cells (W.flatMap spC) 104 false)
 old:∀ x,x < w0.next→x ≠ c3→w.heap.get x=w0.heap.get x
 next:w0.next≤w.next
 lim:w.lim=w0.lim
structure KeepN (t t':Tm):Prop where
 k3:tget t' 3=tget t 3
 k4:tget t' 4=tget t 4
 k6:tget t' 6=tget t 6
 k7:tget t' 7=tget t 7
set_option maxHeartbeats 4000000 in
theorem inner104 {ov:Ov} (m:Nat) (h92:HasP ov 92 S92.F) (h111:HasP ov 111 S111.F) (h112:HasP ov 112 S112.F) (L:List Sp) (hL:LosW L) (hN15:L.length≤15) (Wi:List Sp) (hW:BndW Wi) (h16:Wi.length=16) (w0:AW) (c3 BL c4:Nat) (hc3:c3 < w0.next) (hBL:BL < w0.next∧BL ≠ c3) (gL:w0.heap.get BL=some (.cells (L.flatMap spC) 25 false)) (hc4:c4 < w0.next∧c4 ≠ c3) (g4:w0.heap.get c4=some (.cells zerC 104 false)) (hlim:w0.lim≤c3∧w0.lim≤c4)
  (Q:Ex→Tm→AW→Prop) (t:Tm) (w:AW) (hw:In104 w0 c3 Wi w) (t3:tget t 3=.pointer (some ⟨c3,0,none⟩)) (t4:tget t 4=.pointer (some ⟨c4,0,none⟩)) (t17:tget t 17=.slice (some ⟨BL,0,none⟩) L.length L.length) (t18:tget t 18=.int .i64 (L.length:Nat)) (t19:tget t 19=.int .i64 0)
  (hno:passW L L.length Wi=none→∀ t' w',tget t' 4=.pointer (some ⟨c4,0,none⟩)→tget t' 5=.bool false→w'.heap.get c4=some (.cells zerC 104 false)→Q .ret t' w')
  (hyes:∀ V,passW L L.length Wi=some V→∀ t' w',In104 w0 c3 V w'→KeepN t t'→Q (.exit 2) t' w'):wp (exM Tryd.prog (run Tryd.prog ov (m + 1)) (.loop mc104_l1) t w) Q:=by
 refine wp_rounds (fun d t' w'=>∃ V,passW L d Wi=some V∧In104 w0 c3 V w'∧KeepN t t'∧tget t' 17=.slice (some ⟨BL,0,none⟩) L.length L.length∧tget t' 18=.int .i64 (L.length:Nat)∧tget t' 19=.int .i64 (d:Nat)∧d≤L.length) 20 (by decide) ⟨Wi,rfl,hw,⟨rfl,rfl,rfl,rfl⟩,t17,t18,by simpa using t19,Nat.zero_le _⟩ ?_
 clear t17 t18 t19 hw
 rintro d t' w' ⟨V,hp,hw,hk,t17,t18,t19,hd⟩
 have u3:=hk.k3; have u4:=hk.k4
 rw [t3] at u3; rw [t4] at u4
 by_cases hlt:d < L.length
 ·obtain ⟨_,hV16⟩:=passW_fn hp (by omega)
  rw [h16] at hV16
  have hVb:=pass_bnd hW hL hp (by omega)
  have hnx:=hw.next
  have hlm:=hw.lim
  have hLd:=gtS_at hlt
  have hraL:RowsA spC w0.heap w0.next BL 0 L:=⟨⟨[],[],25,false,by simpa using gL,rfl⟩,hBL.1⟩
  have fL:=hraL.rd spC_length hLd
  rw [← hw.old BL hBL.1 hBL.2,Nat.zero_add] at fL
  have hiL:=fun w=>ia43 w ⟨BL,0,none⟩ L.length L.length .i64 d hlt
  have hid0:=fun w=>ia104 w ⟨c3,0,none⟩ d (by omega)
  have hid1:∀ w,indexAddrA Tryd.prog w 104 (.pointer (some ⟨c3,0,none⟩)) (.int .i64 ((d:Int) + 1))=.val (.pointer (some ((⟨c3,0,none⟩:Addr).add ((d + 1) * 2)))) w:=fun w=>by
   have:=ia104 w ⟨c3,0,none⟩ (d + 1) (by omega)
   rw [show ((d + 1:Nat):Int)=(d:Int) + 1 by omega] at this
   exact this
  have hw1:IntKind.wrap .i64 ((d:Int) + 1)=(d:Int) + 1:=wrap64_in (by omega) (by omega)
  obtain ⟨tk0,q0⟩:=row_ld hV16 (i:=d) (by omega)
  obtain ⟨tk1,q1⟩:=row_ld hV16 (i:=d + 1) (by omega)
  have hcl:=row_len hV16
  have hs1:=row_st hV16 (i:=d + 1) (by omega) (bothS (gtS V (d + 1)) (restS (gtS V d) (gtS L d)))
  have h16':(lowW L V d).length=16:=by simp [hV16]
  have hcl':=row_len h16'
  obtain ⟨tl0,_⟩:=row_ld h16' (i:=d) (by omega)
  obtain ⟨tl1,_⟩:=row_ld h16' (i:=d + 1) (by omega)
  have hs0:=row_st h16' (i:=d) (by omega) (bothS (gtS V d) (wholeS (gtS (lowW L V d) (d + 1)) (gtS L d)))
  have h16'':(stepW L V d).length=16:=by simp [hV16]
  have hcl'':=row_len h16''
  obtain ⟨ts0,_⟩:=row_ld h16'' (i:=d) (by omega)
  obtain ⟨ts1,_⟩:=row_ld h16'' (i:=d + 1) (by omega)
  have el0:gtS (lowW L V d) d=gtS V d:=by unfold lowW; rw [gtS_set _ (by omega),if_neg (by omega)]
  have el1:gtS (lowW L V d) (d + 1)=bothS (gtS V (d + 1)) (restS (gtS V d) (gtS L d)):=by unfold lowW; rw [gtS_set _ (by omega),if_pos rfl]
  have es0:gtS (stepW L V d) d=bothS (gtS V d) (wholeS (gtS (lowW L V d) (d + 1)) (gtS L d)):=by unfold stepW; rw [gtS_set _ (by simp; omega),if_pos rfl]
  have es1:gtS (stepW L V d) (d + 1)=gtS (lowW L V d) (d + 1):=by unfold stepW; rw [gtS_set _ (by simp; omega),if_neg (by omega)]
  have lowb:=low_small hVb hL (d:=d) (by omega)
  change _=(lowW L V d).flatMap spC at hs1
  change _=(stepW L V d).flatMap spC at hs0
  rw [← el1] at hs1
  rw [← es0] at hs0
  rw [el0] at tl0
  have n3:¬ c3=w'.next:=by omega
  have n3':¬ c3=w'.next + 1:=by omega
  have n3'':¬ c3=w'.next + 1 + 1:=by omega
  have m3:¬ w'.next=c3:=by omega
  have m3':¬ w'.next + 1=c3:=by omega
  have m3'':¬ w'.next + 1 + 1=c3:=by omega
  have lw:w'.lim≤w'.next:=by omega
  have lw3:w'.lim≤c3:=by omega
  have hrow:=hw.row
  have r92:=fun a b w=>S92.call (P:=Tryd.prog) h92 (m:=m) (w:=w) ⟨a,b,rfl,rfl⟩
  -- the two calls
  obtain ⟨M1,hM1⟩:∃ M1:AW,M1=⟨((w'.heap.put w'.next (some (.cells [.int .i64 0,.int .i64 0] 25 false))).put w'.next (some (.cells [.int .i64 (gtS L d).1,.int .i64 (gtS L d).2] 25 false))).put (w'.next + 1) (some (.cells [.int .i64 (gtS V d).1,.int .i64 (gtS V d).2,.int .i64 (gtS L d).1,.int .i64 (gtS L d).2] 166 false)),w'.next + 1 + 1,w'.lim⟩:=⟨_,rfl⟩
  have r111:=S111.call (P:=Tryd.prog) h111 (m:=m) (w:=M1) ⟨gtS V (d + 1),(gtS V d,gtS L d),.slice (some ⟨w'.next + 1,0,none⟩) 1 1,rfl,.inr ⟨w'.next + 1,0,none,1,rfl,⟨[],[],166,false,by rw [hM1]; simp [pairC],rfl⟩,by rw [hM1]; exact Nat.lt_succ_self _⟩,bnd_small (hVb d),los_small hL d,by rw [hM1]; show w'.lim≤w'.next + 1 + 1; omega,rfl⟩
  rw [← el1,hM1] at r111
  simp only [spC] at r111
  obtain ⟨M2,hM2⟩:∃ M2:AW,M2=⟨((((w'.heap.put w'.next (some (.cells [.int .i64 0,.int .i64 0] 25 false))).put w'.next (some (.cells [.int .i64 (gtS L d).1,.int .i64 (gtS L d).2] 25 false))).put (w'.next + 1) (some (.cells [.int .i64 (gtS V d).1,.int .i64 (gtS V d).2,.int .i64 (gtS L d).1,.int .i64 (gtS L d).2] 166 false))).put c3 (some (.cells ((lowW L V d).flatMap spC) 104 false))).put (w'.next + 1 + 1) (some (.cells [.int .i64 (gtS (lowW L V d) (d + 1)).1,.int .i64 (gtS (lowW L V d) (d + 1)).2,.int .i64 (gtS L d).1,.int .i64 (gtS L d).2] 168 false)),w'.next + 1 + 1 + 1,w'.lim⟩:=⟨_,rfl⟩
  have r112:=S112.call (P:=Tryd.prog) h112 (m:=m) (w:=M2) ⟨gtS V d,(gtS (lowW L V d) (d + 1),gtS L d),.slice (some ⟨w'.next + 1 + 1,0,none⟩) 1 1,rfl,.inr ⟨w'.next + 1 + 1,0,none,1,rfl,⟨[],[],168,false,by rw [hM2]; simp [pairC],rfl⟩,by rw [hM2]; exact Nat.lt_succ_self _⟩,lowb (d + 1),los_small hL d,by rw [hM2]; show w'.lim≤w'.next + 1 + 1 + 1; omega,rfl⟩
  rw [← es0,hM2] at r112
  simp only [spC] at r112
  rw [es1] at ts1
  obtain ⟨cs,hcs⟩:∃ cs,cs=V.flatMap spC:=⟨_,rfl⟩
  obtain ⟨cs1,hcs1⟩:∃ cs,cs=(lowW L V d).flatMap spC:=⟨_,rfl⟩
  obtain ⟨cs2,hcs2⟩:∃ cs,cs=(stepW L V d).flatMap spC:=⟨_,rfl⟩
  rw [← hcs] at hrow tk0 tk1 hcl hs1
  rw [← hcs1] at hs1 hcl' tl0 tl1 hs0 r112
  rw [← hcs2] at hs0 hcl'' ts0 ts1
  simp only [spC] at fL
  have hpn:passW L (d + 1) Wi=if badW (stepW L V d) d=true then none else some (stepW L V d):=by
   simp only [passW]; rw [hp]
  have hbad:badW (stepW L V d) d=(decide ((gtS (stepW L V d) d).2 < (gtS (stepW L V d) d).1) || decide ((gtS (lowW L V d) (d + 1)).2 < (gtS (lowW L V d) (d + 1)).1)):=by
   unfold badW empS; rw [es1]
  have hmem:∀ M:T AObj,M=(M2.heap.put c3 (some (.cells cs2 104 false)))→In104 w0 c3 (stepW L V d) ⟨M,w'.next + 1 + 1 + 1,w'.lim⟩:=by
   intro M hM
   subst hM
   refine ⟨?_,fun x h1 h2=>?_,by show w0.next≤w'.next + 1 + 1 + 1; omega,hlm⟩
   ·show (M2.heap.put c3 _).get c3=_
    rw [get_put,if_pos rfl,hcs2]
   ·show (M2.heap.put c3 _).get x=_
    rw [get_put,if_neg h2,hM2]
    show ((((((w'.heap.put _ _).put _ _).put _ _).put _ _).put _ _).get x)=_
    rw [get_put,if_neg (by omega),get_put,if_neg h2,get_put,if_neg (by omega),get_put,if_neg (by omega),get_put,if_neg (by omega)]
    exact hw.old x h1 h2
  rw [hM2,← hcs1] at hmem
  have g4w:w'.heap.get c4=some (.cells zerC 104 false):=by rw [hw.old c4 hc4.1 hc4.2]; exact g4
  have hz:zerC.length=32:=rfl
  have hzd:zerC.drop 32=[]:=rfl
  have k4:¬ c4=w'.next:=by omega
  have k4':¬ c4=w'.next + 1:=by omega
  have k4'':¬ c4=w'.next + 1 + 1:=by omega
  have k43:=hc4.2
  have lw4:w'.lim≤c4:=by omega
  by_cases E0:(gtS (stepW L V d) d).2 < (gtS (stepW L V d) d).1
  ·have hb:passW L L.length Wi=none:=passW_none (d:=d + 1) (by rw [hpn,hbad,decide_eq_true E0]; rfl) _ hlt
   simp [mc104_l1,u3,u4,t17,t18,t19,hlt,hiL,fL,lw,lw3,hid0,hid1,hw1,n3,n3',n3'',m3,m3',m3'',hrow,hcl,tk0,tk1,q0,q1,r111,hs1,hcl',tl0,tl1,r112,hs0,hcl'',ts0,ts1,r92,E0,k4,k4',k4'',k43,g4w,hz,hzd,lw4]
   exact hno hb _ _ (by simp [u4]) (by simp) (by simp; rfl)
  ·by_cases E1:(gtS (lowW L V d) (d + 1)).2 < (gtS (lowW L V d) (d + 1)).1
   ·have hb:passW L L.length Wi=none:=passW_none (d:=d + 1) (by rw [hpn,hbad,decide_eq_true E1,Bool.or_true]; rfl) _ hlt
    simp [mc104_l1,u3,u4,t17,t18,t19,hlt,hiL,fL,lw,lw3,hid0,hid1,hw1,n3,n3',n3'',m3,m3',m3'',hrow,hcl,tk0,tk1,q0,q1,r111,hs1,hcl',tl0,tl1,r112,hs0,hcl'',ts0,ts1,r92,E0,E1,k4,k4',k4'',k43,g4w,hz,hzd,lw4]
    exact hno hb _ _ (by simp [u4]) (by simp) (by simp; rfl)
   ·have hpn':passW L (d + 1) Wi=some (stepW L V d):=by rw [hpn,hbad,decide_eq_false E0,decide_eq_false E1]; rfl
    simp [mc104_l1,u3,u4,t17,t18,t19,hlt,hiL,fL,lw,lw3,hid0,hid1,hw1,n3,n3',n3'',m3,m3',m3'',hrow,hcl,tk0,tk1,q0,q1,r111,hs1,hcl',tl0,tl1,r112,hs0,hcl'',ts0,ts1,r92,E0,E1]
    exact ⟨by omega,_,hpn',hmem _ rfl,⟨by simp [hk.k3],by simp [hk.k4],by simp [hk.k6],by simp [hk.k7]⟩,by omega⟩
 ·have hdl:d=L.length:=by omega
  subst hdl
  simp [mc104_l1,t18,t19]
  exact hyes V hp _ _ hw ⟨by simp [hk.k3],by simp [hk.k4],by simp [hk.k6],by simp [hk.k7]⟩
def narR:Option (List Sp)→Value
 | some V=>.tuple ⟨[.agg ⟨V.flatMap spC⟩,.bool true]⟩
 | none=>.tuple ⟨[.agg ⟨zerC⟩,.bool false]⟩
def losL (L:List Sp):List Sp:=L++[(0,1000000)]
@[simp] theorem losL_length (L:List Sp):(losL L).length=L.length + 1:=by simp [losL]
theorem row_inj {V W:List Sp} (hV:V.length=16) (hW:W.length=16) (h:V.flatMap spC=W.flatMap spC):V=W :=
 flat_inj spC_length spC_inj V W [] [] (by omega) (by rw [List.append_nil,List.append_nil,h])
def S104:PSpec where
 R args w v:=∃ (b:CBox) (pv:Value) (L W:List Sp),args=[.agg ⟨procC b pv⟩,.agg ⟨W.flatMap spC⟩]∧ProcV w pv L∧L.length≤14∧LosW (losL L)∧W.length=16∧BndW W∧w.lim≤w.next∧v=narR (narW (losL L) (losL L).length 40 W)
 uniq:=by
  rintro _ _ _ _ ⟨⟨_,_,_,_⟩,pv,L,W,rfl,h1,_,_,h2,_,_,rfl⟩ ⟨⟨_,_,_,_⟩,pv',L',W',h,k1,_,_,k2,_,_,rfl⟩
  simp only [procC,List.cons.injEq,Value.agg.injEq,Array.mk.injEq,Value.int.injEq,true_and,and_true] at h
  obtain ⟨⟨rfl,rfl,rfl,rfl,rfl⟩,h3⟩:=h
  rw [row_inj h2 k2 h3,h1.rows.uniq (m:=2) spC_length spC_inj k1.rows]
 shut:=fun ⟨a1,a2,a3,a4,h1,h2,h3,h4,h5,h6,_,h7⟩=>⟨a1,a2,a3,a4,h1,h2,h3,h4,h5,h6,Nat.le_refl _,h7⟩
set_option maxHeartbeats 1000000 in
theorem run104 {ov:Ov} (ho:∀ args w,ov 104 args w=none) (ho63:∀ args w,ov 63 args w=none) (h92:HasP ov 92 S92.F) (h111:HasP ov 111 S111.F) (h112:HasP ov 112 S112.F) (b:CBox) (pv:Value) (L0 W:List Sp) (hlen:L0.length≤14) (hL:LosW (losL L0)) (hW16:W.length=16) (hWb:BndW W) (w:AW) (hl:w.lim=w.next) (hpv:ProcV w pv L0) :
  ∃ x w',(run Tryd.prog ov 3).call 104 [.agg ⟨procC b pv⟩,.agg ⟨W.flatMap spC⟩] w .none=.ok (.ret x) w' .none∧x=narR (narW (losL L0) (losL L0).length 40 W):=by
 refine call_wp text104 (by simp) (ho _ _) ?_
 have hz:zerC.length=32:=rfl
 have hzt:zerC.take 32=zerC:=rfl
 have hzd:zerC.drop 32=[]:=rfl
 obtain ⟨w1,hw1e⟩:∃ w1:AW,w1=⟨((w.heap.put w.next (some (.cells (procC b pv) 97 false))).put (w.next + 1) (some (.cells (W.flatMap spC) 104 false))).put (w.next + 1 + 1) (some (.cells zerC 104 false)),w.next + 1 + 1 + 1,w.lim⟩:=⟨_,rfl⟩
 have u1:Up w w1:=by rw [hw1e]; exact (((Up.refl w).add _).put (Nat.le_succ _) (Nat.le_succ _)).put (by show w.next≤w.next + 1 + 1; omega) (Nat.le_succ _)
 have n1:w1.next=w.next + 1 + 1 + 1:=by rw [hw1e]
 have l1:w1.lim=w.lim:=u1.lim
 have g3:w1.heap.get (w.next + 1)=some (.cells (W.flatMap spC) 104 false):=by rw [hw1e]; simp
 have g4:w1.heap.get (w.next + 1 + 1)=some (.cells zerC 104 false):=by rw [hw1e]; simp
 obtain ⟨_,w2,c63,B,rfl,hB,hB1,hB2,u2⟩:=call63 (ov:=ov) 1 ho63 L0 (by omega) pv w1 (by omega) (hpv.up u1)
 have hn2:=u2.next
 have hl2:=u2.lim
 -- the row of the losses, and the last one
 have hB3:(w2.heap.put w2.next (some (.cells [.int .i64 0,.int .i64 1000000] 25 false))).get B=some (.cells (L0.flatMap spC) 25 false):=by rw [get_put,if_neg (by omega)]; exact hB
 have hsrc:srcCells ⟨w2.heap.put w2.next (some (.cells [.int .i64 0,.int .i64 1000000] 25 false)),w2.next + 1,w2.lim⟩ 2 (.slice (some ⟨w2.next,0,none⟩) 1 1)=some [.int .i64 0,.int .i64 1000000]:=src_row (e':=25) (ro:=false) (k:=1) (by simp) (by simp) (by decide) (by decide)
 have hap:=append_full (P:=Tryd.prog) list43 elem43 sz25 small25 (w:=⟨w2.heap.put w2.next (some (.cells [.int .i64 0,.int .i64 1000000] 25 false)),w2.next + 1,w2.lim⟩) (B:=B) (n:=L0.length) (m:=1) (c:=L0.flatMap spC) (new:=[.int .i64 0,.int .i64 1000000]) (x:=.slice (some ⟨w2.next,0,none⟩) 1 1) rfl hsrc (by simp) rfl (by decide) (by omega) hB3 (flat_length spC_length L0) (by show w2.lim≤B; omega)
 have hLc:L0.flatMap spC++[.int .i64 0,.int .i64 1000000]=(losL L0).flatMap spC:=by simp [losL,spC]
 rw [hLc] at hap
 have hLl:L0.length + 1=(losL L0).length:=by simp
 obtain ⟨w3,hw3e⟩:∃ w3:AW,w3=⟨((w2.heap.put w2.next (some (.cells [.int .i64 0,.int .i64 1000000] 25 false))).put B none).put (w2.next + 1) (some (.cells ((losL L0).flatMap spC) 25 false)),w2.next + 1 + 1,w2.lim⟩:=⟨_,rfl⟩
 have hold3:∀ x,x < w2.next→x ≠ B→w3.heap.get x=w2.heap.get x:=fun x hx hb=>by
  rw [hw3e]
  show (((w2.heap.put _ _).put _ _).put _ _).get x=_
  rw [get_put,if_neg (by omega),get_put,if_neg hb,get_put,if_neg (by omega)]
 have g33:w3.heap.get (w.next + 1)=some (.cells (W.flatMap spC) 104 false):=by rw [hold3 _ (by omega) (by omega),u2.at (by omega)]; exact g3
 have g34:w3.heap.get (w.next + 1 + 1)=some (.cells zerC 104 false):=by rw [hold3 _ (by omega) (by omega),u2.at (by omega)]; exact g4
 have g3L:w3.heap.get (w2.next + 1)=some (.cells ((losL L0).flatMap spC) 25 false):=by rw [hw3e]; simp
 have n3:w3.next=w2.next + 1 + 1:=by rw [hw3e]
 have l3:w3.lim=w.lim:=by rw [hw3e]; show w2.lim=_; omega
 rw [hw1e] at c63
 simp only [procC] at c63 ⊢
 simp only [Nat.reduceAdd] at c63
 have ez:([.int .i64 0,.int .i64 0,.int .i64 0,.int .i64 0,.int .i64 0,.int .i64 0,.int .i64 0,.int .i64 0,.int .i64 0,.int .i64 0,.int .i64 0,.int .i64 0,.int .i64 0,.int .i64 0,.int .i64 0,.int .i64 0,.int .i64 0,.int .i64 0,.int .i64 0,.int .i64 0,.int .i64 0,.int .i64 0,.int .i64 0,.int .i64 0,.int .i64 0,.int .i64 0,.int .i64 0,.int .i64 0,.int .i64 0,.int .i64 0,.int .i64 0,.int .i64 0]:List Value)=zerC:=rfl
 simp [mc104,cellsOf_agg,ez,c63,hap]
 rw [← hw3e]
 obtain ⟨c3,hc3⟩:∃ c3,c3=w.next + 1:=⟨_,rfl⟩
 obtain ⟨c4,hc4⟩:∃ c4,c4=w.next + 1 + 1:=⟨_,rfl⟩
 obtain ⟨BL,hBL⟩:∃ BL,BL=w2.next + 1:=⟨_,rfl⟩
 obtain ⟨L,hLe⟩:∃ L,L=losL L0:=⟨_,rfl⟩
 have hLn:L.length=L0.length + 1:=by rw [hLe]; simp
 refine wp_seqX (wp_blockX (wp_rounds (fun i t w'=>∃ Wi f,w'.heap.get c3=some (.cells (Wi.flatMap spC) 104 false)∧w'.heap.get c4=some (.cells zerC 104 false)∧w'.heap.get BL=some (.cells (L.flatMap spC) 25 false)∧BL < w'.next∧w'.lim=w.lim∧Wi.length=16∧BndW Wi∧FarW L L.length i Wi∧f + i=40∧narW L L.length f Wi=narW L L.length 40 W∧i≤L.length∧tget t 3=.pointer (some ⟨c3,0,none⟩)∧tget t 4=.pointer (some ⟨c4,0,none⟩)∧tget t 6=.slice (some ⟨BL,0,none⟩) L.length L.length) 40 (by decide) ?_ ?_))
 ·refine ⟨W,40,by rw [hc3]; exact g33,by rw [hc4]; exact g34,by rw [hBL,hLe]; exact g3L,by omega,l3,hW16,hWb,.inl rfl,rfl,rfl,Nat.zero_le _,by simp [hc3],by simp [hc4],by simp [hBL,hLn]⟩
 ·rw [← hLe] at hL ⊢
  rintro i t w' ⟨Wi,f,r3,r4,rL,hbl,hlm,h16,hb,hF,hf,hnar,hi,t3,t4,t6⟩
  obtain ⟨f,rfl⟩:∃ f',f=f' + 1:=⟨f - 1,by omega⟩
  have hcl:=row_len h16
  have hsg:=row_sing Wi
  have htk:(Wi.flatMap spC).take 32=Wi.flatMap spC:=List.take_of_length_le (by omega)
  have lw:w'.lim≤w'.next:=by omega
  have e3:¬ c3=w'.next:=by omega
  have e4:¬ c4=w'.next:=by omega
  have e34:¬ c4=c3:=by omega
  have eL:¬ BL=w'.next:=by omega
  have hl43:∀ w2,lenB Tryd.prog w2 43 (.slice (some ⟨BL,0,none⟩) L.length L.length)=.val (.int .i64 (L.length:Nat)) w2:=fun w2=>by simp
  obtain ⟨wA,hwA⟩:∃ wA:AW,wA=⟨(w'.heap.put w'.next (some (.cells zerC 104 false))).put w'.next (some (.cells (Wi.flatMap spC) 104 false)),w'.next + 1,w'.lim⟩:=⟨_,rfl⟩
  have uA:Up w' wA:=by rw [hwA]; exact ((Up.refl w').add _).put (Nat.le_refl _) (Nat.le_refl _)
  have nA:wA.next=w'.next + 1:=by rw [hwA]
  have lA:wA.lim=w.lim:=by rw [hwA]; exact hlm
  have g7:wA.heap.get w'.next=some (.cells (Wi.flatMap spC) 104 false):=by rw [hwA]; simp
  obtain ⟨cs,hcs⟩:∃ cs,cs=Wi.flatMap spC:=⟨_,rfl⟩
  have r3':=r3
  rw [← hcs] at hcl hsg htk r3' hwA
  simp [mc104_l0,t3,t4,t6,r3',hcl,htk,hsg,lw,cellsOf_agg,ez,hz,hzd]
  rw [← hwA]
  rw [hcs] at htk
  refine wp_blockX (wp_seqX (wp_blockX (inner104 1 h92 h111 h112 L hL (by omega) Wi hb h16 wA c3 BL c4 (by omega) ⟨by omega,by omega⟩ (by rw [uA.at hbl]; exact rL) ⟨by omega,e34⟩ (by rw [uA.at (by omega)]; exact r4) ⟨by omega,by omega⟩ _ _ _ ⟨by rw [uA.at (by omega)]; exact r3,fun _ _ _=>rfl,Nat.le_refl _,rfl⟩ ?_ ?_ ?_ ?_ ?_ ?_ ?_)))
  case _=>simp [t3]
  case _=>simp [t4]
  case _=>simp
  case _=>simp
  case _=>simp
  case _ =>
   intro hp t' w4 v4 v5 r44
   have e:narW L L.length 40 W=none:=by
    rw [← hnar]; simp only [narW]; rw [hp]
   rw [hLn] at e
   simp [v4,v5,r44,hz,hzt,e,narR,tupV]
  case _ =>
   intro V hp t' w4 hI hk
   obtain ⟨_,hV16⟩:=passW_fn hp (by omega)
   rw [h16] at hV16
   have hVl:=row_len hV16
   have hVt:(V.flatMap spC).take 32=V.flatMap spC:=List.take_of_length_le (by omega)
   have hVs:=row_sing V
   have hWl:=row_len h16
   have v3:=hk.k3; have v4:=hk.k4; have v6:=hk.k6; have v7:=hk.k7
   simp [t3,t4,t6] at v3 v4 v6 v7
   have g74:w4.heap.get w'.next=some (.cells (Wi.flatMap spC) 104 false):=by rw [hI.old _ (by omega) (by omega)]; exact g7
   have g34':=hI.row
   have g44:w4.heap.get c4=some (.cells zerC 104 false):=by rw [hI.old _ (by omega) e34,uA.at (by omega)]; exact r4
   have gL4:w4.heap.get BL=some (.cells (L.flatMap spC) 25 false):=by rw [hI.old _ (by omega) (by omega),uA.at (by omega)]; exact rL
   have l4:w4.lim=w.lim:=by rw [hI.lim,lA]
   have n4:=hI.next
   have heq:=eq_row hV16 h16
   by_cases hVW:V=Wi
   ·have e:narW L L.length 40 W=some V:=by
     rw [← hnar]; simp only [narW]; rw [hp]; simp [hVW]
    rw [decide_eq_true hVW] at heq
    rw [hLn] at e
    have lw4:w4.lim≤c4:=by omega
    have c34:¬ c3=c4:=by omega
    generalize hcs2:V.flatMap spC=cs2 at hVl hVt hVs heq g34'
    simp [v3,v4,v7,g34',g74,hVl,hVt,hWl,htk,heq,g44,hz,hzd,lw4,hVs,cellsOf_agg,e,narR,tupV,hcs2]
   ·have e:narW L L.length f V=narW L L.length 40 W:=by
     rw [← hnar]; simp only [narW]; rw [hp]; simp [hVW]
    rw [decide_eq_false hVW] at heq
    have hiL:i < L.length:=by
     rcases Nat.lt_or_ge i L.length with h | h
     ·exact h
     ·exact absurd (far_end hL (by omega) (by omega) hF h hp) hVW
    have hVb:=pass_bnd hb hL hp (by omega)
    have hFn:=far_next hL (by omega) hF hp
    have g3V:=g34'
    generalize hcs2:V.flatMap spC=cs2 at hVl hVt hVs heq g34'
    simp [v3,v4,v6,v7,g34',g74,hVl,hVt,hWl,htk,heq]
    exact ⟨by omega,V,by rw [← hcs2],g44,gL4,by omega,l4,hV16,hVb,hFn,f,by omega,e,by omega⟩
def mkW (f:Nat→Sp):List Sp:=(List.range 16).map f
@[simp] theorem mkW_length (f:Nat→Sp):(mkW f).length=16:=by simp [mkW]
theorem mkW_at (f:Nat→Sp) {k:Nat} (h:k < 16):gtS (mkW f) k=f k:=by
 refine gtS_of ?_
 unfold mkW
 rw [List.getElem?_map,List.getElem?_range h]; rfl
theorem mkW_set (f:Nat→Sp) {i:Nat} (s:Sp) (h:i < 16):(mkW f).set i s=mkW (updS f i s):=by
 refine list_ext (by simp) fun k=>?_
 rw [gtS_set _ (by simpa using h)]
 by_cases hk:k < 16
 ·rw [mkW_at _ hk,mkW_at _ hk]; rfl
 ·have e:∀ f,gtS (mkW f) k=(0,0):=fun f=>by
   unfold gtS
   rw [List.getD_eq_getElem?_getD,List.getElem?_eq_none (by simp; omega)]; rfl
  rw [e,e,if_neg (by omega)]
theorem mkW_ext {f g:Nat→Sp} (h:∀ k,k < 16→f k=g k):mkW f=mkW g:=by
 unfold mkW
 exact List.map_congr_left fun k hk=>h k (List.mem_range.1 hk)
theorem mkW_zero:(mkW fun _=>(0,0)).flatMap spC=zerC:=rfl
def ReadOk (l:List CRead):Prop:=∀ p ∈ l,0≤p.read∧p.read≤1010000∧0≤p.wrong∧p.wrong≤10000
def onDay (l:List CRead) (k:Nat):List CRead:=l.filter fun p=>decide (p.day=(k:Int))
def foldR (l:List CRead) (s:Sp):Sp:=l.foldl (fun a p=>bothS a (readS p)) s
def iniG (b:CBox) (n k:Nat):Sp:=if k=n + 1 then (b.sl,b.sh) else if k=0 then (b.wl,b.wh) else if k < n + 1 then (1,1000000) else (0,0)
def iniF (b:CBox) (n:Nat) (l:List CRead) (i k:Nat):Sp:=if k < i then foldR (onDay l k) (iniG b n k) else iniG b n k
theorem fold_bnd:∀ {l:List CRead} {s:Sp},ReadOk l→bndS s→bndS (foldR l s)
 | [],_,_,h=>h
 | p::l,s,hl,h=>by
  have hp:=hl p List.mem_cons_self
  refine fold_bnd (l:=l) (s:=bothS s (readS p)) (fun q hq=>hl q (List.mem_cons_of_mem _ hq)) ?_
  unfold bndS at *
  simp only [bothS,readS]; omega
theorem day_ok {l:List CRead} (h:ReadOk l) (k:Nat):ReadOk (onDay l k):=fun p hp=>h p (List.mem_filter.1 hp).1
theorem iniG_bnd {b:CBox} (hb:boxB b=true) (n k:Nat):bndS (iniG b n k):=by
 simp only [boxB,spanI,Bool.and_eq_true,decide_eq_true_eq] at hb
 unfold iniG bndS
 repeat' split
 all_goals simp only; omega
theorem iniF_bnd {b:CBox} (hb:boxB b=true) {l:List CRead} (hl:ReadOk l) (n i k:Nat):bndS (iniF b n l i k):=by
 unfold iniF
 split
 ·exact fold_bnd (day_ok hl k) (iniG_bnd hb n k)
 ·exact iniG_bnd hb n k
theorem mkW_bnd {f:Nat→Sp} (h:∀ k,bndS (f k)):BndW (mkW f):=fun k=>by
 by_cases hk:k < 16
 ·rw [mkW_at _ hk]; exact h k
 ·unfold gtS
  rw [List.getD_eq_getElem?_getD,List.getElem?_eq_none (by simp; omega)]
  unfold bndS; simp
def S64:PSpec where
 R args _ v:=∃ (b:CBox) (p:Option Addr) (n c:Nat),args=[.agg ⟨procC b (.slice p n c)⟩]∧n≤1000∧v=.int .i64 ((n:Int) + 1)
 uniq:=by
  rintro _ _ _ _ ⟨⟨_,_,_,_⟩,p,n,c,rfl,_,rfl⟩ ⟨⟨_,_,_,_⟩,p',n',c',h,_,rfl⟩
  simp only [procC,List.cons.injEq,Value.agg.injEq,Array.mk.injEq,Value.int.injEq,Value.slice.injEq,true_and,and_true] at h
  obtain ⟨_,_,_,_,_,rfl,_⟩:=h
  rfl
 shut h:=h
theorem run64 {ov:Ov} (ho:∀ args w,ov 64 args w=none) (b:CBox) (p:Option Addr) (n c:Nat) (hn:n≤1000) (w:AW):∃ x w',(run Tryd.prog ov 2).call 64 [.agg ⟨procC b (.slice p n c)⟩] w .none=.ok (.ret x) w' .none∧x=.int .i64 ((n:Int) + 1):=by
 refine call_wp text64 (by simp) (ho _ _) ?_
 have hw:IntKind.wrap .i64 ((n:Int) + 1)=(n:Int) + 1:=wrap64_in (by omega) (by omega)
 simp [mc64,procC,cellsOf_agg,hw,tupV]
theorem len42V {w w':AW} {v:Value} {l:List CRead} (h:RowsV readC w v l):lenB Tryd.prog w' 42 v=.val (.int .i64 (l.length:Nat)) w':=by
 obtain ⟨a,c,rfl⟩:=h.len; simp
theorem list159:isList Tryd.prog 159=true:=by kernel_rfl
theorem elem159:elemA Tryd.prog 159=some 158:=by kernel_rfl
theorem sz158:szOf Tryd.prog 158=some 3:=by kernel_rfl
theorem small158:smallT Tryd.prog 158=true:=by kernel_rfl
theorem call103 {ov:Ov} (m:Nat) (ho:∀ args w,ov 103 args w=none) (l:List CRead) (hlen:l.length≤10) (k:Nat) (lv:Value) (we:AW) (hlim:we.lim≤we.next) (hlv:RowsV readC we lv l) :
  ∃ v w',(run Tryd.prog ov (m + 1)).call 103 [.int .i64 (k:Nat),lv] we .none=.ok (.ret v) w' .none∧RowsV readC w' v (onDay l k)∧Up we w':=by
 refine call_wp text103 (by simp) (ho _ _) ?_
 have hl1:=fun w2=>len42V (w':=w2) hlv
 by_cases h0:l.length=0
 ·have hl0:l=[]:=List.eq_nil_of_length_eq_zero h0
  subst hl0
  simp at hl1
  simp [mc103,hl1]
  refine wp_seqX (wp_blockX (wp_rounds (fun i t w'=>i=0∧w'=we∧tget t 5=.slice none 0 0∧tget t 9=.int .i64 0∧tget t 10=.int .i64 0) 20 (by decide) ⟨rfl,rfl,by simp,by simp,by simp⟩ ?_))
  rintro i t w' ⟨rfl,rfl,t5,t9,t10⟩
  have nj:notJunk (.slice none 0 0)=some (.slice none 0 0):=rfl
  simp [mc103_l0,t5,t9,t10,nj,tupV,onDay]
  exact ⟨.inl ⟨rfl,_,_,rfl⟩,Up.refl _⟩
 ·simp [mc103,hl1]
  refine wp_seqX (wp_blockX (wp_rounds (fun i t w'=>Up we w'∧AccR readC 158 we.next w' (tget t 5) (onDay (l.take i) k)∧tget t 0=.int .i64 (k:Nat)∧tget t 8=lv∧tget t 9=.int .i64 (l.length:Nat)∧tget t 10=.int .i64 (i:Nat)∧i≤l.length) 20 (by decide) ⟨Up.refl _,by simpa [onDay] using AccR.nil,by simp,by simp,by simp,by simp,Nat.zero_le _⟩ ?_))
  rintro i t w' ⟨hup,hacc,t0,t8,t9,t10,hi⟩
  have hnx:=hup.next
  have hlm:=hup.lim
  by_cases hlt:i < l.length
  ·obtain ⟨p,hp⟩:∃ p,l[i]?=some p:=⟨_,List.getElem?_eq_getElem hlt⟩
   obtain ⟨b,off,sq,c,rfl,hra⟩:=hlv.at_ i hlt
   have hld:=hra.rd (m:=3) readC_length hp
   rw [← hup.at hra.2] at hld
   simp only [readC] at hld
   have hia:=fun w=>ia42 w ⟨b,off,sq⟩ l.length c .i64 i hlt
   have hwi:IntKind.wrap .i64 ((i:Int) + 1)=(i:Int) + 1:=wrap64_in (by omega) (by omega)
   have lw:w'.lim≤w'.next:=by omega
   have hf:onDay (l.take (i + 1)) k=onDay (l.take i) k++(if p.day=(k:Int) then [p] else []):=by
    unfold onDay
    rw [take_snoc hp,List.filter_append]
    by_cases e:p.day=(k:Int) <;> simp [e]
   obtain ⟨wa,hwae⟩:∃ wa:AW,wa=⟨(w'.heap.put w'.next (some (.cells [.int .i64 0,.int .i64 0,.int .i64 0] 72 false))).put w'.next (some (.cells [.int .i64 p.day,.int .i64 p.read,.int .i64 p.wrong] 72 false)),w'.next + 1,w'.lim⟩:=⟨_,rfl⟩
   have ua:Up w' wa:=by rw [hwae]; exact ((Up.refl w').add _).put (Nat.le_refl _) (Nat.le_refl _)
   have hacca:AccR readC 158 we.next wa (tget t 5) (onDay (l.take i) k):=hacc.keep (fun x _ h=>ua.at h) ua.next
   have hna:wa.next=w'.next + 1:=by rw [hwae]
   have hla:wa.lim=w'.lim:=ua.lim
   have hfl:(onDay (l.take i) k).length≤10:=by
    have h1:=List.length_filter_le (fun p:CRead=>decide (p.day=(k:Int))) (l.take i)
    unfold onDay
    rw [List.length_take] at h1
    omega
   by_cases e:p.day=(k:Int)
   ·rw [if_pos e] at hf
    obtain ⟨v',w2,ha',hacc',hkp,hn2,hl'⟩:=AccR.push (P:=Tryd.prog) (st:=159) (sz:=3) list159 elem159 sz158 small158 readC_length (fun _=>rfl) (by decide) hacca (by omega) (by omega) (by omega) p
    rw [hwae] at ha'
    simp only [readC,e] at ha'
    rw [e] at hld
    simp [mc103_l0,t0,t8,t9,t10,hlt,hia,hld,lw,ha',hwi]
    refine ⟨by omega,⟨fun q hq=>by rw [hkp q (by omega),ua.at (by omega)]; exact hup.old q hq,by omega,by omega⟩,by rw [hf]; exact hacc',hlt⟩
   ·rw [if_neg e,List.append_nil] at hf
    simp [mc103_l0,t0,t8,t9,t10,hlt,hia,hld,lw,e,hwi]
    rw [← hwae]
    exact ⟨by omega,hup.trans ua,by rw [hf]; exact hacca,hlt⟩
  ·have hi':i=l.length:=by omega
   subst hi'
   rw [List.take_length] at hacc
   have nj:=hacc.ok
   simp [mc103_l0,t9,t10,nj,tupV]
   exact ⟨hacc.rows,hup⟩
theorem ez:([.int .i64 0,.int .i64 0,.int .i64 0,.int .i64 0,.int .i64 0,.int .i64 0,.int .i64 0,.int .i64 0,.int .i64 0,.int .i64 0,.int .i64 0,.int .i64 0,.int .i64 0,.int .i64 0,.int .i64 0,.int .i64 0,.int .i64 0,.int .i64 0,.int .i64 0,.int .i64 0,.int .i64 0,.int .i64 0,.int .i64 0,.int .i64 0,.int .i64 0,.int .i64 0,.int .i64 0,.int .i64 0,.int .i64 0,.int .i64 0,.int .i64 0,.int .i64 0]:List Value)=zerC:=rfl
theorem narW_length {L:List Sp} {N:Nat}:∀ {f:Nat} {W V:List Sp},N < W.length→narW L N f W=some V→V.length=W.length
 | 0,W,V,_,h=>by cases h; rfl
 | f + 1,W,V,hN,h=>by
  simp only [narW] at h
  cases hp:passW L N W with
  | none=>rw [hp] at h; cases h
  | some V' =>
   rw [hp] at h
   have hl:=(passW_fn hp hN).2
   simp only at h
   split at h
   ·cases h; exact hl
   ·rw [narW_length (hl ▸ hN) h,hl]
def weighF (b:CBox) (L:List Sp) (l:List CRead):Option (List Sp):=narW (losL L) (losL L).length 40 (mkW (iniF b L.length l (L.length + 1)))
def S86:PSpec where
 R args w v:=∃ (b:CBox) (pv lv:Value) (L:List Sp) (l:List CRead),args=[.agg ⟨procC b pv⟩,lv]∧ProcV w pv L∧L.length≤14∧LosW (losL L)∧boxB b=true∧RowsV readC w lv l∧l.length≤10∧ReadOk l∧LimW w∧w.lim≤w.next∧v=narR (weighF b L l)
 uniq:=by
  rintro _ _ _ _ ⟨⟨_,_,_,_⟩,pv,lv,L,l,rfl,h1,_,_,_,h2,_,_,_,_,rfl⟩ ⟨⟨_,_,_,_⟩,pv',lv',L',l',h,k1,_,_,_,k2,_,_,_,_,rfl⟩
  simp only [procC,List.cons.injEq,Value.agg.injEq,Array.mk.injEq,Value.int.injEq,true_and,and_true] at h
  obtain ⟨⟨rfl,rfl,rfl,rfl,rfl⟩,rfl⟩:=h
  rw [h1.rows.uniq (m:=2) spC_length spC_inj k1.rows,h2.uniq (m:=3) readC_length readC_inj k2]
 shut:=fun ⟨a1,a2,a3,a4,a5,h1,h2,h3,h4,h5,h6,h7,h8,h9,_,h10⟩=>⟨a1,a2,a3,a4,a5,h1,h2,h3,h4,h5,h6,h7,h8,h9,Nat.le_refl _,h10⟩
structure In86 (w:AW) (b:CBox) (pv:Value) (f:Nat→Sp) (w':AW):Prop where
 up:Up w w'
 c2:w'.heap.get w.next=some (.cells [.int .i64 b.wl,.int .i64 b.wh,.int .i64 b.sl,.int .i64 b.sh,pv] 97 false)
 c4:w'.heap.get (w.next + 1)=some (.cells zerC 104 false)
 c6:w'.heap.get (w.next + 1 + 1)=some (.cells ((mkW f).flatMap spC) 104 false)
 next:w.next + 3≤w'.next
theorem In86.set {w w':AW} {b:CBox} {pv:Value} {f g:Nat→Sp} (h:In86 w b pv f w') (hg:∀ k,k < 16→f k=g k):In86 w b pv g w' :=
 ⟨h.up,h.c2,h.c4,by rw [← mkW_ext hg]; exact h.c6,h.next⟩
set_option maxHeartbeats 2000000 in
theorem run86 {ov:Ov} (ho:∀ args w,ov 86 args w=none) (ho103:∀ args w,ov 103 args w=none) (h64:HasP ov 64 S64.F) (h102:HasP ov 102 S102.F) (h104:HasP ov 104 S104.F) (b:CBox) (hb:boxB b=true) (L:List Sp) (hlen:L.length≤14) (hL:LosW (losL L)) (l:List CRead) (hl10:l.length≤10) (hR:ReadOk l) (pv lv:Value) (w:AW) (hl:w.lim=w.next) (hLim:LimW w) (hpv:ProcV w pv L) (hlv:RowsV readC w lv l) :
  ∃ x w',(run Tryd.prog ov 3).call 86 [.agg ⟨procC b pv⟩,lv] w .none=.ok (.ret x) w' .none∧x=narR (weighF b L l):=by
 refine call_wp text86 (by simp) (ho _ _) ?_
 obtain ⟨B,hpe,_,_⟩:=id hpv
 obtain ⟨ro,hg0⟩:=lim_at hLim
 have hp0:=hLim.2
 have r64:=fun w=>S64.call (P:=Tryd.prog) h64 (m:=1) (w:=w) ⟨b,some ⟨B,0,none⟩,L.length,L.length,rfl,by omega,rfl⟩
 rw [← hpe] at r64
 simp only [procC] at r64 ⊢
 simp only [Nat.reduceAdd] at r64
 have ok0:In86 w b pv (fun _=>(0,0)) ⟨((w.heap.put w.next (some (.cells [.int .i64 b.wl,.int .i64 b.wh,.int .i64 b.sl,.int .i64 b.sh,pv] 97 false))).put (w.next + 1) (some (.cells zerC 104 false))).put (w.next + 1 + 1) (some (.cells zerC 104 false)),w.next + 1 + 1 + 1,w.lim⟩ :=
  ⟨(((Up.refl w).add _).put (Nat.le_succ _) (Nat.le_succ _)).put (by show w.next≤w.next + 1 + 1; omega) (Nat.le_succ _),by simp,by simp,by simp [mkW_zero],by show w.next + 3≤w.next + 1 + 1 + 1; omega⟩
 simp [mc86,cellsOf_agg,ez,r64]
 refine wp_seqX (wp_blockX (wp_rounds (fun i t w'=>In86 w b pv (fun k=>if k < i then (1,1000000) else (0,0)) w'∧tget t 1=lv∧tget t 2=.pointer (some ⟨w.next,0,none⟩)∧tget t 4=.pointer (some ⟨w.next + 1,0,none⟩)∧tget t 6=.pointer (some ⟨w.next + 1 + 1,0,none⟩)∧tget t 10=.int .i64 ((L.length:Int) + 1)∧tget t 11=.int .i64 (i:Nat)∧i≤L.length + 1) 20 (by decide) ?_ ?_))
 ·exact ⟨ok0.set fun k _=>by simp,by simp,by simp,by simp,by simp,by simp,by simp,Nat.zero_le _⟩
 ·rintro i t w' ⟨hI,t1,t2,t4,t6,t10,t11,hi⟩
  have hlm:w'.lim=w.lim:=hI.up.lim
  have hnx:=hI.next
  have g0:w'.heap.get 0=some (.cells [.int .i64 0,.int .i64 60,.int .i64 1,.int .i64 14,.int .i64 0,.int .i64 10000,.int .i64 1,.int .i64 1000000,.int .i64 0,.int .i64 1010000,.int .i64 0,.int .i64 10000,.int .i64 0,.int .i64 1000] 141 ro):=by rw [hI.up.at hp0]; exact hg0
  have c2:=hI.c2; have c4:=hI.c4; have c6:=hI.c6
  have e2:¬ w.next=w.next + 1 + 1:=by omega
  have e4:¬ w.next + 1=w.next + 1 + 1:=by omega
  have lw:w'.lim≤w.next + 1 + 1:=by omega
  by_cases hlt:i < L.length + 1
  ·have hlt':(i:Int) < (L.length:Int) + 1:=by omega
   have hia:=fun w1=>ia104 w1 ⟨w.next + 1 + 1,0,none⟩ i (by omega)
   obtain ⟨tk,q⟩:=row_ld (W:=mkW fun k=>if k < i then (1,1000000) else (0,0)) (by simp) (i:=i) (by omega)
   have hcl:=row_len (W:=mkW fun k=>if k < i then (1,1000000) else (0,0)) (by simp)
   have hs:=row_st (W:=mkW fun k=>if k < i then (1,1000000) else (0,0)) (by simp) (i:=i) (by omega) (1,1000000)
   rw [mkW_set _ _ (by omega)] at hs
   generalize (mkW fun k=>if k < i then (1,1000000) else (0,0)).flatMap spC=cs at c6 tk hcl hs
   have hwi:IntKind.wrap .i64 ((i:Int) + 1)=(i:Int) + 1:=wrap64_in (by omega) (by omega)
   simp only at hs
   simp [mc86_l0,t1,t2,t4,t6,t10,t11,hlt',g0,hia,c6,hcl,q,lw,hwi,hs]
   refine ⟨by omega,⟨hI.up.put (by omega) (Nat.le_refl _),?_,?_,?_,hnx⟩,by omega⟩
   ·show (w'.heap.put _ _).get _=_
    rw [get_put,if_neg e2]; exact c2
   ·show (w'.heap.put _ _).get _=_
    rw [get_put,if_neg e4]; exact c4
   ·show (w'.heap.put _ _).get _=_
    rw [get_put,if_pos rfl]
    congr 3
    refine mkW_ext fun k _=>?_
    unfold updS
    dsimp only
    by_cases k1:k=i
    ·rw [if_pos k1,if_pos (by omega)]
    ·rw [if_neg k1]
     by_cases k2:k < i
     ·rw [if_pos k2,if_pos (by omega)]
     ·rw [if_neg k2,if_neg (by omega)]
  ·have hil:i=L.length + 1:=by omega
   subst hil
   have hnl:¬ (L.length:Int) + 1 < (L.length:Int) + 1:=by omega
   have hian:∀ w1,indexAddrA Tryd.prog w1 104 (.pointer (some ⟨w.next + 1 + 1,0,none⟩)) (.int .i64 ((L.length:Int) + 1))=.val (.pointer (some ((⟨w.next + 1 + 1,0,none⟩:Addr).add ((L.length + 1) * 2)))) w1:=fun w1=>by
    have:=ia104 w1 ⟨w.next + 1 + 1,0,none⟩ (L.length + 1) (by omega)
    rw [show ((L.length + 1:Nat):Int)=(L.length:Int) + 1 by omega] at this
    exact this
   have hia0:=fun w1=>ia104_0 w1 ⟨w.next + 1 + 1,0,none⟩
   have hcl:=row_len (W:=mkW fun k=>if k < L.length + 1 then (1,1000000) else (0,0)) (by simp)
   have hs0:=row_st (W:=mkW fun k=>if k < L.length + 1 then (1,1000000) else (0,0)) (by simp) (i:=0) (by omega) (b.wl,b.wh)
   rw [mkW_set _ _ (by omega)] at hs0
   obtain ⟨f1,hf1⟩:∃ f1,f1=updS (fun k=>if k < L.length + 1 then ((1,1000000):Sp) else (0,0)) 0 (b.wl,b.wh):=⟨_,rfl⟩
   rw [← hf1] at hs0
   have hcl1:=row_len (W:=mkW f1) (by simp)
   have hs1:=row_st (W:=mkW f1) (by simp) (i:=L.length + 1) (by omega) (b.sl,b.sh)
   rw [mkW_set _ _ (by omega)] at hs1
   have hf2:mkW (updS f1 (L.length + 1) (b.sl,b.sh))=mkW (iniF b L.length l 0):=mkW_ext fun k _=>by
    rw [hf1]
    unfold updS iniF iniG
    rw [if_neg (by omega:¬ k < 0)]
   rw [hf2] at hs1
   generalize (mkW fun k=>if k < L.length + 1 then ((1,1000000):Sp) else (0,0)).flatMap spC=cs at c6 hcl hs0
   obtain ⟨cs1,hcs1⟩:∃ cs1,cs1=(mkW f1).flatMap spC:=⟨_,rfl⟩
   rw [← hcs1] at hs0 hs1 hcl1
   have q1:(L.length + 1) * 2 + 2≤32:=by omega
   simp only [Nat.zero_mul,List.take_zero,List.nil_append,Nat.zero_add] at hs0
   simp only at hs1
   simp [mc86_l0,t1,t2,t4,t6,t10,t11,hnl,c2,r64,hia0,hian,c6,hcl,lw,e2,hs0,hcl1,q1,hs1]
   refine wp_seqX (wp_blockX (wp_rounds (fun i t w2=>In86 w b pv (iniF b L.length l i) w2∧tget t 1=lv∧tget t 2=.pointer (some ⟨w.next,0,none⟩)∧tget t 4=.pointer (some ⟨w.next + 1,0,none⟩)∧tget t 6=.pointer (some ⟨w.next + 1 + 1,0,none⟩)∧tget t 30=.int .i64 ((L.length:Int) + 1)∧tget t 31=.int .i64 (i:Nat)∧i≤L.length + 1) 20 (by decide) ?_ ?_))
   ·refine ⟨⟨(hI.up.put (by omega) (Nat.le_refl _)).put (by omega) (Nat.le_refl _),?_,?_,?_,hnx⟩,by simp [t1],by simp [t2],by simp [t4],by simp [t6],by simp,by simp,Nat.zero_le _⟩
    ·show ((w'.heap.put _ _).put _ _).get _=_
     rw [get_put,if_neg e2,get_put,if_neg e2]; exact c2
    ·show ((w'.heap.put _ _).put _ _).get _=_
     rw [get_put,if_neg e4,get_put,if_neg e4]; exact c4
    ·show ((w'.heap.put _ _).put _ _).get _=_
     rw [get_put,if_pos rfl]
   ·clear hI t1 t2 t4 t6 t10 t11 c2 c4 c6 g0 hlm hnx hs0 hs1 hcs1 hcl hcl1 hi
    rintro i t w2 ⟨hI,t1,t2,t4,t6,t30,t31,hi⟩
    have hlm:w2.lim=w.lim:=hI.up.lim
    have hnx:=hI.next
    have c2:=hI.c2; have c4:=hI.c4; have c6:=hI.c6
    by_cases hlt:i < L.length + 1
    ·have hlt':(i:Int) < (L.length:Int) + 1:=by omega
     have hia:=fun w1=>ia104 w1 ⟨w.next + 1 + 1,0,none⟩ i (by omega)
     obtain ⟨tk,q⟩:=row_ld (W:=mkW (iniF b L.length l i)) (by simp) (i:=i) (by omega)
     rw [mkW_at _ (by omega)] at tk
     have ei:iniF b L.length l i i=iniG b L.length i:=by unfold iniF; rw [if_neg (by omega)]
     rw [ei] at tk
     have hcl:=row_len (W:=mkW (iniF b L.length l i)) (by simp)
     have hs:=row_st (W:=mkW (iniF b L.length l i)) (by simp) (i:=i) (by omega) (foldR (onDay l i) (iniG b L.length i))
     rw [mkW_set _ _ (by omega)] at hs
     have hnext:mkW (updS (iniF b L.length l i) i (foldR (onDay l i) (iniG b L.length i)))=mkW (iniF b L.length l (i + 1)):=mkW_ext fun k _=>by
      unfold updS iniF
      by_cases k1:k=i
      ·rw [if_pos k1,if_pos (by omega),k1]
      ·rw [if_neg k1]
       by_cases k2:k < i
       ·rw [if_pos k2,if_pos (by omega)]
       ·rw [if_neg k2,if_neg (by omega)]
     rw [hnext] at hs
     generalize hcse:(mkW (iniF b L.length l i)).flatMap spC=cs at c6 tk hcl hs
     obtain ⟨v103,w3,c103,hrow3,u3⟩:=call103 (ov:=ov) 1 ho103 l hl10 i lv w2 (by omega) (hlv.up hI.up)
     simp only [Nat.reduceAdd] at c103
     have hl3:=u3.lim
     have hn3:=u3.next
     have c63:w3.heap.get (w.next + 1 + 1)=some (.cells cs 104 false):=by rw [u3.at (by omega)]; exact c6
     have hfl:(onDay l i).length≤10:=by
      have h1:=List.length_filter_le (fun p:CRead=>decide (p.day=(i:Int))) l
      unfold onDay; omega
     have r102:=S102.call (P:=Tryd.prog) h102 (m:=1) (w:=w3) ⟨iniG b L.length i,onDay l i,v103,rfl,hrow3,hfl,fun p hp=>by have:=day_ok hR i p hp; unfold smallR; omega,by omega,rfl⟩
     change _=RO.ok (Out.ret (.agg ⟨spC (foldR (onDay l i) (iniG b L.length i))⟩)) _ _ at r102
     simp only [spC,Nat.reduceAdd] at r102
     have lw:w3.lim≤w.next + 1 + 1:=by omega
     have hwi:IntKind.wrap .i64 ((i:Int) + 1)=(i:Int) + 1:=wrap64_in (by omega) (by omega)
     simp [mc86_l1,t1,t2,t4,t6,t30,t31,hlt',hia,c6,hcl,q,tk,c103,c63,r102,lw,hs,hwi]
     refine ⟨by omega,⟨(hI.up.trans u3).put (by omega) (Nat.le_refl _),?_,?_,?_,by show w.next + 3≤w3.next; omega⟩,by omega⟩
     ·show (w3.heap.put _ _).get _=_
      rw [get_put,if_neg e2,u3.at (by omega)]; exact c2
     ·show (w3.heap.put _ _).get _=_
      rw [get_put,if_neg e4,u3.at (by omega)]; exact c4
     ·show (w3.heap.put _ _).get _=_
      rw [get_put,if_pos rfl]
    ·have hil:i=L.length + 1:=by omega
     subst hil
     have hW16:(mkW (iniF b L.length l (L.length + 1))).length=16:=by simp
     have r104:=S104.call (P:=Tryd.prog) h104 (m:=1) (w:=w2) ⟨b,pv,L,mkW (iniF b L.length l (L.length + 1)),rfl,hpv.up hI.up,hlen,hL,hW16,mkW_bnd fun k=>iniF_bnd hb hR _ _ k,by omega,rfl⟩
     have hcl:=row_len hW16
     have htk:((mkW (iniF b L.length l (L.length + 1))).flatMap spC).take 32=(mkW (iniF b L.length l (L.length + 1))).flatMap spC:=List.take_of_length_le (by omega)
     change _=RO.ok (Out.ret (narR (weighF b L l))) _ _ at r104
     simp only [procC,Nat.reduceAdd] at r104
     generalize (mkW (iniF b L.length l (L.length + 1))).flatMap spC=cs at c6 hcl htk r104
     have lw4:w2.lim≤w.next + 1:=by omega
     have hz:zerC.length=32:=rfl
     have hzt:zerC.take 32=zerC:=rfl
     have hzd:zerC.drop 32=[]:=rfl
     have hzs:singles zerC=true:=rfl
     cases hN:weighF b L l with
     | none =>
      rw [hN] at r104
      simp only [narR] at r104
      simp [mc86_l1,t1,t2,t4,t6,t30,t31,c2,c6,hcl,htk,r104,c4,lw4,hz,hzt,hzd,hzs,cellsOf_agg,narR,tupV]
     | some V =>
      rw [hN] at r104
      simp only [narR] at r104
      have hV16:V.length=16:=by
       have:=narW_length (by rw [hW16]; simp; omega) hN
       rw [this,hW16]
      have hVl:=row_len hV16
      have hVt:(V.flatMap spC).take 32=V.flatMap spC:=List.take_of_length_le (by omega)
      have hVs:=row_sing V
      simp [mc86_l1,t1,t2,t4,t6,t30,t31,c2,c6,hcl,htk,r104,c4,lw4,hz,hzd,hVl,hVt,hVs,cellsOf_agg,narR,tupV]
theorem emp_not {s:Sp} {x:Int} (h:inn x s):empS s=false:=by
 unfold inn at h; unfold empS
 exact decide_eq_false (by omega)
theorem pass_sol {L W V:List Sp} {d N:Nat} (hN:N < W.length) (hd:d≤N) (h:passW L d W=some V) (x:Nat→Int):SolS N (gtS L) (gtS V) x ↔ SolS N (gtS L) (gtS W) x:=by
 obtain ⟨e,_⟩:=passW_fn h (by omega)
 rw [e]; exact passS_sol d hd
theorem pass_no {L W:List Sp} {N:Nat} (hN:N < W.length):∀ d,d≤N→passW L d W=none→∀ x,¬ SolS N (gtS L) (gtS W) x
 | 0,_,h=>by cases h
 | d + 1,hd,h=>by
  intro x hx
  simp only [passW] at h
  cases hp:passW L d W with
  | none=>exact pass_no hN d (by omega) hp x hx
  | some V =>
   rw [hp] at h
   simp only at h
   have hl:=(passW_fn hp (by omega)).2
   have h1:=(pass_sol hN (by omega) hp x).2 hx
   have h2:=(stepS_sol (N:=N) (L:=gtS L) (U:=gtS V) (d:=d) (by omega)).2 h1
   rw [← stepW_fn (by omega)] at h2
   have h3:=emp_not (h2.1 d (by omega))
   have h4:=emp_not (h2.1 (d + 1) (by omega))
   have hb:badW (stepW L V d) d=false:=by unfold badW; rw [h3,h4]; rfl
   rw [hb] at h
   simp at h
theorem nar_none {L:List Sp} {N:Nat}:∀ {f:Nat} {W:List Sp},N < W.length→narW L N f W=none→∀ x,¬ SolS N (gtS L) (gtS W) x
 | 0,W,_,h=>by cases h
 | f + 1,W,hN,h=>by
  simp only [narW] at h
  cases hp:passW L N W with
  | none=>exact pass_no hN N (Nat.le_refl _) hp
  | some V =>
   rw [hp] at h
   simp only at h
   have hl:=(passW_fn hp hN).2
   split at h
   ·cases h
   ·intro x hx
    exact nar_none (by omega) h x ((pass_sol hN (Nat.le_refl _) hp x).2 hx)
structure FixW (L:List Sp) (N:Nat) (W V:List Sp):Prop where
 fix:passW L N V=some V
 len:V.length=W.length
 sol:∀ x,SolS N (gtS L) (gtS V) x ↔ SolS N (gtS L) (gtS W) x
 sub:∀ k,subS (gtS V k) (gtS W k)
theorem nar_fix {L:List Sp} {N:Nat} (hL:LosW L) (h0:0 < N):∀ {f i:Nat} {W V:List Sp},N < W.length→FarW L N i W→i≤N→N < f + i→narW L N f W=some V→FixW L N W V
 | 0,i,W,V,_,_,h1,h2,_=>by omega
 | f + 1,i,W,V,hN,hF,hi,hf,h=>by
  simp only [narW] at h
  cases hp:passW L N W with
  | none=>rw [hp] at h; cases h
  | some V' =>
   rw [hp] at h
   simp only at h
   obtain ⟨e,hl⟩:=passW_fn hp hN
   have hs:=pass_sol hN (Nat.le_refl _) hp
   have hb:∀ k,subS (gtS V' k) (gtS W k):=fun k=>by
    rw [e]
    have:=passS_sub (gtS L) (gtS W) k 0 N
    rwa [Nat.zero_add] at this
   by_cases hVW:V'=W
   ·rw [if_pos hVW] at h
    cases h
    exact ⟨by rw [hVW] at hp ⊢; exact hp,hl,hs,hb⟩
   ·rw [if_neg hVW] at h
    have hiN:i < N:=by
     rcases Nat.lt_or_ge i N with h | h
     ·exact h
     ·exact absurd (far_end hL hN h0 hF h hp) hVW
    have r:=nar_fix hL h0 (f:=f) (i:=i + 1) (by omega) (far_next hL hN hF hp) (by omega) (by omega) h
    exact ⟨r.fix,by rw [r.len,hl],fun x=>(r.sol x).trans (hs x),fun k=>(r.sub k).trans (hb k)⟩
theorem fix_at {L V:List Sp} {N:Nat} (hN:N < V.length) (h:passW L N V=some V):∀ k,passS (gtS L) (gtS V) N k=gtS V k:=fun k=>by
 rw [← (passW_fn h hN).1]
theorem fix_ne {L V:List Sp} {N:Nat} (hN:N < V.length) (h:passW L N V=some V):∀ d,d < N→badW V d=false:=by
 intro d hd
 cases hp:passW L (d + 1) V with
 | none=>rw [passW_none hp N hd] at h; cases h
 | some V' =>
  obtain ⟨e,hl⟩:=passW_fn hp (by omega)
  have hV:V'=V:=list_ext hl fun k=>by
   rw [e]
   have h1:=passS_sub (gtS L) (gtS V) k 0 (d + 1)
   rw [Nat.zero_add] at h1
   have h2:=passS_sub (gtS L) (gtS V) k (d + 1) (N - (d + 1))
   rw [show d + 1 + (N - (d + 1))=N by omega,fix_at hN h] at h2
   exact subS.eq h1 h2
  simp only [passW] at hp
  cases hq:passW L d V with
  | none=>rw [hq] at hp; cases hp
  | some U =>
   rw [hq] at hp
   simp only at hp
   split at hp
   ·cases hp
   ·rename_i hb
    have:stepW L U d=V:=by rw [← hV]; exact Option.some.inj hp
    rw [this] at hb
    simpa using hb
structure GoodW (L:List Sp) (N:Nat) (V:List Sp):Prop where
 len:V.length=16
 tight:Tight N (gtS L) (gtS V)
 ne:∀ k,k≤N→(gtS V k).1≤(gtS V k).2
theorem FixW.good {L W V:List Sp} {N:Nat} (h:FixW L N W V) (hW:W.length=16) (hN:N < 16) (h0:0 < N):GoodW L N V:=by
 have hl:V.length=16:=by rw [h.len,hW]
 have hb:=fix_ne (by omega) h.fix
 refine ⟨hl,fix_tight fun k _=>fix_at (by omega) h.fix k,fun k hk=>?_⟩
 by_cases e:k < N
 ·have:=hb k e
  simp only [badW,empS,Bool.or_eq_false_iff,decide_eq_false_iff_not] at this
  omega
 ·have:=hb (N - 1) (by omega)
  rw [badW,show N - 1 + 1=N by omega] at this
  simp only [empS,Bool.or_eq_false_iff,decide_eq_false_iff_not] at this
  have e2:k=N:=by omega
  rw [e2]; omega
theorem GoodW.low {L V:List Sp} {N:Nat} (h:GoodW L N V) (hL:LosW L):∀ j,j≤N→(gtS V N).1≤(gtS V (N - j)).1∧(gtS V N).2≤(gtS V (N - j)).2
 | 0,_=>⟨Int.le_refl _,Int.le_refl _⟩
 | j + 1,hj=>by
  have ih:=h.low hL j (by omega)
  have ht:=h.tight (N - (j + 1)) (by omega)
  rw [show N - (j + 1) + 1=N - j by omega] at ht
  have hl:=hL (N - (j + 1))
  omega
theorem GoodW.ends {L V:List Sp} {N:Nat} (h:GoodW L N V) (hL:LosW L) {k:Nat} (hk:k≤N):(gtS V N).1≤(gtS V k).1∧(gtS V N).2≤(gtS V k).2:=by
 have:=h.low hL (N - k) (by omega)
 rwa [show N - (N - k)=k by omega] at this
theorem fold_hi:∀ (l:List CRead) (s:Sp),(foldR l s).2≤s.2
 | [],s=>Int.le_refl _
 | p::l,s=>by
  have h:=fold_hi l (bothS s (readS p))
  have:(bothS s (readS p)).2≤s.2:=by simp only [bothS]; omega
  exact Int.le_trans h this
structure WeiOk (L V W:List Sp):Prop where
 good:GoodW (losL L) (L.length + 1) V
 sol:∀ x,SolS (L.length + 1) (gtS (losL L)) (gtS V) x ↔ SolS (L.length + 1) (gtS (losL L)) (gtS W) x
 lo:1≤(gtS V (L.length + 1)).1
 hi:∀ k,k≤L.length + 1→(gtS V k).2≤1000000
theorem WeiOk.exact {L V W:List Sp} (h:WeiOk L V W):ExactS (L.length + 1) (gtS (losL L)) (gtS W) (gtS V):=⟨h.good.tight,h.good.ne,h.sol⟩
def iniW (b:CBox) (L:List Sp) (l:List CRead):List Sp:=mkW (iniF b L.length l (L.length + 1))
theorem weigh_ok {b:CBox} {L V:List Sp} {l:List CRead} (hb:boxB b=true) (hL:LosW (losL L)) (hlen:L.length≤14) (h:weighF b L l=some V):WeiOk L V (iniW b L l):=by
 have hW:(iniW b L l).length=16:=by simp [iniW]
 have hN:(losL L).length=L.length + 1:=by simp
 unfold weighF at h
 rw [hN] at h
 have hf:=nar_fix (f:=40) (i:=0) hL (by omega) (W:=iniW b L l) (by omega) (.inl rfl) (by omega) (by omega) h
 have hbx:=hb
 simp only [boxB,spanI,Bool.and_eq_true,decide_eq_true_eq] at hbx
 refine ⟨hf.good hW (by omega) (by omega),hf.sol,?_,fun k hk=>?_⟩
 ·have:=(hf.sub (L.length + 1)).1
  unfold iniW at this
  rw [mkW_at _ (by omega)] at this
  unfold iniF iniG at this
  rw [if_neg (by omega),if_pos rfl] at this
  simp only at this; omega
 ·have:=(hf.sub k).2
  unfold iniW at this
  rw [mkW_at _ (by omega)] at this
  have h2:(iniF b L.length l (L.length + 1) k).2≤(iniG b L.length k).2:=by
   unfold iniF; split
   ·exact fold_hi _ _
   ·exact Int.le_refl _
  have h3:(iniG b L.length k).2≤1000000:=by
   unfold iniG
   repeat' split
   all_goals simp only; omega
  omega
def dryW (L V:List Sp):List Sp:=V.set (L.length + 1) ((gtS V (L.length + 1)).2,(gtS V (L.length + 1)).2)
def dryF (L V:List Sp):Option (List Sp):=narW (losL L) (losL L).length 40 (dryW L V)
theorem dryW_fn {L V:List Sp} (h:L.length + 1 < V.length):gtS (dryW L V)=dryS (L.length + 1) (gtS V):=by
 funext k
 unfold dryW dryS updS
 rw [gtS_set _ h]
structure DryOk (L V D:List Sp):Prop where
 good:GoodW (losL L) (L.length + 1) D
 sol:∀ x,SolS (L.length + 1) (gtS (losL L)) (gtS D) x ↔ SolS (L.length + 1) (gtS (losL L)) (dryS (L.length + 1) (gtS V)) x
 lo:(gtS D (L.length + 1)).1=(gtS V (L.length + 1)).2
 hi:∀ k,k≤L.length + 1→(gtS D k).2≤1000000
theorem DryOk.exact {L V D:List Sp} (h:DryOk L V D):ExactS (L.length + 1) (gtS (losL L)) (dryS (L.length + 1) (gtS V)) (gtS D):=⟨h.good.tight,h.good.ne,h.sol⟩
theorem los_le {L:List Sp} (hL:LosW L) (N:Nat):∀ i,i < N→(gtS L i).1≤(gtS L i).2:=fun i _=>(hL i).2.1
theorem dry_ok {L V W:List Sp} (hL:LosW (losL L)) (hlen:L.length≤14) (h:WeiOk L V W):∃ D,dryF L V=some D∧DryOk L V D:=by
 have hV:=h.good.len
 have hN:(losL L).length=L.length + 1:=by simp
 have hW:(dryW L V).length=16:=by simp [dryW,hV]
 have efn:=dryW_fn (L:=L) (V:=V) (by omega)
 have hne:=h.good.ne (L.length + 1) (Nat.le_refl _)
 cases hd:dryF L V with
 | none =>
  exfalso
  unfold dryF at hd
  rw [hN] at hd
  obtain ⟨c1,c2⟩:=chainS_sol h.good.tight (los_le hL _) h.good.ne (Nat.le_refl (L.length + 1)) (v:=(gtS V (L.length + 1)).2) ⟨hne,Int.le_refl _⟩
  refine nar_none (by omega) hd (chainS (gtS (losL L)) (gtS V) (L.length + 1) (gtS V (L.length + 1)).2) ?_
  rw [efn]
  refine ⟨fun i hi=>?_,c1.2⟩
  unfold dryS updS
  by_cases e:i=L.length + 1
  ·rw [if_pos e,e,c2]; exact ⟨Int.le_refl _,Int.le_refl _⟩
  ·rw [if_neg e]; exact c1.1 i hi
 | some D =>
  refine ⟨D,rfl,?_⟩
  unfold dryF at hd
  rw [hN] at hd
  have hf:=nar_fix (f:=40) (i:=0) hL (by omega) (W:=dryW L V) (by omega) (.inl rfl) (by omega) (by omega) hd
  have hg:=hf.good hW (by omega) (by omega)
  refine ⟨hg,by rw [← efn]; exact hf.sol,?_,fun k hk=>?_⟩
  ·have h1:=hf.sub (L.length + 1)
   rw [efn] at h1
   unfold dryS updS subS at h1
   rw [if_pos rfl] at h1
   have h2:=hg.ne (L.length + 1) (Nat.le_refl _)
   simp only at h1
   omega
  ·have h1:=hf.sub k
   rw [efn] at h1
   unfold dryS updS subS at h1
   have h2:=h.hi k hk
   split at h1
   ·rename_i e
    rw [e] at h2 ⊢
    simp only at h1
    rw [e] at h1
    omega
   ·omega
def moL (L V D:List Sp):List Sp:=(List.range (L.length + 1)).map fun k=>(moI (gtS D k).1 (gtS V (L.length + 1)).2,moI (gtS V k).2 (gtS V (L.length + 1)).1)
@[simp] theorem moL_length (L V D:List Sp):(moL L V D).length=L.length + 1:=by simp [moL]
theorem moL_at {L V D:List Sp} {k:Nat} (h:k < L.length + 1):(moL L V D)[k]?=some (moI (gtS D k).1 (gtS V (L.length + 1)).2,moI (gtS V k).2 (gtS V (L.length + 1)).1):=by
 unfold moL
 rw [List.getElem?_map,List.getElem?_range h]; rfl
theorem mo_fits {L V W D:List Sp} (hL:LosW (losL L)) (h:WeiOk L V W) (hd:DryOk L V D) {k:Nat} (hk:k≤L.length + 1):(1≤(gtS V (L.length + 1)).2∧(gtS V (L.length + 1)).2≤(gtS D k).1∧(gtS D k).1≤1000000)∧(1≤(gtS V (L.length + 1)).1∧(gtS V (L.length + 1)).1≤(gtS V k).2∧(gtS V k).2≤1000000):=by
 have h1:=h.good.ne (L.length + 1) (Nat.le_refl _)
 have h2:=h.lo
 have h3:=h.good.ends hL hk
 have h4:=hd.good.ends hL hk
 have h5:=hd.lo
 have h6:=hd.good.ne k hk
 have h7:=hd.hi k hk
 have h8:=h.hi k hk
 omega
theorem row_one {W:List Sp} (h:W.length=16) {i:Nat} (hi:i < 16):(W.flatMap spC)[i * 2]?=some (.int .i64 (gtS W i).1)∧(W.flatMap spC)[i * 2 + 1]?=some (.int .i64 (gtS W i).2):=by
 obtain ⟨h1,_⟩:=row_ld h hi
 have e0:((W.flatMap spC).drop (i * 2)).take 2=[.int .i64 (gtS W i).1,.int .i64 (gtS W i).2]:=h1
 constructor
 ·have:=congrArg (fun l=>l[0]?) e0
  simp only [List.getElem?_take,List.getElem?_drop] at this
  simpa using this
 ·have:=congrArg (fun l=>l[1]?) e0
  simp only [List.getElem?_take,List.getElem?_drop] at this
  simpa using this
theorem row_drop {W:List Sp} (h:W.length=16) {i:Nat} (hi:i < 16):(W.flatMap spC).drop (i * 2 + 1)=.int .i64 (gtS W i).2::(W.flatMap spC).drop (i * 2 + 2):=by
 have hl:=row_len h
 have h1:=(row_one h hi).2
 have hlt:i * 2 + 1 < (W.flatMap spC).length:=by omega
 rw [List.drop_eq_getElem_cons hlt]
 rw [List.getElem?_eq_getElem hlt] at h1
 rw [Option.some.inj h1]
theorem row_st1 {W:List Sp} (h:W.length=16) {i:Nat} (hi:i < 16) (z:Int):(W.flatMap spC).take (i * 2)++.int .i64 z::(W.flatMap spC).drop (i * 2 + 1)=(W.set i (z,(gtS W i).2)).flatMap spC:=by
 rw [row_drop h hi]
 exact row_st h hi (z,(gtS W i).2)
theorem same_rowV (W:List Sp):sameVal 5 (.agg ⟨W.flatMap spC⟩) (.agg ⟨W.flatMap spC⟩)=true:=same_agg _ (by
 intro v hv
 obtain ⟨s,_,hs⟩:=List.mem_flatMap.1 hv
 simp only [spC,List.mem_cons,List.not_mem_nil,or_false] at hs
 rcases hs with rfl | rfl <;> exact sameN_int _ _ _)
theorem same_proc (b:CBox) (p:Option Addr) (n c:Nat):sameVal 5 (.agg ⟨procC b (.slice p n c)⟩) (.agg ⟨procC b (.slice p n c)⟩)=true:=same_agg _ (by
 intro v hv
 simp only [procC,List.mem_cons,List.not_mem_nil,or_false] at hv
 rcases hv with rfl | rfl | rfl | rfl | rfl
 ·exact sameN_int _ _ _
 ·exact sameN_int _ _ _
 ·exact sameN_int _ _ _
 ·exact sameN_int _ _ _
 ·exact sameN_slice _ _ _ _)
def S88:PSpec where
 R args w v:=∃ (b:CBox) (pv:Value) (L V D:List Sp),args=[.agg ⟨procC b pv⟩,.agg ⟨V.flatMap spC⟩]∧ProcV w pv L∧L.length≤14∧LosW (losL L)∧V.length=16∧BndW V∧dryF L V=some D∧w.lim≤w.next∧v=.agg ⟨D.flatMap spC⟩
 uniq:=by
  rintro _ _ _ _ ⟨⟨_,_,_,_⟩,pv,L,V,D,rfl,h1,_,_,h2,_,h3,_,rfl⟩ ⟨⟨_,_,_,_⟩,pv',L',V',D',h,k1,_,_,k2,_,k3,_,rfl⟩
  simp only [procC,List.cons.injEq,Value.agg.injEq,Array.mk.injEq,Value.int.injEq,true_and,and_true] at h
  obtain ⟨⟨rfl,rfl,rfl,rfl,rfl⟩,h4⟩:=h
  rw [row_inj h2 k2 h4,h1.rows.uniq (m:=2) spC_length spC_inj k1.rows,k3] at h3
  cases h3; rfl
 shut:=fun ⟨a1,a2,a3,a4,a5,h1,h2,h3,h4,h5,h6,h7,_,h8⟩=>⟨a1,a2,a3,a4,a5,h1,h2,h3,h4,h5,h6,h7,Nat.le_refl _,h8⟩
theorem dry_bnd {L V:List Sp} (h:BndW V) (hN:L.length + 1 < V.length):BndW (dryW L V):=fun k=>by
 unfold dryW
 rw [gtS_set _ hN]
 have h1:=h k; have h2:=h (L.length + 1)
 unfold bndS at *
 split
 ·simp only; omega
 ·exact h1
set_option maxHeartbeats 1000000 in
theorem run88 {ov:Ov} (ho:∀ args w,ov 88 args w=none) (h64:HasP ov 64 S64.F) (h104:HasP ov 104 S104.F) (b:CBox) (pv:Value) (L V D:List Sp) (hlen:L.length≤14) (hL:LosW (losL L)) (hV:V.length=16) (hVb:BndW V) (hD:dryF L V=some D) (w:AW) (hl:w.lim=w.next) (hpv:ProcV w pv L):∃ x w',(run Tryd.prog ov 2).call 88 [.agg ⟨procC b pv⟩,.agg ⟨V.flatMap spC⟩] w .none=.ok (.ret x) w' .none∧x=.agg ⟨D.flatMap spC⟩:=by
 refine call_wp text88 (by simp) (ho _ _) ?_
 obtain ⟨B,hpe,_,_⟩:=id hpv
 have r64:=fun w=>S64.call1 (P:=Tryd.prog) h64 (w:=w) ⟨b,some ⟨B,0,none⟩,L.length,L.length,rfl,by omega,rfl⟩
 have sp:=same_proc b (some ⟨B,0,none⟩) L.length L.length
 rw [← hpe] at r64 sp
 have hian:∀ w1,indexAddrA Tryd.prog w1 104 (.pointer (some ⟨w.next + 1,0,none⟩)) (.int .i64 ((L.length:Int) + 1))=.val (.pointer (some ((⟨w.next + 1,0,none⟩:Addr).add ((L.length + 1) * 2)))) w1:=fun w1=>by
  have:=ia104 w1 ⟨w.next + 1,0,none⟩ (L.length + 1) (by omega)
  rw [show ((L.length + 1:Nat):Int)=(L.length:Int) + 1 by omega] at this
  exact this
 have hcl:=row_len hV
 have h1:=(row_one hV (i:=L.length + 1) (by omega)).2
 have hs:=row_st1 hV (i:=L.length + 1) (by omega) (gtS V (L.length + 1)).2
 change _=(dryW L V).flatMap spC at hs
 have hW16:(dryW L V).length=16:=by simp [dryW,hV]
 have hcl':=row_len hW16
 have htk':((dryW L V).flatMap spC).take 32=(dryW L V).flatMap spC:=List.take_of_length_le (by omega)
 have hD16:D.length=16:=by
  have:=narW_length (by rw [hW16]; simp; omega) hD
  rw [this,hW16]
 have hDl:=row_len hD16
 have hDt:(D.flatMap spC).take 32=D.flatMap spC:=List.take_of_length_le (by omega)
 have hDs:=row_sing D
 obtain ⟨w1,hw1e⟩:∃ w1:AW,w1=⟨(((w.heap.put w.next (some (.cells (procC b pv) 97 false))).put (w.next + 1) (some (.cells (V.flatMap spC) 104 false))).put (w.next + 1 + 1) (some (.cells zerC 104 false))).put (w.next + 1) (some (.cells ((dryW L V).flatMap spC) 104 false)),w.next + 1 + 1 + 1,w.lim⟩:=⟨_,rfl⟩
 have u1:Up w w1:=by rw [hw1e]; exact ((((Up.refl w).add _).put (Nat.le_succ _) (Nat.le_succ _)).put (by show w.next≤w.next + 1 + 1; omega) (Nat.le_succ _)).put (by show w.next≤w.next + 1; omega) (Nat.le_refl _)
 have r104:=S104.call1 (P:=Tryd.prog) h104 (w:=w1) ⟨b,pv,L,dryW L V,rfl,hpv.up u1,hlen,hL,hW16,dry_bnd hVb (by omega),by rw [hw1e]; show w.lim≤w.next + 1 + 1 + 1; omega,rfl⟩
 change _=RO.ok (Out.ret (narR (dryF L V))) _ _ at r104
 rw [hD,hw1e] at r104
 simp only [narR,procC] at r104
 simp only [procC] at r64 sp ⊢
 have lw1:w.lim≤w.next + 1:=by omega
 have lw2:w.lim≤w.next + 1 + 1:=by omega
 have hz:zerC.length=32:=rfl
 have hzd:zerC.drop 32=[]:=rfl
 have q1:(L.length + 1) * 2 + 1≤32:=by omega
 generalize hcs:V.flatMap spC=cs at hcl h1 hs r104
 generalize hcs1:(dryW L V).flatMap spC=cs1 at hs hcl' htk' r104
 generalize hcs2:D.flatMap spC=cs2 at hDl hDt hDs r104
 simp [mc88,cellsOf_agg,ez,r64,sp,hian,hcl,h1,lw1,lw2,q1,hs,hcl',htk',r104,hDl,hDt,hDs,hz,hzd,tupV]
theorem partL_zero' (L:List Sp):partL L L.length 0=List.replicate L.length (0,0):=by simp [partL]
set_option maxHeartbeats 2000000 in
theorem call66 {ov:Ov} (m:Nat) (ho:∀ args w,ov 66 args w=none) (h64:HasP ov 64 S64.F) (h84:HasP ov 84 S84.F) (h88:HasP ov 88 S88.F) (b:CBox) (pv:Value) (L V W D:List Sp) (hlen:L.length≤14) (hL:LosW (losL L)) (hVb:BndW V) (hw:WeiOk L V W) (hD:dryF L V=some D) (hdo:DryOk L V D) (we:AW) (hlim:we.lim≤we.next) (hpv:ProcV we pv L) :
  ∃ v w',(run Tryd.prog ov (m + 2)).call 66 [.agg ⟨procC b pv⟩,.agg ⟨V.flatMap spC⟩] we .none=.ok (.ret v) w' .none∧ProcV w' v (moL L V D)∧Up we w':=by
 refine call_wp text66 (by simp) (ho _ _) ?_
 have hV:=hw.good.len
 have hD16:=hdo.good.len
 obtain ⟨B,hpe,_,_⟩:=id hpv
 have r64:=fun w=>S64.call (P:=Tryd.prog) h64 (m:=m) (w:=w) ⟨b,some ⟨B,0,none⟩,L.length,L.length,rfl,by omega,rfl⟩
 have sp:=same_proc b (some ⟨B,0,none⟩) L.length L.length
 rw [← hpe] at r64 sp
 have hian:∀ w1,indexAddrA Tryd.prog w1 104 (.pointer (some ⟨we.next + 1,0,none⟩)) (.int .i64 ((L.length:Int) + 1))=.val (.pointer (some ((⟨we.next + 1,0,none⟩:Addr).add ((L.length + 1) * 2)))) w1:=fun w1=>by
  have:=ia104 w1 ⟨we.next + 1,0,none⟩ (L.length + 1) (by omega)
  rw [show ((L.length + 1:Nat):Int)=(L.length:Int) + 1 by omega] at this
  exact this
 have hcl:=row_len hV
 have htk:(V.flatMap spC).take 32=V.flatMap spC:=List.take_of_length_le (by omega)
 have svr:=same_rowV V
 obtain ⟨tk,q⟩:=row_ld hV (i:=L.length + 1) (by omega)
 have hDl:=row_len hD16
 have hDs:=row_sing D
 have hml:(moL L V D).length=L.length + 1:=by simp
 obtain ⟨w1,hw1e⟩:∃ w1:AW,w1=⟨(((we.heap.put we.next (some (.cells (procC b pv) 97 false))).put (we.next + 1) (some (.cells (V.flatMap spC) 104 false))).put (we.next + 1 + 1) (some (.cells [.int .i64 0,.int .i64 0] 25 false))).put (we.next + 1 + 1 + 1) (some (.cells zerC 104 false)),we.next + 1 + 1 + 1 + 1,we.lim⟩:=⟨_,rfl⟩
 have u1:Up we w1:=by rw [hw1e]; exact ((((Up.refl we).add _).put (Nat.le_succ _) (Nat.le_succ _)).put (by show we.next≤we.next + 1 + 1; omega) (Nat.le_succ _)).put (by show we.next≤we.next + 1 + 1 + 1; omega) (Nat.le_succ _)
 have r88:=S88.call (P:=Tryd.prog) h88 (m:=m) (w:=w1) ⟨b,pv,L,V,D,rfl,hpv.up u1,hlen,hL,hV,hVb,hD,by rw [hw1e]; show we.lim≤we.next + 1 + 1 + 1 + 1; omega,rfl⟩
 rw [hw1e] at r88
 have lw2:we.lim≤we.next + 1 + 1:=by omega
 have lw3:we.lim≤we.next + 1 + 1 + 1:=by omega
 have hz:zerC.length=32:=rfl
 have hzd:zerC.drop 32=[]:=rfl
 have hmk:∀ w,makeSliceA Tryd.prog w 43 (.int .i64 ((L.length:Int) + 1)) (.int .i64 ((L.length:Int) + 1))=.val (.slice (some ⟨w.next,0,none⟩) (L.length + 1) (L.length + 1)) ⟨w.heap.put w.next (some (.cells ((partL (moL L V D) (moL L V D).length 0).flatMap spC) 25 false)),w.next + 1,w.lim⟩:=fun w=>by
  rw [partL_zero',hml]
  have:=mk43 (L.length + 1) (by omega) w
  rw [show ((L.length + 1:Nat):Int)=(L.length:Int) + 1 by omega] at this
  exact this
 simp only [procC] at r64 sp r88 ⊢
 generalize hcs:V.flatMap spC=cs at hcl htk svr tk r88
 generalize hcs2:D.flatMap spC=cs2 at hDl hDs r88
 simp [mc66,cellsOf_agg,ez,r64,sp,svr,hian,hcl,htk,tk,q,lw2,lw3,r88,hDl,hDs,hz,hzd,hmk]
 refine wp_seqX (wp_blockX (wp_rounds (fun i t w=>Up we w∧w.heap.get (we.next + 1)=some (.cells cs 104 false)∧w.heap.get (we.next + 1 + 1)=some (.cells [.int .i64 (gtS V (L.length + 1)).1,.int .i64 (gtS V (L.length + 1)).2] 25 false)∧w.heap.get (we.next + 1 + 1 + 1)=some (.cells cs2 104 false)∧w.heap.get (we.next + 1 + 1 + 1 + 1)=some (.cells ((partL (moL L V D) (moL L V D).length i).flatMap spC) 25 false)∧we.next + 5≤w.next∧tget t 3=.pointer (some ⟨we.next + 1,0,none⟩)∧tget t 5=.pointer (some ⟨we.next + 1 + 1,0,none⟩)∧tget t 6=.pointer (some ⟨we.next + 1 + 1 + 1,0,none⟩)∧tget t 7=.slice (some ⟨we.next + 1 + 1 + 1 + 1,0,none⟩) (L.length + 1) (L.length + 1)∧tget t 20=.int .i64 ((L.length:Int) + 1)∧tget t 21=.int .i64 (i:Nat)∧i≤L.length + 1) 20 (by decide) ?_ ?_))
 ·refine ⟨?_,?_,?_,?_,?_,?_,?_,?_,?_,?_,?_,?_,Nat.zero_le _⟩
  ·refine ⟨fun x hx=>?_,by show we.next≤we.next + 1 + 1 + 1 + 1 + 1; omega,rfl⟩
   show (((((((we.heap.put _ _).put _ _).put _ _).put _ _).put _ _).put _ _).put _ _).get x=_
   rw [get_put,if_neg (by omega),get_put,if_neg (by omega),get_put,if_neg (by omega),get_put,if_neg (by omega),get_put,if_neg (by omega),get_put,if_neg (by omega),get_put,if_neg (by omega)]
  ·simp
  ·simp
  ·simp
  ·simp
  ·show we.next + 5≤we.next + 1 + 1 + 1 + 1 + 1; omega
  all_goals simp
 ·rintro i t w ⟨hup,g3,g5,g6,g7,hnx,t3,t5,t6,t7,t20,t21,hi⟩
  have hlm:w.lim=we.lim:=hup.lim
  by_cases hlt:i < L.length + 1
  ·have hlt':(i:Int) < (L.length:Int) + 1:=by omega
   obtain ⟨f1,f2⟩:=mo_fits hL hw hdo (k:=i) (by omega)
   have r84a:=fun w=>S61.call (P:=Tryd.prog) h84 (m:=m) (w:=w) ⟨(gtS D i).1,(gtS V (L.length + 1)).2,rfl,f1,rfl⟩
   have r84b:=fun w=>S61.call (P:=Tryd.prog) h84 (m:=m) (w:=w) ⟨(gtS V i).2,(gtS V (L.length + 1)).1,rfl,f2,rfl⟩
   have hia3:=fun w1=>ia104 w1 ⟨we.next + 1,0,none⟩ i (by omega)
   have hia6:=fun w1=>ia104 w1 ⟨we.next + 1 + 1 + 1,0,none⟩ i (by omega)
   have hia7:=fun w1=>ia43 w1 ⟨we.next + 1 + 1 + 1 + 1,0,none⟩ (L.length + 1) (L.length + 1) .i64 i hlt
   have o3:=(row_one hV (i:=i) (by omega)).2
   have o6:=(row_one hD16 (i:=i) (by omega)).1
   rw [hcs] at o3
   rw [hcs2] at o6
   have hwi:IntKind.wrap .i64 ((i:Int) + 1)=(i:Int) + 1:=wrap64_in (by omega) (by omega)
   have hmx:=moL_at (L:=L) (V:=V) (D:=D) (k:=i) (by omega)
   have hps:=part_set hmx
   have hfs:=flat_set spC_length (partL (moL L V D) (moL L V D).length i) i (moI (gtS D i).1 (gtS V (L.length + 1)).2,moI (gtS V i).2 (gtS V (L.length + 1)).1) (by rw [part_length (by omega)]; omega)
   rw [hps] at hfs
   have hfl:((partL (moL L V D) (moL L V D).length i).flatMap spC).length=(L.length + 1) * 2:=by rw [flat_length spC_length,part_length (by omega),hml]
   generalize (partL (moL L V D) (moL L V D).length i).flatMap spC=cc at g7 hfs hfl
   simp only [spC,List.cons_append,List.nil_append] at hfs
   have lw:w.lim≤we.next + 1 + 1 + 1 + 1:=by omega
   have q3:i * 2 + 2≤(L.length + 1) * 2:=by omega
   simp [mc66_l0,t3,t5,t6,t7,t20,t21,hlt',hia3,hia6,hia7,g3,g5,g6,g7,o3,o6,r84a,r84b,hfl,q3,lw,hfs,hwi]
   exact ⟨by omega,hup.put (by omega) (Nat.le_refl _),hnx,by omega⟩
  ·have hil:i=L.length + 1:=by omega
   subst hil
   rw [← hml,part_full] at g7
   have nj:notJunk (.slice (some ⟨we.next + 1 + 1 + 1 + 1,0,none⟩) (L.length + 1) (L.length + 1))=some (.slice (some ⟨we.next + 1 + 1 + 1 + 1,0,none⟩) (L.length + 1) (L.length + 1)):=rfl
   simp [mc66_l0,t7,t20,t21,nj,tupV]
   exact ⟨⟨_,by rw [hml],g7,by omega⟩,hup⟩
end Go.Proofs.YtnmamelclmfplaaDoor.walk
