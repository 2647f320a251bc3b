package keys_test

import (
	"crypto/sha256"
	"encoding/hex"
	"fmt"
	"slices"
	"strings"
	"testing"

	"marlinspike/api"
	"marlinspike/keys"
	"marlinspike/srs"
)

// What follows was worked out apart from the program, by the document's words: by
// numbers of any length, from X on, point by point.

// The generators' coordinates, by 16; of G2 those ahead of 1 and of u.
const (
	gen1X  = "8848defe740a67c8fc6225bf87ff5485951e2caa9d41bb188282c8bd37cb5cd5481512ffcd394eeab9b16eb21be9ef"
	gen1Y  = "1914a69c5102eff1f674f5d30afeec4bd7fb348ca3e52d96d182ad44fb82305c2fe3d3634a9591afd82de55559c8ea6"
	gen2XA = "6f72205595a839df693176b247c2fa251f7e02a29061e50540dc9e1c2bf1957bf1bab2288c257c2cb36b58f2418bc9"
	gen2XB = "138c24b2b4e17888beed0a9802aac837cdea39890effe00072f754ecb0152dd6cb524f281298966dbaeca23d3e462b8"
	gen2YA = "16235fdea6c3faf2a83d3730f6ab2c033ef6c2739002946f7dc48e4688bca1af1c9b417d58220817e0dc644b5e7d916"
	gen2YB = "707ac6cc7d192827fc54eb83267f3bed8511bd3c74f63a1ea75eabb66476769c8786f2af2a75166f33142379b4963c"
)

// Two great scalars.
const (
	great1 = "123456789abcdef0fedcba98765432100112233445566778899aabbccddeeff"
	great2 = "fedcba9876543210123456789abcdefffeeddccbbaa99887766554433221100"
)

// The key of x x = y by the setup of 2 and 3, of the degree 12.
const textOfSquare = `
	0000000400000002000000020002000c
	41252b781171f507db36291b433a1f911a46543890a20ca9712e11f66a5d216e63d817bd8d96cef715abc604dcf6ec2e
	417c2e424cbdbf1ee9b46e77501f7a42a33065ec23b70eaff560a3764ac1305d1de691498793026bb60e88cfe266bf9f0093660a719c197fb32dde0327ead3a456bfafde84471ed4cd9d719666b6b48b6fa52990b62f905cb7d8d5aa28b1d746
	408848defe740a67c8fc6225bf87ff5485951e2caa9d41bb188282c8bd37cb5cd5481512ffcd394eeab9b16eb21be9ef
	408848defe740a67c8fc6225bf87ff5485951e2caa9d41bb188282c8bd37cb5cd5481512ffcd394eeab9b16eb21be9ef
	408848defe740a67c8fc6225bf87ff5485951e2caa9d41bb188282c8bd37cb5cd5481512ffcd394eeab9b16eb21be9ef
	00fba0b89e7a713de2ca41090ee6e9c837d189690b9244c661614bd0fc6007b4e8fcbaee880b5028f4839f1206d40dea
	00fba0b89e7a713de2ca41090ee6e9c837d189690b9244c661614bd0fc6007b4e8fcbaee880b5028f4839f1206d40dea
	40ed453141939e91056edb5a4b5452ed7e61f7f3dd2a4b7ee90e97c9a2301955880661656781dc90857aed6d6a416390
	005069991cd13f9883067e54acae9e0dbf76e29756370b6b7db61ef82e9c491751bb6c979d47ef1172da5ce90f5e166e
	005069991cd13f9883067e54acae9e0dbf76e29756370b6b7db61ef82e9c491751bb6c979d47ef1172da5ce90f5e166e
	403d81ba2b29e9b6a94336ec10cac53a7e0f95d6f19a41073cc1cbb258e1970297a5746c5c99b089a390231f3294b9b2
`

// The key of x x x + x + 5 = y by the setup of both great scalars, of the degree 25.
const textOfCube = `
	00000008000000020000000400020019
	005d868de99008ea45b505ea92f5f06784cd764647c331d51bbea54d76b1f1bdf9966e74143eb29f9bf0dd6fdcab7b78
	40c00ff1c0530ee4539e64e473b627dde8c542031b09313921c28630a4b6345c699a1d5a5756a2a383080d8bd1449d64005d4ad6eeba9cbc626dd874a6f50694bcdc8c3ddc2bcf2121359bf1312326f2607da7f8f52ad80710fb3f0202ecd4fa
	0067c6cd0d25328ce37f5f35c8c49001871cb93403bf3929cadc9b2a53a873f6889765860cf06784220fd1985043d864
	014e93fc555993284df25a582c42f475851349e1b28aab536cc7de84f0bf8f038141a127d597203dc5bb6f3a683a456e
	0067c6cd0d25328ce37f5f35c8c49001871cb93403bf3929cadc9b2a53a873f6889765860cf06784220fd1985043d864
	00b24f77acb465b6e3a900f781b7e2af89c4ac20e0fa308951a4329e955fcb58ba5fcd9849e208687a3d624569f8a951
	40ec58bf5b04675e040958c0d5f67efa48e959b8d36de6e908c36a29e5e48a2964500a06e7733cadfb04aec91433aae5
	00480cd4ccdbb32e683b0c286b13ecb6eab3c2027bfc2bfd8d35b508f46bc4c4e5d89b531b43beb66c54ed815073521c
	40f6119df47bff443e9ae51ae85fee76cd8c6c2f70ef8d5629cd108c57e39dcf1c1ba5b43bce9751d77fd62d2516859b
	0010834b6383f90e71f76e68b813403838afa3af7cff54bc31340f44d4a081596deef8b0df5b581fcbc4773e6c2036ac
	00c9c283a81865a4de4e34e01d74457bf2870963503b250ff427c6fbd39372205b60741822393be44ed4aba1071533e1
`

// apart is a key that was worked out: the circuit, even of a sketch (or, of no rows, x x = y,
// and of -1 ones x x x + x + 5 = y), both scalars of the setup, or none of a loose one, its
// degree, and of the key's bytes the sum by SHA-256.
type apart struct {
	sketch
	t, g string
	d    int
	sum  string
}

func allApart() []apart {
	return []apart{
		{sketch{}, "2", "3", 12, "fceb06d5fb8d7556c5ad273b97ef2d9906e256e7982f62fc0f0a31180aae74d3"},
		{sketch{}, "2", "3", 13, "8f0087cbbf1e18002bed2e708a50a61a5802502d91fe5193f3f025ebc12fd81a"},
		{sketch{}, "12ab655e9a2ca55660b44d1e5c37b00159aa76fed00000010a11800000000000", "12ab655e9a2ca55660b44d1e5c37b00159aa76fed00000010a11800000000000", 12, "ccc57530270532751c8725f547dfb4b01651f3a17b97643fdf0285b345a1fc15"},
		{sketch{}, "123456789abcdef0fedcba98765432100112233445566778899aabbccddeeff", "fedcba9876543210123456789abcdefffeeddccbbaa99887766554433221100", 77, "e40eb3ab5214704beabbe1ecb60f93c4c66e6a77e64a65081a87631ded28014f"},
		{sketch{}, "1", "5", 16384, "625bd55c93e58bb9bc9e5e779af03fc4f8e18d3ba5ab39ec1291dacdeea36091"},
		{sketch{}, "", "", 12, "0096441f4b2c6a2bb5f9f3f50206c84ff3a0cc208140d7a9243a22414dece691"},
		{sketch{rows: -1}, "fedcba9876543210123456789abcdefffeeddccbbaa99887766554433221100", "123456789abcdef0fedcba98765432100112233445566778899aabbccddeeff", 24, "07e81b22446d3f762a238294c556ebea5cb921ae436e46a16ec574f3d5599f33"},
		{sketch{rows: -1}, "1", "1", 300, "a82eb6e3bf157668606356f3ac5baf6fc167f89153bf52628ec9fd775cbf14cb"},
		{sketch{rows: -1}, "2", "12ab655e9a2ca55660b44d1e5c37b00159aa76fed00000010a117ffffffffffe", 25, "836d5e650c6a7ae515dafd9c6b2700ceae6eff36afb9243bde36167f2cd3743e"},
		{sketch{rows: -1}, "", "", 31, "21deb8a7d59b73ce0608db8dbdc4973fee76c5581ce7841eb53754ed0cfda6e3"},
		{sketch{1, 1, 1, 0, 0, 0}, "123456789abcdef0fedcba98765432100112233445566778899aabbccddeeff", "fedcba9876543210123456789abcdefffeeddccbbaa99887766554433221100", 12, "941c1193daa5b2c281572a26af99787de2d8e496c1017f9d17e5a901416309fd"},
		{sketch{1, 1, 1, 0, 0, 0}, "12ab655e9a2ca55660b44d1e5c37b00159aa76fed00000010a117fffffffffff", "7", 13, "4be6059a307b43efe58c8a3ac96fad0abba666cccb78bfb4e2b3515880af438e"},
		{sketch{1, 1, 1, 0, 0, 0}, "", "", 15, "0276a31b84f678d91f7870d3211e493cf764f6a21e10552c995ff1536811de55"},
		{sketch{1, 5, 5, 3, 2, 5}, "123456789abcdef0fedcba98765432100112233445566778899aabbccddeeff", "fedcba9876543210123456789abcdefffeeddccbbaa99887766554433221100", 48, "655ce1788f3d7cbfc68487271de46d64b21fb60c0ed4e42da073b2b79d4dc151"},
		{sketch{1, 5, 5, 3, 2, 5}, "12ab655e9a2ca55660b44d1e5c37b00159aa76fed00000010a117fffffffffff", "7", 49, "4b7adef93c47e039fa4498784e7950ac3b594e7ba4888ef9f996c2d1ab420773"},
		{sketch{1, 5, 5, 3, 2, 5}, "", "", 51, "6f8f4ea6f9c044b41051d276ffa08ab7e3a9990431b73296d29f58aef3f5073a"},
		{sketch{5, 1, 1, 5, 0, 2}, "123456789abcdef0fedcba98765432100112233445566778899aabbccddeeff", "fedcba9876543210123456789abcdefffeeddccbbaa99887766554433221100", 48, "ce4e8674dd56c3051f41a4a69fa1b442d5b6aa574b5d187a2ca4403c11495cd2"},
		{sketch{5, 1, 1, 5, 0, 2}, "12ab655e9a2ca55660b44d1e5c37b00159aa76fed00000010a117fffffffffff", "7", 49, "cf3f6e3241c29d0caf0b5a759cb92caf2d2ebf74f48a6345059ca613e3bec8d5"},
		{sketch{5, 1, 1, 5, 0, 2}, "", "", 51, "f03b56ff17f360e0e26729a91865c0d853379dbdbdfcfc41db401a358fc644ec"},
		{sketch{6, 5, 5, 15, 16, 15}, "123456789abcdef0fedcba98765432100112233445566778899aabbccddeeff", "fedcba9876543210123456789abcdefffeeddccbbaa99887766554433221100", 96, "e0afbde86005a9fa25c2d32e4ecbb7f7500b937d61c63c0b8f4c10d4373d344f"},
		{sketch{6, 5, 5, 15, 16, 15}, "12ab655e9a2ca55660b44d1e5c37b00159aa76fed00000010a117fffffffffff", "7", 97, "f283a6e666cddd3d2fb78154815081ab6761d52b76b90f7e9a25322de11fa5f0"},
		{sketch{6, 5, 5, 15, 16, 15}, "", "", 99, "91c8a7ad25d73b63f5d1ec9598660793eb0151b880b68560cb531a84e28ee1d6"},
		{sketch{8, 9, 7, 8, 9, 7}, "123456789abcdef0fedcba98765432100112233445566778899aabbccddeeff", "fedcba9876543210123456789abcdefffeeddccbbaa99887766554433221100", 96, "41c427a7008610737b477e7d6d08dabd54abc521b842cf8a39c3237987ac8f40"},
		{sketch{8, 9, 7, 8, 9, 7}, "12ab655e9a2ca55660b44d1e5c37b00159aa76fed00000010a117fffffffffff", "7", 97, "bac36835e4da41d897b2c9c88927309fc70ee04ebd76a36f9185c0f576da2d41"},
		{sketch{8, 9, 7, 8, 9, 7}, "", "", 99, "39ab8ebbdb36449de8ea0822d8f7e70ae36efa3ce646bbf73a8df6027787c70e"},
		{sketch{17, 12, 4, 17, 1, 15}, "123456789abcdef0fedcba98765432100112233445566778899aabbccddeeff", "fedcba9876543210123456789abcdefffeeddccbbaa99887766554433221100", 192, "dbdc74744c4593354671663f78c7a2f83837a663d59162e290e5ed2f2ac190ce"},
		{sketch{17, 12, 4, 17, 1, 15}, "12ab655e9a2ca55660b44d1e5c37b00159aa76fed00000010a117fffffffffff", "7", 193, "b5a1b66db1f118a986bf397e47aa8801548de4ce2852694ca960e6322d5a4f4c"},
		{sketch{17, 12, 4, 17, 1, 15}, "", "", 195, "25069574665f957e97875b39d52b762cd000c8d5da143dde0535ad6815fc8da1"},
		{sketch{60, 40, 3, 2, 1, 2}, "123456789abcdef0fedcba98765432100112233445566778899aabbccddeeff", "fedcba9876543210123456789abcdefffeeddccbbaa99887766554433221100", 128, "fe69b6e7c25469feab7a973b8b242ceba2bd932bd3dc192b7f15565a6e1151d8"},
		{sketch{60, 40, 3, 2, 1, 2}, "12ab655e9a2ca55660b44d1e5c37b00159aa76fed00000010a117fffffffffff", "7", 129, "60e5eb0a37a372cb197824b9a154eee23227142b688152e1e67342a3a7ee79ff"},
		{sketch{60, 40, 3, 2, 1, 2}, "", "", 131, "3bbd3c4e55a97dba3e1aec522817676cf9c43512ad026fc980d38a8f21739086"},
		{sketch{100, 90, 33, 200, 129, 250}, "123456789abcdef0fedcba98765432100112233445566778899aabbccddeeff", "fedcba9876543210123456789abcdefffeeddccbbaa99887766554433221100", 1536, "654abf7aff2638fccb8bd7133d93fa6b2422b63b0c8233c66f8ba3391887e10e"},
		{sketch{1024, 1024, 1, 1, 1, 2}, "123456789abcdef0fedcba98765432100112233445566778899aabbccddeeff", "fedcba9876543210123456789abcdefffeeddccbbaa99887766554433221100", 2048, "67ecf559854b517285fc7e54363b90361918c285b090f8f82bd3c9a2479206e3"},
		{sketch{3, 1024, 1000, 1000, 900, 1024}, "123456789abcdef0fedcba98765432100112233445566778899aabbccddeeff", "fedcba9876543210123456789abcdefffeeddccbbaa99887766554433221100", 6144, "e56def76ab64c8d36fec9cbbc1b57675721d28abe8483c55613135c091c4b786"},
		{sketch{1024, 700, 200, 2048, 1500, 2000}, "123456789abcdef0fedcba98765432100112233445566778899aabbccddeeff", "fedcba9876543210123456789abcdefffeeddccbbaa99887766554433221100", 12288, "d3d1853879d03f1dae5346e2c1fad0a39bc5d3a76e7573e000b722812126ad20"},
	}
}

// circuit is what a key is of.
func (x apart) circuit() api.Circuit {
	switch x.rows {
	case 0:
		return square()
	case -1:
		return cube()
	}
	return x.sketch.even()
}

// name tells what a key is of.
func (x apart) name() string {
	return fmt.Sprint(x.sketch, " by ", len(x.t), " and ", len(x.g), " digits, of the degree ", x.d)
}

// setup is that of its scalars.
func (x apart) setup(t *testing.T) *srs.SRS {
	t.Helper()
	if x.t == "" {
		return loose(x.d).setup()
	}
	return made(t, number(x.t), number(x.g), x.d)
}

// tale is it, by the chapters' words.
func (x apart) tale(t *testing.T) tale {
	t.Helper()
	s := padded(t, x.circuit())
	if x.t == "" {
		return taleBy(s, loose(x.d))
	}
	return taleOf(s, number(x.t), number(x.g), x.d)
}

// wantSum fails if bytes' sum by SHA-256 is not this.
func wantSum(t *testing.T, what string, b []byte, wanted string) {
	t.Helper()
	sum := sha256.Sum256(b)
	if got := hex.EncodeToString(sum[:]); got != wanted || len(b) != 592 {
		t.Errorf("%s: %d bytes: %s, not %s", what, len(b), got, wanted)
	}
}

// digits are the bytes of a text of digits.
func digits(text string) []byte {
	b, e := hex.DecodeString(strings.Join(strings.Fields(text), ""))
	if e != nil {
		panic(e)
	}
	return b
}

// What the tests hold the program against is held against what was worked out apart.
func TestModel(t *testing.T) {
	l := allApart()
	together(len(l), func(i int) { wantSum(t, l[i].name(), l[i].tale(t).text(), l[i].sum) })
	two := taleOf(padded(t, square()), whole(2), whole(3), 12)
	great := taleOf(padded(t, cube()), number(great1), number(great2), 25)
	if !slices.Equal(two.text(), digits(textOfSquare)) || !slices.Equal(great.text(), digits(textOfCube)) {
		t.Error("the examples")
	}
}

func TestToldApart(t *testing.T) {
	l := allApart()
	together(len(l), func(i int) {
		x := l[i]
		k := keyOf(t, x.name(), x.setup(t), x.circuit())
		b, e := k.Bytes()
		if e != api.OK {
			t.Errorf("%s: %v", x.name(), e)
		}
		wantSum(t, x.name(), b, x.sum)
		back, e := keys.Get(b)
		if e != api.OK {
			t.Errorf("%s, read: %v", x.name(), e)
		}
		wantSame(t, x.name(), back, k)
		again, e := back.Bytes()
		if e != api.OK {
			t.Errorf("%s, told again: %v", x.name(), e)
		}
		wantSum(t, x.name()+", told again", again, x.sum)
	})
}

// The two whose bytes stand here are read, and told again.
func TestReadApart(t *testing.T) {
	two, great := digits(textOfSquare), digits(textOfCube)
	want(t, "x x = y", got(t, "x x = y", two), taleOf(padded(t, square()), whole(2), whole(3), 12))
	want(t, "x x x + x + 5 = y", got(t, "x x x + x + 5 = y", great), taleOf(padded(t, cube()), number(great1), number(great2), 25))
	k := keyOf(t, "x x = y", made(t, whole(2), whole(3), 12), square())
	if b := textOf(t, "x x = y", k); !slices.Equal(b, two) {
		t.Errorf("x x = y: %x", b)
	}
	k = keyOf(t, "x x x + x + 5 = y", made(t, number(great1), number(great2), 25), cube())
	if b := textOf(t, "x x x + x + 5 = y", k); !slices.Equal(b, great) {
		t.Errorf("x x x + x + 5 = y: %x", b)
	}
}
